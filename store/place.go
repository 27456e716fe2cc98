package store

import (
	"iter"
	"strings"

	"jobcase/api"
	"jobcase/disk"
	"jobcase/little"
	"jobcase/row"
)

// Where things are on a disk: the head; two halves, in which all rows are laid by turns; the log.
const (
	headAt  = 0
	halfAt  = 1
	perHalf = (api.MaxRows*(longest+1) + api.Sector - 1) / api.Sector
	logAt   = 90
	fewest  = 104
)

// longest bytes of a row (I2).
const longest = 2 + api.MaxKey + api.MaxVal

// mark that a head begins with.
const mark = "jobcase store\n"

// How many bytes each part of a head has.
const (
	ofHalf  = 1
	ofBytes = 2
	ofFirst = 4
)

// head: in which half the rows are, in how many bytes, and the number that the log begins with.
type head struct{ half, bytes, first int }

// start: the sector that a half begins with.
func start(half int) int { return halfAt + half*perHalf }

// tell a head. The log's numbers count modulo 2 to the power 32, and aren't 0: so the one ahead of the first is told.
func (h head) tell() string {
	return mark + little.Bytes(uint32(h.half), ofHalf) + little.Bytes(uint32(h.bytes), ofBytes) + little.Bytes(uint32(h.first-1), ofFirst)
}

// readHead of a disk, if there is one.
func readHead(d *disk.Disk) (head, error) {
	s, err := d.Read(headAt)
	if err != nil {
		return head{}, err
	}
	s, ok := strings.CutPrefix(s, mark)
	if !ok || d.Sectors() < fewest {
		return head{}, api.ErrText
	}
	half, s := take(s, ofHalf)
	bytes, s := take(s, ofBytes)
	first, _ := take(s, ofFirst)
	if half > 1 || bytes > perHalf*api.Sector {
		return head{}, api.ErrText
	}
	return head{half, bytes, first + 1}, nil
}

// take a number from a text's beginning.
func take(s string, bytes int) (n int, rest string) {
	return int(little.Number(s[:bytes])), s[bytes:]
}

// textOf rows: of each how many bytes it has, and these.
func textOf(rows []api.Change) (string, error) {
	var text strings.Builder
	for _, c := range rows {
		s, err := row.Bytes(c)
		if err != nil {
			return "", err
		}
		text.WriteString(little.Bytes(uint32(len(s)), 1) + s)
	}
	return text.String(), nil
}

// cut a text into pieces that have room in a sector.
func cut(text string) iter.Seq2[int, string] {
	return func(yield func(int, string) bool) {
		for i := 0; text != ""; i++ {
			n := min(len(text), api.Sector)
			if !yield(i, text[:n]) {
				return
			}
			text = text[n:]
		}
	}
}

// readRows that a head tells of.
func readRows(d *disk.Disk, h head) ([]api.Change, error) {
	var text strings.Builder
	for i := 0; text.Len() < h.bytes; i++ {
		s, err := d.Read(start(h.half) + i)
		if err != nil {
			return nil, err
		}
		text.WriteString(s[:min(len(s), h.bytes-text.Len())])
	}
	return rowsOf(text.String())
}

// rowsOf a text: they rise by their keys, and none is gone.
func rowsOf(text string) ([]api.Change, error) {
	var rows []api.Change
	last := ""
	for text != "" {
		n, rest := take(text, 1)
		if n > len(rest) {
			return nil, api.ErrText
		}
		c, err := row.Parse(rest[:n])
		if err != nil || c.Gone || c.Key <= last {
			return nil, api.ErrText
		}
		rows = append(rows, c)
		last, text = c.Key, rest[n:]
	}
	return rows, nil
}
