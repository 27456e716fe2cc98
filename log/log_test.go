package log

import (
	"fmt"
	"math"
	"slices"
	"strings"
	"testing"

	"jobcase/api"
	"jobcase/disk"
)

func newDisk(t *testing.T, n int) *disk.Disk {
	t.Helper()
	d, err := disk.New(n)
	if err != nil {
		t.Fatal(err)
	}
	return d
}

// newLog on a disk, with the deeds that stand there.
func newLog(t *testing.T, d *disk.Disk, from, many, first int) (*Log, [][]api.Change) {
	t.Helper()
	l, deeds, err := Open(d, from, many, first)
	if err != nil {
		t.Fatal(err)
	}
	return l, deeds
}

// write sectors, one behind the other, for good.
func write(t *testing.T, d *disk.Disk, from int, sectors ...string) {
	t.Helper()
	for i, s := range sectors {
		if err := d.Write(from+i, s); err != nil {
			t.Fatal(err)
		}
	}
	if err := d.Flush(); err != nil {
		t.Fatal(err)
	}
}

func add(t *testing.T, l *Log, c ...api.Change) {
	t.Helper()
	if err := l.Add(c); err != nil {
		t.Fatal(err)
	}
}

// raw sector, as J1 has it, told by a way of its own.
func raw(kind byte, number int, body string) string {
	n, m := uint32(number), len(body)
	return string([]byte{kind, byte(n), byte(n >> 8), byte(n >> 16), byte(n >> 24), byte(m), byte(m >> 8)}) + body
}

// end of a deed of so many changes.
func end(number, many int) string {
	return raw('c', number, string([]byte{byte(many), byte(many >> 8), byte(many >> 16), byte(many >> 24)}))
}

func put(k, v string) api.Change   { return api.Change{Key: k, Val: v} }
func gone(k string) api.Change     { return api.Change{Key: k, Gone: true} }
func told(l [][]api.Change) string { return fmt.Sprint(len(l), l) }

// TestOpenBounds: J1.
func TestOpenBounds(t *testing.T) {
	d := newDisk(t, 10)
	for _, x := range []struct {
		from, many, first int
		want              error
	}{
		{0, 10, 1, nil},
		{0, 1, 1, nil},
		{9, 1, 1, nil},
		{3, 7, math.MaxInt, nil},
		{-1, 5, 1, api.ErrBound},
		{math.MinInt, 5, 1, api.ErrBound},
		{0, 0, 1, api.ErrBound},
		{0, -1, 1, api.ErrBound},
		{0, math.MinInt, 1, api.ErrBound},
		{0, 5, 0, api.ErrBound},
		{0, 5, -1, api.ErrBound},
		{0, 5, math.MinInt, api.ErrBound},
		{0, 11, 1, api.ErrBound},
		{3, 8, 1, api.ErrBound},
		{10, 1, 1, api.ErrBound},
		{9, 2, 1, api.ErrBound},
		{1, math.MaxInt, 1, api.ErrBound},
		{math.MaxInt, 1, 1, api.ErrBound},
		{math.MaxInt, math.MaxInt, 1, api.ErrBound},
	} {
		l, deeds, err := Open(d, x.from, x.many, x.first)
		if err != x.want || (l == nil) != (err != nil) || len(deeds) > 0 {
			t.Errorf("Open(%d, %d, %d): %v %v %v", x.from, x.many, x.first, l, deeds, err)
		}
		if l != nil && (l.Room() != x.many || l.Next() != x.first+x.many) {
			t.Errorf("Open(%d, %d, %d): Room %d, Next %d", x.from, x.many, x.first, l.Room(), l.Next())
		}
	}
	d.Arm(0)
	_ = d.Flush()
	if l, deeds, err := Open(d, 0, 10, 1); l != nil || deeds != nil || err != api.ErrDown {
		t.Errorf("of a disk that is down: %v %v %v", l, deeds, err)
	}
	if _, _, err := Open(d, 0, 11, 1); err != api.ErrBound {
		t.Errorf("out of bounds of a disk that is down: %v", err)
	}
}

// TestSectors: J1: how a deed stands on the disk.
func TestSectors(t *testing.T) {
	for _, first := range []int{1, 300, 1<<32 - 1, 1 << 32, math.MaxInt} {
		d := newDisk(t, 10)
		l, _ := newLog(t, d, 2, 7, first)
		add(t, l, put("ab", "cde"), gone("x"))
		add(t, l)
		add(t, l, put("k", ""))
		want := []string{
			"", "",
			raw('o', first, "\x00\x02abcde"),
			raw('o', first+1, "\x01\x01x"),
			end(first+2, 2),
			end(first+3, 0),
			raw('o', first+4, "\x00\x01k"),
			end(first+5, 1),
			"", "",
		}
		for i, w := range want {
			if got, err := d.Read(i); err != nil || strings.TrimRight(got, "\x00") != strings.TrimRight(w, "\x00") {
				t.Errorf("from %d on, the sector %d: %q, not %q", first, i, got, w)
			}
		}
		if l.Room() != 1 || l.Next() != first+7 {
			t.Errorf("from %d on: Room %d, Next %d", first, l.Room(), l.Next())
		}
		again, deeds := newLog(t, d, 2, 7, first)
		if got := told(deeds); got != told([][]api.Change{{put("ab", "cde"), gone("x")}, {}, {put("k", "")}}) || again.Room() != 1 {
			t.Errorf("from %d on: %s, Room %d", first, got, again.Room())
		}
		if _, deeds := newLog(t, d, 2, 7, first%1000+1); len(deeds) > 0 {
			t.Errorf("by other numbers: %v", deeds)
		}
	}
}

// TestReadDeeds: J1: how far deeds are read that stand on sectors; the log has numbers from 7 on.
func TestReadDeeds(t *testing.T) {
	o := func(n int, k string) string { return raw('o', n, "\x00\x01"+k) }
	tail := strings.Repeat("\xee", 30)
	long := put(strings.Repeat("k", 48), strings.Repeat("v", 44))
	for _, x := range []struct {
		what    string
		sectors []string
		want    [][]api.Change
		used    int
	}{
		{"nothing", nil, nil, 0},
		{"one", []string{o(7, "a"), end(8, 1)}, [][]api.Change{{put("a", "")}}, 2},
		{"an empty one", []string{end(7, 0)}, [][]api.Change{{}}, 1},
		{"anything behind", []string{o(7, "a") + tail, end(8, 1) + tail}, [][]api.Change{{put("a", "")}}, 2},
		{"two", []string{end(7, 0), o(8, "a"), o(9, "b"), end(10, 2)}, [][]api.Change{{}, {put("a", ""), put("b", "")}}, 4},
		{"all sectors", []string{o(7, "a"), o(8, "b"), o(9, "c"), o(10, "d"), o(11, "e"), end(12, 5)}, [][]api.Change{{put("a", ""), put("b", ""), put("c", ""), put("d", ""), put("e", "")}}, 6},
		{"a whole row", []string{raw('o', 7, "\x00\x30"+long.Key+long.Val), end(8, 1)}, [][]api.Change{{long}}, 2},
		{"gone", []string{raw('o', 7, "\x01\x01a"), end(8, 1)}, [][]api.Change{{gone("a")}}, 2},
		{"without an end", []string{end(7, 0), o(8, "a"), o(9, "b")}, [][]api.Change{{}}, 1},
		{"changes up to the last sector", []string{o(7, "a"), o(8, "b"), o(9, "c"), o(10, "d"), o(11, "e"), o(12, "f")}, nil, 0},
		{"another kind", []string{end(7, 0), "x" + o(8, "a")[1:], end(9, 1)}, [][]api.Change{{}}, 1},
		{"a capital", []string{end(7, 0), "C" + end(8, 0)[1:]}, [][]api.Change{{}}, 1},
		{"another number", []string{end(7, 0), end(9, 0)}, [][]api.Change{{}}, 1},
		{"the last one's number", []string{end(7, 0), end(7, 0)}, [][]api.Change{{}}, 1},
		{"a number above", []string{end(7, 0), end(8+1<<24, 0)}, [][]api.Change{{}}, 1},
		{"too few changes", []string{end(7, 0), o(8, "a"), end(9, 2)}, [][]api.Change{{}}, 1},
		{"too many changes", []string{end(7, 0), o(8, "a"), end(9, 0)}, [][]api.Change{{}}, 1},
		{"changes since the last end alone", []string{o(7, "a"), end(8, 1), o(9, "b"), end(10, 2)}, [][]api.Change{{put("a", "")}}, 2},
		{"a great count", []string{o(7, "a"), end(8, 1+1<<8)}, nil, 0},
		{"a count of three bytes", []string{raw('c', 7, "\x00\x00\x00")}, nil, 0},
		{"a count of five bytes", []string{raw('c', 7, "\x00\x00\x00\x00\x00")}, nil, 0},
		{"no count", []string{raw('c', 7, "")}, nil, 0},
		{"no change's bytes", []string{end(7, 0), raw('o', 8, "\x02\x01a"), end(9, 1)}, [][]api.Change{{}}, 1},
		{"nothing of a change", []string{end(7, 0), raw('o', 8, ""), end(9, 1)}, [][]api.Change{{}}, 1},
		{"a change that may not be", []string{end(7, 0), raw('o', 8, "\x01\x01ab"), end(9, 1)}, [][]api.Change{{}}, 1},
		{"as long as may be, but no change", []string{raw('o', 7, strings.Repeat("\x00", api.Sector-7)), end(8, 1)}, nil, 0},
		{"too long", []string{raw('o', 7, "\x00\x01a")[:5] + "\x86\x00\x00\x01a", end(8, 1)}, nil, 0},
		{"far too long", []string{raw('o', 7, "\x00\x01a")[:5] + "\xff\xff\x00\x01a", end(8, 1)}, nil, 0},
		{"nothing behind a gap", []string{end(7, 0), "", end(9, 0)}, [][]api.Change{{}}, 1},
		{"a gap ahead", []string{"", end(8, 0)}, nil, 0},
	} {
		d := newDisk(t, 12)
		write(t, d, 3, x.sectors...)
		l, deeds := newLog(t, d, 3, 6, 7)
		if told(deeds) != told(x.want) || l.Room() != 6-x.used || l.Next() != 13 {
			t.Errorf("%s: %v, Room %d, Next %d", x.what, deeds, l.Room(), l.Next())
		}
	}
}

// TestManyChanges: J1: a deed of more changes than one may add is one.
func TestManyChanges(t *testing.T) {
	d := newDisk(t, 30)
	for i := range 20 {
		write(t, d, i, raw('o', 1+i, "\x00\x01a"))
	}
	write(t, d, 20, end(21, 20))
	if l, deeds := newLog(t, d, 0, 30, 1); len(deeds) != 1 || len(deeds[0]) != 20 || l.Room() != 9 {
		t.Errorf("%v, Room %d", deeds, l.Room())
	}
}

// TestAddErrors: J2, and what is told first.
func TestAddErrors(t *testing.T) {
	many := func(n int, last api.Change) []api.Change {
		l := make([]api.Change, n)
		for i := range l {
			l[i] = put(fmt.Sprint("k", i), "v")
		}
		return append(l[:n-1], last)
	}
	good, shape, long := put("z", ""), api.Change{}, put(strings.Repeat("k", 49), "")
	for _, x := range []struct {
		what string
		room int
		c    []api.Change
		want error
	}{
		{"the most", 13, many(12, good), nil},
		{"more than the most", 14, many(13, good), api.ErrMany},
		{"more than the most, without room", 3, many(13, shape), api.ErrMany},
		{"all the room", 4, many(3, good), nil},
		{"one too many", 3, many(3, good), api.ErrFull},
		{"one too many, one of them wrong", 3, many(3, shape), api.ErrFull},
		{"empty", 1, nil, nil},
		{"wrong", 9, many(2, shape), api.ErrShape},
		{"too long", 9, many(2, long), api.ErrMany},
		{"the first one's", 9, []api.Change{long, shape}, api.ErrMany},
		{"the first one's", 9, []api.Change{good, shape, long}, api.ErrShape},
	} {
		d := newDisk(t, 20)
		l, _ := newLog(t, d, 1, x.room, 5)
		was := all(t, d)
		if err := l.Add(x.c); err != x.want {
			t.Errorf("%s: %v, not %v", x.what, err, x.want)
		}
		again, deeds := newLog(t, d, 1, x.room, 5)
		if x.want != nil {
			if l.Room() != x.room || len(deeds) > 0 || !slices.Equal(all(t, d), was) {
				t.Errorf("%s: it is refused, and something is changed", x.what)
			}
			continue
		}
		if told(deeds) != told([][]api.Change{x.c}) || l.Room() != x.room-len(x.c)-1 || again.Room() != l.Room() {
			t.Errorf("%s: %v, Room %d", x.what, deeds, l.Room())
		}
	}
}

// all sectors of a disk.
func all(t *testing.T, d *disk.Disk) []string {
	t.Helper()
	var l []string
	for i := range d.Sectors() {
		s, err := d.Read(i)
		if err != nil {
			t.Fatal(err)
		}
		l = append(l, s)
	}
	return l
}

// TestAddWhenFull: J2: without room nothing more comes in, and nothing of the disk but the log's sectors is touched.
func TestAddWhenFull(t *testing.T) {
	d := newDisk(t, 8)
	write(t, d, 0, "before", "", "", "", "", "behind")
	l, _ := newLog(t, d, 1, 4, 1)
	add(t, l, put("a", "1"))
	add(t, l)
	add(t, l)
	if l.Room() != 0 {
		t.Errorf("Room %d", l.Room())
	}
	if err := l.Add(nil); err != api.ErrFull {
		t.Errorf("without room: %v", err)
	}
	s := all(t, d)
	if !strings.HasPrefix(s[0], "before\x00") || !strings.HasPrefix(s[5], "behind\x00") {
		t.Error("sectors of others are touched")
	}
	if _, deeds := newLog(t, d, 1, 4, 1); len(deeds) != 3 {
		t.Errorf("%v", deeds)
	}
}

// TestAddToDown: J2: the disk's errors come last.
func TestAddToDown(t *testing.T) {
	d := newDisk(t, 5)
	l, _ := newLog(t, d, 0, 5, 1)
	add(t, l, put("a", "1"))
	d.Arm(0)
	_ = d.Flush()
	for _, x := range []struct {
		c    []api.Change
		want error
	}{
		{nil, api.ErrDown},
		{[]api.Change{put("a", "1")}, api.ErrDown},
		{make([]api.Change, 3), api.ErrFull},
		{make([]api.Change, 13), api.ErrMany},
		{make([]api.Change, 1), api.ErrShape},
	} {
		if err := l.Add(x.c); err != x.want {
			t.Errorf("Add(%v) to a disk that is down: %v", x.c, err)
		}
	}
	if l.Room() != 3 {
		t.Errorf("Room %d", l.Room())
	}
}

// TestNothingIsKept: Z2: what is handed in stays, and what comes out is the caller's.
func TestNothingIsKept(t *testing.T) {
	d := newDisk(t, 20)
	l, _ := newLog(t, d, 0, 20, 1)
	c := []api.Change{put("a", "1"), put("b", "2"), put("c", "3")}
	add(t, l, c[:2]...)
	if !slices.Equal(c, []api.Change{put("a", "1"), put("b", "2"), put("c", "3")}) {
		t.Errorf("what was handed in is %v", c)
	}
	add(t, l, c[1:]...)
	c[0].Key = "mine"
	_, deeds := newLog(t, d, 0, 20, 1)
	want := told(deeds)
	one := append(deeds[0], put("x", ""), put("y", ""))
	one[0].Key = "mine"
	if got := told(deeds[1:]); got != told([][]api.Change{{put("b", "2"), put("c", "3")}}) {
		t.Errorf("deeds have memory in common: %s", got)
	}
	if _, deeds := newLog(t, d, 0, 20, 1); told(deeds) != want {
		t.Errorf("%v, not %s", deeds, want)
	}
}
