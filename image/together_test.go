package image

import (
	"regexp"
	"strconv"

	"jobcase/api"
	"jobcase/key"
	"jobcase/name"
)

var (
	nodeKey  = regexp.MustCompile(`^n(\d{3})$`)
	nodeVal  = regexp.MustCompile(`(?s)^([df])(\d{3})(\d{3}.*)$`)
	entryKey = regexp.MustCompile(`(?s)^e(\d{3})(.*)$`)
	entryVal = regexp.MustCompile(`(?s)^(\d{3})(.*)$`)
	nextVal  = regexp.MustCompile(`^(\d{3}|1000)$`)
)

type seenNode struct {
	id, up int
	folder bool
	tail   string
}

type seenEntry struct{ folder, node int }

// together: G2 word by word, without a look at how Parse goes about it.
func together(l []api.Change) bool {
	if !rise(l) {
		return false
	}
	var nodes []seenNode
	var entries []seenEntry
	next := 0
	for _, r := range l {
		n, isNode := asNode(r)
		e, isEntry := asEntry(r)
		isNext := r.Key == "x" && nextVal.MatchString(r.Val)
		if r.Gone || !isNode && !isEntry && !isNext {
			return false
		}
		if isNode {
			nodes = append(nodes, n)
		}
		if isEntry {
			entries = append(entries, e)
		}
		if isNext {
			next = atoi(r.Val)
		}
	}
	if len(nodes) > 16 {
		return false
	}
	for _, n := range nodes {
		if n.id < 1 || n.id >= next || !nodeFits(n, nodes, entries) {
			return false
		}
	}
	for _, e := range entries {
		up, is := byNumber(nodes, e.folder)
		_, named := byNumber(nodes, e.node)
		if !is || !up.folder || !named || e.node == 1 {
			return false
		}
	}
	root, is := byNumber(nodes, 1)
	return is && root.folder && root.up == 1
}

func atoi(s string) int {
	n, _ := strconv.Atoi(s)
	return n
}

func asNode(r api.Change) (seenNode, bool) {
	k, v := nodeKey.FindStringSubmatch(r.Key), textSubmatch(nodeVal, r.Val)
	if k == nil || v == nil {
		return seenNode{}, false
	}
	return seenNode{id: atoi(k[1]), folder: v[1] == "d", up: atoi(v[2]), tail: v[3]}, true
}

func asEntry(r api.Change) (seenEntry, bool) {
	k, v := textSubmatch(entryKey, r.Key), textSubmatch(entryVal, r.Val)
	if k == nil || v == nil || name.Check(v[2]) != nil || key.Of(v[2]) != k[2] {
		return seenEntry{}, false
	}
	return seenEntry{atoi(k[1]), atoi(v[1])}, true
}

// textSubmatch also of bytes that are no UTF-8: a sign of one byte stands for each.
func textSubmatch(re *regexp.Regexp, s string) []string {
	var wide []rune
	for _, b := range []byte(s) {
		wide = append(wide, rune(b))
	}
	var out []string
	for _, m := range re.FindStringSubmatch(string(wide)) {
		var b []byte
		for _, r := range m {
			b = append(b, byte(r))
		}
		out = append(out, string(b))
	}
	return out
}

func byNumber(nodes []seenNode, id int) (seenNode, bool) {
	for _, n := range nodes {
		if n.id == id {
			return n, true
		}
	}
	return seenNode{}, false
}

func nodeFits(n seenNode, nodes []seenNode, entries []seenEntry) bool {
	named, inUp := 0, false
	for _, e := range entries {
		if e.node == n.id {
			named++
			inUp = inUp || e.folder == n.up
		}
	}
	if !n.folder {
		return n.up == 0 && named >= 1 && tailFits(n.tail, named)
	}
	if n.tail != "001" {
		return false
	}
	if up, is := byNumber(nodes, n.up); !is || !up.folder {
		return false
	}
	if n.id == 1 {
		return true
	}
	at := n
	for range nodes {
		at, _ = byNumber(nodes, at.up)
	}
	return named == 1 && inUp && at.id == 1
}

// tailFits: is there a way to cut it into that many links, in three digits or, above 999, in more, and a text?
func tailFits(tail string, links int) bool {
	for i := 3; i <= len(tail); i++ {
		s := tail[:i]
		if n, err := strconv.ParseUint(s, 10, 31); err == nil && int(n) == links && (i == 3 || s[0] != '0') && len(tail)-i <= 20 {
			return true
		}
	}
	return false
}
