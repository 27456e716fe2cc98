package image

import (
	"slices"
	"strconv"
	"strings"

	"jobcase/api"
	"jobcase/fs"
	"jobcase/name"
)

// draft of folders and files, as rows tell them, whether they go together or not.
type draft struct {
	nodes   map[int]*node
	entries map[int][]api.Entry
	next    int
}

// node: a tail, of Links and the text, can't be cut by itself, as Links may have more than three digits: how many entries name the node tells.
type node struct {
	kind  string
	up    int
	tail  string
	named int
	from  int // the folder of an entry that names it
}

// Parse rows that rise: folders and files.
func Parse(l []api.Change) (*fs.FS, error) {
	d := &draft{nodes: map[int]*node{}, entries: map[int][]api.Entry{}}
	for _, row := range l {
		if !d.read(row) {
			return nil, api.ErrText
		}
	}
	if !d.link() {
		return nil, api.ErrText
	}
	nodes, ok := d.together()
	if !ok {
		return nil, api.ErrText
	}
	f := fs.Of(nodes, d.entries, d.next)
	// whether rows rise, and how keys and numbers are written, is held against what would be written
	if !slices.Equal(Rows(f), l) {
		return nil, api.ErrText
	}
	return f, nil
}

// read a row: has it the shape of one?
func (d *draft) read(row api.Change) bool {
	if row.Key == ofNext {
		next, err := strconv.Atoi(row.Val)
		d.next = next
		return err == nil
	}
	if s, is := strings.CutPrefix(row.Key, ofNode); is {
		id, _, ok := cutNumber(s)
		return ok && d.readNode(id, row.Val)
	}
	if s, is := strings.CutPrefix(row.Key, ofEntry); is {
		folder, _, ok := cutNumber(s)
		return ok && d.readEntry(folder, row.Val)
	}
	return false
}

func (d *draft) readNode(id int, val string) bool {
	if val == "" {
		return false
	}
	up, tail, ok := cutNumber(val[1:])
	d.nodes[id] = &node{kind: val[:1], up: up, tail: tail}
	return ok
}

func (d *draft) readEntry(folder int, val string) bool {
	id, s, ok := cutNumber(val)
	d.entries[folder] = append(d.entries[folder], api.Entry{Name: s, Node: id})
	return ok && name.Check(s) == nil
}

// cutNumber off a text that begins with one of three digits.
func cutNumber(s string) (n int, rest string, ok bool) {
	if len(s) < digits {
		return 0, "", false
	}
	n, err := strconv.Atoi(s[:digits])
	if err != nil {
		return 0, "", false
	}
	return n, s[digits:], true
}

// link nodes to the entries that name them: are all of folders that are there, for nodes that are there but Root?
func (d *draft) link() bool {
	for folder, l := range d.entries {
		if !d.folder(folder) {
			return false
		}
		for _, e := range l {
			n, is := d.nodes[e.Node]
			if !is || e.Node == api.Root {
				return false
			}
			n.named++
			n.from = folder
		}
	}
	return true
}

func (d *draft) folder(id int) bool {
	n, is := d.nodes[id]
	return is && n.kind == aFolder
}

// together: the nodes, if all goes together.
func (d *draft) together() ([]api.Node, bool) {
	root, is := d.nodes[api.Root]
	if !is || root.kind != aFolder || root.up != api.Root {
		return nil, false
	}
	if len(d.nodes) > api.MaxNodes || d.next > api.MaxNode+1 {
		return nil, false
	}
	var l []api.Node
	for id, n := range d.nodes {
		made, ok := d.made(id, n)
		if !ok || id < 1 || id >= d.next {
			return nil, false
		}
		l = append(l, made)
	}
	return l, true
}

func (d *draft) made(id int, n *node) (api.Node, bool) {
	switch n.kind {
	case aFolder:
		folder := api.Node{ID: id, Kind: api.Folder, Up: n.up, Links: 1}
		return folder, n.tail == told(1) && d.hangs(id)
	case aFile:
		text, is := strings.CutPrefix(n.tail, told(n.named))
		file := api.Node{ID: id, Kind: api.Plain, Links: n.named, Text: text}
		return file, is && n.named > 0 && n.up == 0 && len(text) <= api.MaxText
	}
	return api.Node{}, false
}

// hangs: does a folder hang on Root, each one on the way up named just once, in the one above it? A way that is longer than there are nodes goes round.
func (d *draft) hangs(id int) bool {
	for range len(d.nodes) {
		if id == api.Root {
			return true
		}
		n := d.nodes[id]
		if n.named != 1 || n.from != n.up {
			return false
		}
		id = n.from // an entry's folder is there
	}
	return false
}
