package fs

import "jobcase/api"

// Mkdir: a folder is made.
func (f *FS) Mkdir(path string) error {
	return f.add(path, api.Node{Kind: api.Folder})
}

// Create a file.
func (f *FS) Create(path, text string) error {
	if len(text) > api.MaxText {
		return api.ErrMany
	}
	return f.add(path, api.Node{Kind: api.Plain, Text: text})
}

// add a node, of which kind and text are known, and its entry.
func (f *FS) add(path string, n api.Node) error {
	p, err := f.free(path)
	if err != nil {
		return err
	}
	if len(f.nodes) >= api.MaxNodes || f.next > api.MaxNode {
		return api.ErrFull
	}
	n.ID, n.Links = f.next, 1
	if n.Kind == api.Folder {
		n.Up = p.folder.ID
	}
	f.nodes[n.ID] = nodeOf(n, nil)
	f.next++
	p.put(n.ID)
	return nil
}

// Write a file's text.
func (f *FS) Write(path, text string) error {
	if len(text) > api.MaxText {
		return api.ErrMany
	}
	n, err := f.file(path)
	if err != nil {
		return err
	}
	n.Text = text
	f.nodes[n.ID] = n
	return nil
}

// Link: a file has one more entry.
func (f *FS) Link(path, to string) error {
	n, err := f.file(path)
	if err != nil {
		return err
	}
	p, err := f.free(to)
	if err != nil {
		return err
	}
	n.Links++
	f.nodes[n.ID] = n
	p.put(n.ID)
	return nil
}

func (f *FS) file(path string) (node, error) {
	n, err := f.find(path)
	if err != nil {
		return node{}, err
	}
	if n.Kind != api.Plain {
		return node{}, api.ErrKind
	}
	return n, nil
}

// Remove a file's entry, or an empty folder.
func (f *FS) Remove(path string, folder bool) error {
	p, e, err := f.taken(path)
	if err != nil {
		return err
	}
	kind := api.Plain
	if folder {
		kind = api.Folder
	}
	if err := f.mayGo(e, kind); err != nil {
		return err
	}
	f.unlink(p, e)
	return nil
}

// mayGo: an entry may, if it is for a node of that kind, and not for a folder that has entries.
func (f *FS) mayGo(e api.Entry, kind int) error {
	n := f.nodes[e.Node]
	if n.Kind != kind {
		return api.ErrKind
	}
	if n.folder() && n.entries.Many() > 0 {
		return api.ErrExist
	}
	return nil
}

// unlink a node: without an entry it is no more.
func (f *FS) unlink(p place, e api.Entry) {
	p.drop()
	n := f.nodes[e.Node]
	n.Links--
	if n.Links < 1 {
		delete(f.nodes, e.Node)
		return
	}
	f.nodes[e.Node] = n
}

// Rename an entry: it goes to another place, also instead of one of its kind.
func (f *FS) Rename(path, to string) error {
	from, e, err := f.taken(path)
	if err != nil {
		return err
	}
	goal, err := f.place(to)
	if err != nil {
		return err
	}
	n := f.nodes[e.Node]
	if n.folder() && f.within(goal.folder.ID, n.ID) {
		return api.ErrRound
	}
	if other, is := goal.get(); is && !goal.same(from) {
		if other.Node == e.Node {
			return nil
		}
		if err := f.mayGo(other, n.Kind); err != nil {
			return err
		}
		f.unlink(goal, other)
	}
	f.move(from, goal, e.Node)
	return nil
}

// within: is a folder that one, or in it? No way up is longer than there are nodes: so it ends, also if the nodes that were handed in go round.
func (f *FS) within(id, outer int) bool {
	for range len(f.nodes) {
		if id == outer {
			return true
		}
		id = f.nodes[id].Up
	}
	return false
}

// move drops ahead of putting, as both places may be the same.
func (f *FS) move(from, goal place, id int) {
	from.drop()
	goal.put(id)
	if n := f.nodes[id]; n.folder() {
		n.Up = goal.folder.ID
		f.nodes[id] = n
	}
}
