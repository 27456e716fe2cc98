package fs

import (
	"jobcase/api"
	"jobcase/key"
	"jobcase/name"
)

const (
	itself = "."
	above  = ".."
)

func (f *FS) find(path string) (node, error) {
	parts, err := name.Parts(path)
	if err != nil {
		return node{}, err
	}
	return f.walk(parts)
}

func (f *FS) walk(parts []string) (node, error) {
	n := f.nodes[api.Root]
	for _, part := range parts {
		var err error
		if n, err = f.step(n, part); err != nil {
			return node{}, err
		}
	}
	return n, nil
}

func (f *FS) step(n node, part string) (node, error) {
	if !n.folder() {
		return node{}, api.ErrKind
	}
	switch part {
	case itself:
		return n, nil
	case above:
		return f.nodes[n.Up], nil
	}
	e, is := n.entries.Get(key.Of(part))
	if !is {
		return node{}, api.ErrNone
	}
	return f.nodes[e.Node], nil
}

// place of an entry that is there, or might be: two are the same, if their folders and keys are, whatever their names.
type place struct {
	folder node
	key    string
	name   string
}

func (p place) same(q place) bool {
	return p.folder.ID == q.folder.ID && p.key == q.key
}

func (p place) get() (api.Entry, bool) {
	return p.folder.entries.Get(p.key)
}

func (p place) put(id int) {
	p.folder.entries.Put(p.key, api.Entry{Name: p.name, Node: id})
}

func (p place) drop() {
	p.folder.entries.Drop(p.key)
}

func (f *FS) place(path string) (place, error) {
	parts, err := name.Parts(path)
	if err != nil {
		return place{}, err
	}
	end := len(parts) - 1
	if end < 0 || parts[end] == itself || parts[end] == above {
		return place{}, api.ErrShape
	}
	folder, err := f.walk(parts[:end])
	if err != nil {
		return place{}, err
	}
	if !folder.folder() {
		return place{}, api.ErrKind
	}
	return place{folder, key.Of(parts[end]), parts[end]}, nil
}

// free place: no entry is there.
func (f *FS) free(path string) (place, error) {
	p, err := f.place(path)
	if err != nil {
		return place{}, err
	}
	if _, is := p.get(); is {
		return place{}, api.ErrExist
	}
	return p, nil
}

// taken place: an entry is there.
func (f *FS) taken(path string) (place, api.Entry, error) {
	p, err := f.place(path)
	if err != nil {
		return place{}, api.Entry{}, err
	}
	e, is := p.get()
	if !is {
		return place{}, api.Entry{}, api.ErrNone
	}
	return p, e, nil
}
