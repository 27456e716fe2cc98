package console

import "jobcase/fs"

// deed that a line asks for: how many texts stand behind its first word, and what is done, which answers. It is done only if there are so many.
type deed struct {
	texts int
	do    func() string
}

// deed of a word and the texts behind it; none, if there is no such word.
func (s *session) deed(word string, t ...string) deed {
	if d := s.changing(word, t...); d.do != nil {
		return d
	}
	switch word {
	case "stat":
		return deed{1, func() string { return stat(s.mount.FS(), t[0]) }}
	case "list":
		return deed{3, func() string {
			return numbered(t[2], func(many int) string { return list(s.mount.FS(), t[0], t[1], many) })
		}}
	case "name":
		return deed{1, func() string { return check(t[0]) }}
	case "order":
		return deed{2, func() string { return order(t[0], t[1]) }}
	case "save":
		return deed{0, s.save}
	case "arm":
		return deed{1, func() string { return numbered(t[0], s.arm) }}
	case "restart":
		return deed{1, func() string { return numbered(t[0], s.restart) }}
	}
	return deed{}
}

// changing: a deed that changes folders and files.
func (s *session) changing(word string, t ...string) deed {
	switch word {
	case "mkdir":
		return s.change(1, func(f *fs.FS) error { return f.Mkdir(t[0]) })
	case "rm":
		return s.change(1, func(f *fs.FS) error { return f.Remove(t[0], false) })
	case "rmdir":
		return s.change(1, func(f *fs.FS) error { return f.Remove(t[0], true) })
	case "create":
		return s.change(2, func(f *fs.FS) error { return f.Create(t[0], t[1]) })
	case "write":
		return s.change(2, func(f *fs.FS) error { return f.Write(t[0], t[1]) })
	case "link":
		return s.change(2, func(f *fs.FS) error { return f.Link(t[0], t[1]) })
	case "mv":
		return s.change(2, func(f *fs.FS) error { return f.Rename(t[0], t[1]) })
	}
	return deed{}
}

func (s *session) change(texts int, what func(f *fs.FS) error) deed {
	return deed{texts, func() string { return tell(s.mount.Do(what), done) }}
}
