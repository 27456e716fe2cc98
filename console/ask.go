package console

import (
	"strconv"

	"jobcase/api"
	"jobcase/fs"
	"jobcase/key"
	"jobcase/name"
)

// most: the greatest number that a line may have.
const most = 999

// numbered: what is done with a number, if the text is one. Told again it is the same text just if it has no sign and no noughts ahead.
func numbered(text string, what func(n int) string) string {
	n, err := strconv.Atoi(text)
	if err != nil || n < 0 || n > most || strconv.Itoa(n) != text {
		return tell(api.ErrText)
	}
	return what(n)
}

func stat(f *fs.FS, path string) string {
	n, err := f.Find(path)
	id := strconv.Itoa(n.ID)
	if n.Kind == api.Folder {
		return tell(err, "folder", id, "up", strconv.Itoa(n.Up))
	}
	return tell(err, "file", id, "links", strconv.Itoa(n.Links), n.Text)
}

// none: as a name, nothing to list behind; as an answer, nothing that was listed.
const none = "-"

func list(f *fs.FS, path, after string, many int) string {
	if after == none {
		after = ""
	}
	l, err := f.List(path, after, many)
	var words []string
	for _, e := range l {
		words = append(words, e.Name+"="+strconv.Itoa(e.Node))
	}
	if len(words) == 0 {
		words = []string{none}
	}
	return tell(err, words...)
}

func check(s string) string { return tell(name.Check(s), done) }

func order(a, b string) string {
	if name.Check(a) != nil || name.Check(b) != nil {
		return tell(api.ErrShape)
	}
	c := key.Compare(a, b)
	switch {
	case c < 0:
		return "below"
	case c > 0:
		return "above"
	}
	return "alike"
}
