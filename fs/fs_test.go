package fs

import (
	"fmt"
	"math"
	"math/rand"
	"slices"
	"strings"
	"testing"

	"jobcase/api"
)

// act: what is done, to what, and what comes out.
type act struct {
	what, a, b string
	want       api.Errno
}

func (x act) do(f *FS) error {
	switch x.what {
	case "mkdir":
		return f.Mkdir(x.a)
	case "create":
		return f.Create(x.a, x.b)
	case "write":
		return f.Write(x.a, x.b)
	case "link":
		return f.Link(x.a, x.b)
	case "rm":
		return f.Remove(x.a, false)
	case "rmdir":
		return f.Remove(x.a, true)
	case "mv":
		return f.Rename(x.a, x.b)
	}
	panic("no such act: " + x.what)
}

// same holds errors bare against each other: a wrapped one is another one.
func same(got error, want api.Errno) bool {
	if want == api.OK {
		return got == nil
	}
	return got == error(want)
}

// run acts, one behind the other; what is refused changes nothing.
func run(t *testing.T, f *FS, acts ...act) *FS {
	t.Helper()
	for _, x := range acts {
		was := told(f)
		err := x.do(f)
		if !same(err, x.want) {
			t.Errorf("%s %q %q: %v, want %d, in\n%s", x.what, x.a, x.b, err, x.want, was)
		}
		if err != nil && told(f) != was {
			t.Errorf("%s %q %q: %v, but it became\n%s\nof\n%s", x.what, x.a, x.b, err, told(f), was)
		}
	}
	return f
}

// made by acts that all are done.
func made(t *testing.T, acts string) *FS {
	t.Helper()
	f := New()
	for _, line := range strings.Split(acts, "; ") {
		w := append(strings.Fields(line), "")
		run(t, f, act{w[0], w[1], w[2], api.OK})
	}
	return f
}

func is(t *testing.T, f *FS, path string, want api.Node) {
	t.Helper()
	if got, err := f.Find(path); got != want || err != nil {
		t.Errorf("Find(%q) = %+v, %v, want %+v", path, got, err, want)
	}
}

func isNot(t *testing.T, f *FS, path string, want api.Errno) {
	t.Helper()
	if got, err := f.Find(path); got != (api.Node{}) || !same(err, want) {
		t.Errorf("Find(%q) = %+v, %v, want %d", path, got, err, want)
	}
}

// names of a folder and their nodes, as the console tells them.
func names(t *testing.T, f *FS, path, want string) {
	t.Helper()
	l, err := f.List(path, "", 99)
	if got := listed(l); got != want || err != nil {
		t.Errorf("List(%q) = %q, %v, want %q", path, got, err, want)
	}
}

func listed(l []api.Entry) string {
	var out []string
	for _, e := range l {
		out = append(out, fmt.Sprintf("%s=%d", e.Name, e.Node))
	}
	return strings.Join(out, " ")
}

func folder(id, up int) api.Node {
	return api.Node{ID: id, Kind: api.Folder, Up: up, Links: 1}
}

func file(id, links int, text string) api.Node {
	return api.Node{ID: id, Kind: api.Plain, Links: links, Text: text}
}

func TestF1New(t *testing.T) {
	f := New()
	l, next := f.Nodes()
	if want := []api.Node{folder(1, 1)}; !slices.Equal(l, want) || next != 2 {
		t.Errorf("Nodes() = %v, %d, want %v, 2", l, next, want)
	}
	if l := f.Entries(1); len(l) != 0 {
		t.Errorf("Entries(1) = %v", l)
	}
	is(t, f, "/", folder(1, 1))
	run(t, New(), act{"mkdir", "/a", "", api.OK})
	names(t, f, "/", "")
}

func TestF1EntriesStandByKeys(t *testing.T) {
	f := made(t, "mkdir /d; create /Chapel; create /czar; create /cz; create /\u00e9a; create /eb; create /e; create /\u00e9")
	names(t, f, "/", "cz=5 czar=4 Chapel=3 d=2 e=8 \u00e9=9 \u00e9a=6 eb=7")
}

func TestF2Find(t *testing.T) {
	f := made(t, "mkdir /a; mkdir /a/b; create /a/f hay; mkdir /c")
	for path, want := range map[string]api.Node{
		"/":             folder(1, 1),
		"/.":            folder(1, 1),
		"/..":           folder(1, 1),
		"/../..":        folder(1, 1),
		"/a":            folder(2, 1),
		"/A/.":          folder(2, 1),
		"/a/..":         folder(1, 1),
		"/a/b":          folder(3, 2),
		"/a/b/..":       folder(2, 1),
		"/a/b/../..":    folder(1, 1),
		"/a/b/../../C":  folder(5, 1),
		"/./../a/./b/.": folder(3, 2),
		"/a/f":          file(4, 1, "hay"),
		"/c/../A/F":     file(4, 1, "hay"),
	} {
		is(t, f, path, want)
	}
	for path, want := range map[string]api.Errno{
		"":                 api.ErrShape,
		"a":                api.ErrShape,
		"/a/":              api.ErrBound,
		"//":               api.ErrBound,
		"/\xff":            api.ErrText,
		"/none/\u0301":     api.ErrShape, // Parts' error is ahead of the walk's
		"/a/f/\u00f1":      api.ErrShape,
		"/a/a/a/a/a/a/a":   api.ErrMany,
		"/none":            api.ErrNone,
		"/none/..":         api.ErrNone,
		"/a/a":             api.ErrNone,
		"/none/a":          api.ErrNone,
		"/b":               api.ErrNone,
		"/a/f/.":           api.ErrKind,
		"/a/f/..":          api.ErrKind,
		"/a/f/none":        api.ErrKind,
		"/a/f/none/../..":  api.ErrKind,
		"/a/f/../../none":  api.ErrKind,
		"/none/../a/f/../": api.ErrBound,
	} {
		isNot(t, f, path, want)
	}
}

// TestW1: however a path is written it leads to the same node.
func TestW1(t *testing.T) {
	ways := [][]string{
		{"\u00c4b", "\u00e4B", "a\u0308b", "A\u0308B"},
		{"\u00c7\u03a3", "c\u0327\u03c2", "C\u0327\u03c3", "\u00e7\u03c2"},
		{"e\u0327\u0301", "e\u0301\u0327", "\u00e9\u0327", "\u00c9\u0327", "E\u0327\u0301"},
	}
	for i := range ways[0] {
		f := New()
		a, b, c := ways[0][i], ways[1][i], ways[2][i]
		run(t, f, act{"mkdir", "/" + a, "", api.OK}, act{"mkdir", "/" + a + "/" + b, "", api.OK}, act{"create", "/" + a + "/" + b + "/" + c, "hay", api.OK})
		for _, a2 := range ways[0] {
			for _, b2 := range ways[1] {
				is(t, f, "/"+a2+"/"+b2, folder(3, 2))
				for _, c2 := range ways[2] {
					path := "/" + a2 + "/" + b2 + "/" + c2
					is(t, f, path, file(4, 1, "hay"))
					run(t, f, act{"mkdir", path, "", api.ErrExist}, act{"create", path, "", api.ErrExist}, act{"link", path, path, api.ErrExist})
				}
			}
		}
		names(t, f, "/", a+"=2")
		names(t, f, "/"+a, b+"=3")
		names(t, f, "/"+a+"/"+b, c+"=4")
	}
}

// TestW1MarksOfOneClass: their order is part of a name.
func TestW1MarksOfOneClass(t *testing.T) {
	f := made(t, "mkdir /e\u0301\u0300; mkdir /e\u0300\u0301")
	is(t, f, "/\u00c9\u0300", folder(2, 1))
	is(t, f, "/\u00c8\u0301", folder(3, 1))
}

// TestF3Place: of all who ask for one.
func TestF3Place(t *testing.T) {
	long := "/" + strings.Repeat("a", 80)
	wrong := map[string]api.Errno{
		"":               api.ErrShape,
		"n":              api.ErrShape,
		long:             api.ErrMany,
		"/a/a/a/a/a/a/a": api.ErrMany,
		"//n":            api.ErrBound,
		"/n/":            api.ErrBound,
		"/\xff":          api.ErrText,
		"/none/\xff":     api.ErrText,
		"/\u0301":        api.ErrShape,
		"/":              api.ErrShape,
		"/.":             api.ErrShape,
		"/..":            api.ErrShape,
		"/d/.":           api.ErrShape,
		"/d/..":          api.ErrShape,
		"/none/.":        api.ErrShape, // ahead of the walk's error
		"/f/..":          api.ErrShape,
		"/none/n":        api.ErrNone,
		"/none/../n":     api.ErrNone,
		"/f/n":           api.ErrKind,
		"/f/../n":        api.ErrKind,
		"/f/n/n":         api.ErrKind,
		"/d/../f/n":      api.ErrKind,
	}
	for path, want := range wrong {
		run(t, made(t, "mkdir /d; create /f hay; create /g"),
			act{"mkdir", path, "", want},
			act{"create", path, "", want},
			act{"link", "/f", path, want},
			act{"rm", path, "", want},
			act{"rmdir", path, "", want},
			act{"mv", path, "/n", want},
			act{"mv", path, "", want}, // of several the first one's
			act{"mv", "/f", path, want},
			act{"mv", "/d", path, want})
	}
	run(t, made(t, "mkdir /d; create /f hay"),
		act{"mkdir", "/./../d/./N", "", api.OK},
		act{"mkdir", "/D/n", "", api.ErrExist},
		act{"mkdir", "/F", "", api.ErrExist},
		act{"create", "/F", "", api.ErrExist},
		act{"create", "/d", "", api.ErrExist},
		act{"link", "/f", "/F", api.ErrExist},
		act{"link", "/f", "/D", api.ErrExist})
}

func TestF4MkdirAndCreate(t *testing.T) {
	f := New()
	twenty := strings.Repeat("z", api.MaxText)
	run(t, f,
		act{"mkdir", "/Äb", "", api.OK},
		act{"mkdir", "/äB", "", api.ErrExist},
		act{"create", "/äb/F", twenty, api.OK},
		act{"create", "/äb/g", twenty + "z", api.ErrMany},
		act{"create", "", twenty + "z", api.ErrMany}, // ahead of the path's error
		act{"create", "/äb/f", twenty + "z", api.ErrMany},
		act{"create", "/g", "", api.OK},
		act{"mkdir", "/äb/../äb/in", "", api.OK},
		act{"create", "/b", "\x00\xff|/", api.OK})
	is(t, f, "/äb", folder(2, 1))
	is(t, f, "/äb/f", file(3, 1, twenty))
	is(t, f, "/g", file(4, 1, ""))
	is(t, f, "/äb/in", folder(5, 2))
	is(t, f, "/b", file(6, 1, "\x00\xff|/"))
	names(t, f, "/", "Äb=2 b=6 g=4")
	names(t, f, "/äb", "F=3 in=5")
}

func TestF4FullOfNodes(t *testing.T) {
	f := New()
	for i := 2; i <= api.MaxNodes; i++ {
		run(t, f, act{"mkdir", fmt.Sprint("/", i), "", api.OK})
	}
	run(t, f,
		act{"mkdir", "/a", "", api.ErrFull},
		act{"create", "/a", "", api.ErrFull},
		act{"create", "/2/a", "hay", api.ErrFull},
		act{"mkdir", "/2", "", api.ErrExist}, // the path's errors are ahead
		act{"mkdir", "/a/a", "", api.ErrNone},
		act{"mkdir", "/", "", api.ErrShape},
		act{"create", "/a", strings.Repeat("z", 21), api.ErrMany},
		act{"rmdir", "/9", "", api.OK},
		act{"create", "/9", "hay", api.OK},
		act{"link", "/9", "/a", api.OK}, // makes no node
		act{"link", "/9", "/3/a", api.OK},
		act{"mv", "/3/a", "/8/b", api.OK},
		act{"mkdir", "/b", "", api.ErrFull},
		act{"rm", "/9", "", api.OK},
		act{"mkdir", "/b", "", api.ErrFull}, // its node is still there
		act{"rm", "/a", "", api.OK},
		act{"rm", "/8/b", "", api.OK},
		act{"mkdir", "/b", "", api.OK})
	is(t, f, "/b", folder(18, 1)) // no number comes twice
}

func TestF4NumbersEnd(t *testing.T) {
	f := New()
	for id := 2; id <= api.MaxNode; id++ {
		run(t, f, act{"create", "/a", "", api.OK})
		is(t, f, "/a", file(id, 1, ""))
		if id < api.MaxNode {
			run(t, f, act{"rm", "/a", "", api.OK})
		}
	}
	if _, next := f.Nodes(); next != 1000 {
		t.Errorf("the next number is %d", next)
	}
	run(t, f,
		act{"mkdir", "/b", "", api.ErrFull},
		act{"create", "/b", "", api.ErrFull},
		act{"create", "/a", "", api.ErrExist},
		act{"rm", "/a", "", api.OK},
		act{"mkdir", "/b", "", api.ErrFull})
	if l, next := f.Nodes(); next != 1000 || len(l) != 1 {
		t.Errorf("Nodes() = %v, %d", l, next)
	}
}

func TestF5Write(t *testing.T) {
	f := made(t, "mkdir /d; create /f hay; create /d/g oats; link /f /d/h")
	twenty := strings.Repeat("z", api.MaxText)
	run(t, f,
		act{"write", "/F", twenty, api.OK},
		act{"write", "/f", twenty + "z", api.ErrMany},
		act{"write", "/none", twenty + "z", api.ErrMany},
		act{"write", "/d", twenty + "z", api.ErrMany},
		act{"write", "/none", "x", api.ErrNone},
		act{"write", "/f/f", "x", api.ErrKind},
		act{"write", "", "x", api.ErrShape},
		act{"write", "/\xff", "x", api.ErrText},
		act{"write", "/d", "x", api.ErrKind},
		act{"write", "/", "x", api.ErrKind},
		act{"write", "/d/.", "x", api.ErrKind})
	is(t, f, "/f", file(3, 2, twenty))
	is(t, f, "/d/h", file(3, 2, twenty))
	is(t, f, "/d/g", file(4, 1, "oats"))
	run(t, f, act{"write", "/d/H", "", api.OK})
	is(t, f, "/f", file(3, 2, ""))
	names(t, f, "/", "d=2 f=3")
}

func TestF5Link(t *testing.T) {
	f := made(t, "mkdir /d; create /f hay; create /g")
	run(t, f,
		act{"link", "/F", "/d/\u00c9", api.OK},
		act{"link", "/d/e\u0301", "/d/h", api.OK},
		act{"link", "/none", "", api.ErrNone}, // errors of the first path are ahead
		act{"link", "", "/none/a", api.ErrShape},
		act{"link", "/d", "", api.ErrKind},
		act{"link", "/", "/d", api.ErrKind},
		act{"link", "/d/..", "/n", api.ErrKind},
		act{"link", "/f", "", api.ErrShape},
		act{"link", "/f", "/", api.ErrShape},
		act{"link", "/f", "/d/..", api.ErrShape},
		act{"link", "/f", "/g/n", api.ErrKind},
		act{"link", "/f", "/none/n", api.ErrNone},
		act{"link", "/f", "/g", api.ErrExist},
		act{"link", "/f", "/F", api.ErrExist},
		act{"link", "/f", "/D", api.ErrExist})
	is(t, f, "/f", file(3, 3, "hay"))
	is(t, f, "/d/H", file(3, 3, "hay"))
	is(t, f, "/g", file(4, 1, ""))
	names(t, f, "/d", "\u00c9=3 h=3")
	if _, next := f.Nodes(); next != 5 {
		t.Errorf("the next number is %d", next)
	}
}

func TestF6Remove(t *testing.T) {
	f := made(t, "mkdir /d; mkdir /d/in; create /f hay; link /f /d/g; mkdir /e")
	run(t, f,
		act{"rm", "/none", "", api.ErrNone},
		act{"rmdir", "/none", "", api.ErrNone},
		act{"rm", "/none/a", "", api.ErrNone},
		act{"rm", "/f/a", "", api.ErrKind},
		act{"rm", "/", "", api.ErrShape},
		act{"rmdir", "/", "", api.ErrShape},
		act{"rmdir", "/d/in/..", "", api.ErrShape},
		act{"rm", "/d", "", api.ErrKind}, // ahead of what it has
		act{"rm", "/e", "", api.ErrKind},
		act{"rmdir", "/f", "", api.ErrKind},
		act{"rmdir", "/d", "", api.ErrExist},
		act{"rm", "/F", "", api.OK})
	is(t, f, "/d/g", file(4, 1, "hay"))
	isNot(t, f, "/f", api.ErrNone)
	run(t, f,
		act{"rm", "/f", "", api.ErrNone},
		act{"rm", "/D/G", "", api.OK},
		act{"rmdir", "/d", "", api.ErrExist},
		act{"rmdir", "/d/IN", "", api.OK},
		act{"rmdir", "/d", "", api.OK})
	l, next := f.Nodes()
	if want := []api.Node{folder(1, 1), folder(5, 1)}; !slices.Equal(l, want) || next != 6 {
		t.Errorf("Nodes() = %v, %d, want %v, 6", l, next, want)
	}
	if l := f.Entries(2); len(l) != 0 {
		t.Errorf("a folder that is no more has %v", l)
	}
	names(t, f, "/", "e=5")
	run(t, f, act{"mkdir", "/d", "", api.OK})
	is(t, f, "/d", folder(6, 1))
	names(t, f, "/d", "")
}

func TestF7RenameErrors(t *testing.T) {
	f := made(t, "mkdir /d; mkdir /d/in; mkdir /d/in/deep; create /f hay; create /d/g; mkdir /e; mkdir /e/x")
	run(t, f,
		act{"mv", "/none", "", api.ErrNone}, // the errors of the first path are ahead
		act{"mv", "/none", "/d", api.ErrNone},
		act{"mv", "/", "/n", api.ErrShape},
		act{"mv", "/d/..", "/n", api.ErrShape},
		act{"mv", "/f/a", "/n", api.ErrKind},
		act{"mv", "/f", "", api.ErrShape},
		act{"mv", "/f", "/", api.ErrShape},
		act{"mv", "/f", "/d/.", api.ErrShape},
		act{"mv", "/f", "/none/a", api.ErrNone},
		act{"mv", "/d", "/none/a", api.ErrNone},
		act{"mv", "/f", "/d/g/a", api.ErrKind},
		act{"mv", "/f", "/f/a", api.ErrKind},
		act{"mv", "/d", "/d/n", api.ErrRound},
		act{"mv", "/d", "/D/in", api.ErrRound}, // ahead of what is there
		act{"mv", "/d", "/d/g", api.ErrRound},
		act{"mv", "/d", "/d/in/n", api.ErrRound},
		act{"mv", "/d", "/d/in/deep/n", api.ErrRound},
		act{"mv", "/d/in", "/d/in/deep/n", api.ErrRound},
		act{"mv", "/d", "/e/../d/in/../n", api.ErrRound},
		act{"mv", "/f", "/d", api.ErrKind},
		act{"mv", "/f", "/d/in/deep", api.ErrKind},
		act{"mv", "/d", "/f", api.ErrKind},
		act{"mv", "/d/in/deep", "/d/g", api.ErrKind},
		act{"mv", "/d", "/e", api.ErrExist},
		act{"mv", "/e", "/d/in", api.ErrExist},
		act{"mv", "/d/in/deep", "/d/in", api.ErrExist}, // its own folder
		act{"mv", "/d/in", "/d", api.ErrExist})
}

func TestF7Rename(t *testing.T) {
	f := made(t, "mkdir /d; mkdir /d/in; create /f hay; create /d/g oats; mkdir /e")
	run(t, f,
		act{"mv", "/F", "/d/H", api.OK},
		act{"mv", "/d/in", "/in", api.OK},
		act{"mv", "/d/G", "/d/k", api.OK})
	is(t, f, "/d/h", file(4, 1, "hay"))
	is(t, f, "/in", folder(3, 1))
	names(t, f, "/", "d=2 e=6 in=3")
	names(t, f, "/d", "H=4 k=5")
	run(t, f, act{"mv", "/d", "/In/E", api.OK}) // with what is in it
	is(t, f, "/in/e", folder(2, 3))
	is(t, f, "/in/e/h", file(4, 1, "hay"))
	is(t, f, "/in/e/..", folder(3, 1))
	names(t, f, "/", "e=6 in=3")
	run(t, f, act{"mv", "/in", "/e/f", api.OK}, act{"mv", "/e/F/E", "/D", api.OK})
	is(t, f, "/d", folder(2, 1))
	is(t, f, "/e/f", folder(3, 6))
	if _, next := f.Nodes(); next != 7 {
		t.Errorf("the next number is %d", next)
	}
}

// TestF7RenameItself: an entry gets another name of the same key.
func TestF7RenameItself(t *testing.T) {
	f := made(t, "mkdir /d; create /d/\u00e9 hay; create /d/f")
	run(t, f, act{"mv", "/d/\u00e9", "/d/E\u0301", api.OK})
	names(t, f, "/d", "E\u0301=3 f=4")
	is(t, f, "/d/\u00e9", file(3, 1, "hay"))
	run(t, f, act{"mv", "/d", "/D", api.OK})
	names(t, f, "/", "D=2")
	is(t, f, "/d", folder(2, 1))
	is(t, f, "/d/f", file(4, 1, ""))
	run(t, f, act{"mv", "/D", "/d/../D", api.OK}, act{"mv", "/d/F", "/d/f", api.OK})
	names(t, f, "/", "D=2")
	names(t, f, "/d", "E\u0301=3 f=4")
}

// TestF7RenameSameNode: of two entries for a node none becomes the other one.
func TestF7RenameSameNode(t *testing.T) {
	f := made(t, "mkdir /d; create /f hay; link /f /g; link /f /d/h")
	was := told(f)
	run(t, f, act{"mv", "/f", "/G", api.OK}, act{"mv", "/G", "/F", api.OK}, act{"mv", "/f", "/D/H", api.OK}, act{"mv", "/d/h", "/f", api.OK})
	if told(f) != was {
		t.Errorf("it became\n%s\nof\n%s", told(f), was)
	}
	run(t, f, act{"mv", "/g", "/G", api.OK}) // the entry itself
	names(t, f, "/", "d=2 f=3 G=3")
	is(t, f, "/g", file(3, 3, "hay"))
}

func TestF7RenameOver(t *testing.T) {
	f := made(t, "mkdir /d; create /f hay; create /g oats; link /g /d/h; create /i; mkdir /e")
	run(t, f, act{"mv", "/f", "/G", api.OK})
	is(t, f, "/g", file(3, 1, "hay"))
	is(t, f, "/d/h", file(4, 1, "oats"))
	names(t, f, "/", "d=2 e=6 G=3 i=5")
	run(t, f, act{"mv", "/g", "/d/H", api.OK}, act{"mv", "/d/h", "/I", api.OK})
	is(t, f, "/i", file(3, 1, "hay"))
	names(t, f, "/", "d=2 e=6 I=3")
	run(t, f, act{"mkdir", "/e/in", "", api.OK}, act{"mv", "/e", "/D", api.OK})
	is(t, f, "/d", folder(6, 1))
	is(t, f, "/d/in", folder(7, 6))
	names(t, f, "/", "D=6 I=3")
	l, next := f.Nodes()
	if want := []api.Node{folder(1, 1), file(3, 1, "hay"), folder(6, 1), folder(7, 6)}; !slices.Equal(l, want) || next != 8 {
		t.Errorf("Nodes() = %v, %d, want %v, 8", l, next, want)
	}
}

func TestF8List(t *testing.T) {
	f := made(t, "mkdir /d; create /d/Chapel; create /d/czar; create /d/day; create /d/cz; create /f")
	for _, c := range []struct {
		path, after string
		many        int
		want        string
	}{
		{"/d", "", 9, "cz=6 czar=4 Chapel=3 day=5"},
		{"/D/../d/.", "", math.MaxInt, "cz=6 czar=4 Chapel=3 day=5"},
		{"/d", "", 4, "cz=6 czar=4 Chapel=3 day=5"},
		{"/d", "", 3, "cz=6 czar=4 Chapel=3"},
		{"/d", "", 1, "cz=6"},
		{"/d", "", 0, ""},
		{"/d", "", -1, ""},
		{"/d", "", math.MinInt, ""},
		{"/d", "cz", 2, "czar=4 Chapel=3"},
		{"/d", "CZ", 2, "czar=4 Chapel=3"},
		{"/d", "a", 9, "cz=6 czar=4 Chapel=3 day=5"}, // also behind a name that isn't there
		{"/d", "ch", 9, "Chapel=3 day=5"},
		{"/d", "chapel", 9, "day=5"},
		{"/d", "day", 9, ""},
		{"/d", "z", 9, ""},
		{"/", "", 9, "d=2 f=7"},
		{"/", "d", 9, "f=7"},
	} {
		l, err := f.List(c.path, c.after, c.many)
		if got := listed(l); got != c.want || err != nil {
			t.Errorf("List(%q, %q, %d) = %q, %v, want %q", c.path, c.after, c.many, got, err, c.want)
		}
	}
	for _, c := range []struct {
		path, after string
		want        api.Errno
	}{
		{"", "", api.ErrShape},
		{"/d/", "\xff", api.ErrBound},
		{"/none", "\xff", api.ErrNone},
		{"/f/a", "\xff", api.ErrKind},
		{"/f", "", api.ErrKind},
		{"/f", "\xff", api.ErrKind},
		{"/d", "\xff", api.ErrText},
		{"/d", ".", api.ErrShape},
		{"/d", "\u0301", api.ErrShape},
		{"/d", strings.Repeat("a", 25), api.ErrBound},
		{"/d", strings.Repeat("a", 13), api.ErrMany},
	} {
		for _, many := range []int{9, 0, -1} {
			if l, err := f.List(c.path, c.after, many); len(l) != 0 || !same(err, c.want) {
				t.Errorf("List(%q, %q, %d) = %v, %v, want %d", c.path, c.after, many, l, err, c.want)
			}
		}
	}
}

// TestW4: who lists bit by bit, while something else is done between, is told each entry that is there all the time just once.
func TestW4(t *testing.T) {
	stay := []string{"a", "\u00c4", "b", "Ch", "cz", "d", "\u00e9", "e", "Z9", "\u03a3"}
	for seed := range int64(300) {
		d := rand.New(rand.NewSource(seed))
		f := made(t, "create /f; mkdir /d")
		for _, s := range stay {
			run(t, f, act{"link", "/f", "/d/" + s, api.OK})
		}
		seen := map[string]int{}
		after := ""
		for range 60 {
			l, err := f.List("/d", after, 1+d.Intn(3))
			if err != nil {
				t.Fatal(err)
			}
			if len(l) == 0 {
				break
			}
			for _, e := range l {
				seen[e.Name]++
				after = e.Name
			}
			for range d.Intn(5) { // others come, go, and change places
				path := "/d/" + drawn(d, "aa", "\u00e1", "c", "cha", "cza", "\u00e8", "ee", "z")
				switch to := "/d/" + drawn(d, "0", "ab", "C", "da", "\u00cb", "z z"); d.Intn(3) {
				case 0:
					f.Create(path, "")
				case 1:
					f.Remove(path, false)
				default:
					f.Rename(path, to)
				}
			}
		}
		for _, s := range stay {
			if seen[s] != 1 {
				t.Fatalf("seed %d: %q was told %d times", seed, s, seen[s])
			}
		}
	}
}

func TestF9NodesAndEntries(t *testing.T) {
	f := made(t, "mkdir /d; create /d/f hay; mkdir /b; link /d/f /b/a; create /b/0; rm /b/0; create /z")
	l, next := f.Nodes()
	if want := []api.Node{folder(1, 1), folder(2, 1), file(3, 2, "hay"), folder(4, 1), file(6, 1, "")}; !slices.Equal(l, want) || next != 7 {
		t.Errorf("Nodes() = %v, %d, want %v, 7", l, next, want)
	}
	for id, want := range map[int]string{1: "b=4 d=2 z=6", 2: "f=3", 4: "a=3", 3: "", 5: "", 6: "", 7: "", 0: "", -1: "", 1000: "", math.MaxInt: "", math.MinInt: ""} {
		if got := listed(f.Entries(id)); got != want {
			t.Errorf("Entries(%d) = %q, want %q", id, got, want)
		}
	}
}

// TestZ2Fresh: what comes out is the caller's.
func TestZ2Fresh(t *testing.T) {
	f := made(t, "mkdir /d; create /d/f hay; create /d/g; mkdir /d/h")
	was := told(f)
	for range 2 {
		l, _ := f.Nodes()
		clear(l[:cap(l)])
		e := f.Entries(2)
		clear(e[:cap(e)])
		e, _ = f.List("/d", "", 9)
		clear(e[:cap(e)])
		if told(f) != was {
			t.Fatalf("it became\n%s\nof\n%s", told(f), was)
		}
	}
}

// TestExample: the document's session, as far as it is about folders and files.
func TestExample(t *testing.T) {
	f := New()
	run(t, f, act{"mkdir", "/Äb", "", api.OK}, act{"mkdir", "/äB", "", api.ErrExist})
	is(t, f, "/Äb", folder(2, 1))
	run(t, f,
		act{"create", "/äb/Chapel", "hay", api.OK},
		act{"create", "/äb/czar", "oats", api.OK},
		act{"create", "/äb/day", "", api.OK},
		act{"create", "/äb/cz", "x", api.OK})
	names(t, f, "/äb", "cz=6 czar=4 Chapel=3 day=5")
	run(t, f, act{"write", "/ÄB/CHAPEL", "straw", api.OK})
	is(t, f, "/äb/chapel", file(3, 1, "straw"))
	run(t, f, act{"link", "/äb/chapel", "/Kirche", api.OK})
	is(t, f, "/kirche", file(3, 2, "straw"))
	run(t, f, act{"rm", "/äb/CHAPEL", "", api.OK})
	is(t, f, "/KIRCHE", file(3, 1, "straw"))
	run(t, f, act{"mv", "/kirche", "/KIRCHE", api.OK})
	names(t, f, "/", "Äb=2 KIRCHE=3")
	run(t, f,
		act{"mkdir", "/äb/in", "", api.OK},
		act{"mv", "/äb", "/äb/in/x", api.ErrRound},
		act{"mv", "/äb/in", "/out", api.OK})
	names(t, f, "/", "Äb=2 KIRCHE=3 out=7")
	run(t, f,
		act{"rmdir", "/äb", "", api.ErrExist},
		act{"rmdir", "/out", "", api.OK},
		act{"mv", "/kirche", "/äb", api.ErrKind})
	names(t, f, "/äb", "cz=6 czar=4 day=5")
	is(t, f, "/äb/../äb/.", folder(2, 1))
	run(t, f,
		act{"create", "/äb/day", "x", api.ErrExist},
		act{"mkdir", "/n/m", "", api.ErrNone},
		act{"rm", "/äb", "", api.ErrKind})
	isNot(t, f, "/none", api.ErrNone)
}

// TestOfWhatIsNone: of nodes that no FS has nothing is said but that each call ends.
func TestOfWhatIsNone(t *testing.T) {
	for seed := range int64(2000) {
		d := rand.New(rand.NewSource(seed))
		var l []api.Node
		entries := map[int][]api.Entry{}
		for range d.Intn(8) {
			l = append(l, api.Node{ID: d.Intn(6), Kind: d.Intn(4), Up: d.Intn(6), Links: d.Intn(4) - 1})
		}
		for range d.Intn(12) {
			id := d.Intn(6)
			entries[id] = append(entries[id], api.Entry{Name: drawn(d, "a", "A", "b", "\u00e9", "ch", "", "\xff", "."), Node: d.Intn(6)})
		}
		f, m := Of(l, entries, d.Intn(8)-1), newModel()
		for range 20 {
			both(d, f, m)
			f.Find(drawnPath(d))
			f.List(drawnPath(d), "", 9)
			told(f)
			f = f.Copy()
		}
	}
}
