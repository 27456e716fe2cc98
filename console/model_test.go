package console

import (
	"fmt"
	"math/rand"
	"slices"
	"strings"
	"testing"

	"jobcase/api"
	"jobcase/fs"
	"jobcase/key"
	"jobcase/name"
)

// drawn one of a few texts.
func drawn(r *rand.Rand, l ...string) string { return l[r.Intn(len(l))] }

func drawnName(r *rand.Rand) string {
	return drawn(r, "a", "A", "b", "\u00e9", "e\u0301", "\u00c9", "ch", "Ch", "cz", "\u00e7", "c\u0327", "x y", "\u03a3", "-", "", ".", "\u0301a", "aaaaaaaaaaaaa", "\xff", "/")
}

func drawnPath(r *rand.Rand) string {
	if r.Intn(30) == 0 {
		return drawn(r, "", "/", "a", "/a/", "/a/a/a/a/a/a/a")
	}
	s := ""
	for range 1 + r.Intn(3) {
		s += "/" + drawn(r, "a", "A", "a", "b", "B", "\u00e9", "E\u0301", "ch", "CH", ".", "..")
	}
	return s
}

func drawnText(r *rand.Rand) string {
	return drawn(r, "hay", "oats", "", "two words", strings.Repeat("z", 20), strings.Repeat("z", 21))
}

// drawnLine that changes something, or asks.
func drawnLine(r *rand.Rand) string {
	path := drawnPath(r)
	switch r.Intn(14) {
	case 0, 1, 2:
		return "mkdir|" + path
	case 3, 4:
		return "create|" + path + "|" + drawnText(r)
	case 5:
		return "write|" + path + "|" + drawnText(r)
	case 6:
		return drawn(r, "rm|", "rmdir|") + path
	case 7:
		return "link|" + path + "|" + drawnPath(r)
	case 8, 9:
		return "mv|" + path + "|" + drawnPath(r)
	case 10:
		return "stat|" + path
	case 11:
		return fmt.Sprintf("list|%s|%s|%d", path, drawn(r, "-", drawnName(r)), r.Intn(9))
	case 12:
		return drawn(r, "name|", "order|a|", "order|\u00e7|") + drawnName(r)
	}
	return drawn(r, "", "fly", "save|", "list|/", "list|/|-|x", "list|/|-|01", "restart|x", strings.Repeat("x", 81), "mkdir", "mv|/a", "rm|", "save", "restart|0")
}

// model: the same lines, over folders and files that are on no disk.
func model(f *fs.FS, line string) string {
	w := strings.Split(line, "|")
	many, ok := words()[w[0]]
	if !ok || len(w) != many+1 || len(line) > api.MaxLine {
		return "error 4"
	}
	w = append(w, "", "", "")
	var err error
	answer := "ok"
	switch w[0] {
	case "mkdir":
		err = f.Mkdir(w[1])
	case "rm", "rmdir":
		err = f.Remove(w[1], w[0] == "rmdir")
	case "create":
		err = f.Create(w[1], w[2])
	case "write":
		err = f.Write(w[1], w[2])
	case "link":
		err = f.Link(w[1], w[2])
	case "mv":
		err = f.Rename(w[1], w[2])
	case "stat":
		var n api.Node
		n, err = f.Find(w[1])
		answer = fmt.Sprintf("folder %d up %d", n.ID, n.Up)
		if n.Kind == api.Plain {
			answer = fmt.Sprintf("file %d links %d %s", n.ID, n.Links, n.Text)
		}
	case "list":
		answer, err = modelList(f, w[1], w[2], w[3])
	case "name":
		err = name.Check(w[1])
	case "order":
		answer = []string{"below", "alike", "above"}[1+key.Compare(w[1], w[2])]
		if name.Check(w[1]) != nil || name.Check(w[2]) != nil {
			err = api.ErrShape
		}
	case "restart":
		if w[1] == "x" {
			err = api.ErrText
		}
	}
	if err != nil {
		return fmt.Sprintf("error %d", err)
	}
	return answer
}

func modelList(f *fs.FS, path, after, digits string) (string, error) {
	if len(digits) != 1 || digits == "x" {
		return "", api.ErrText
	}
	if after == "-" {
		after = ""
	}
	l, err := f.List(path, after, int(digits[0]-'0'))
	s := ""
	for _, e := range l {
		s += fmt.Sprintf(" %s=%d", e.Name, e.Node)
	}
	if s == "" {
		s = " -"
	}
	return s[1:], err
}

// TestAgainstModel: M1, M2: sessions that are drawn.
func TestAgainstModel(t *testing.T) {
	r := rand.New(rand.NewSource(31))
	tried := map[string]int{}
	for range 4000 {
		f := fs.New()
		var lines, want []string
		for range 1 + r.Intn(api.MaxLines) {
			line := drawnLine(r)
			lines, want = append(lines, line), append(want, model(f, line))
		}
		for i, got := range run(t, lines...) {
			if got != want[i] {
				t.Fatalf("%q: %q, not %q, in %q", lines[i], got, want[i], lines)
			}
			tried[strings.Split(lines[i], "|")[0]+" "+strings.Split(got, " ")[0]]++
		}
	}
	for word := range words() {
		if word != "arm" && tried[word+" ok"]+tried[word+" file"]+tried[word+" -"]+tried[word+" below"] < 50 {
			t.Errorf("%s was hardly tried: %v", word, tried)
		}
	}
}

// looks: lines by which most of the paths that are drawn are looked at.
func looks() []string {
	var l []string
	for _, path := range []string{"/.", "/a", "/b", "/\u00e9", "/ch", "/a/a", "/a/b", "/b/a", "/ch/b"} {
		l = append(l, "list|"+path+"|-|9", "stat|"+path)
	}
	return l
}

// seen of a model by these.
func seen(f *fs.FS) []string {
	var l []string
	for _, line := range looks() {
		l = append(l, model(f, line))
	}
	return l
}

// armedLines: some lines, of which one is an arm.
func armedLines(r *rand.Rand) []string {
	var lines []string
	for range 5 + r.Intn(25) {
		line := drawnLine(r)
		if strings.HasPrefix(line, "restart") || r.Intn(5) == 0 {
			line = "save"
		}
		lines = append(lines, line)
	}
	lines[r.Intn(len(lines))] = fmt.Sprint("arm|", r.Intn(40))
	return lines
}

// TestW6: behind a fall at any step, and whatever is kept, a session goes on with what was there, or with that and the line at which the disk fell.
func TestW6(t *testing.T) {
	r := rand.New(rand.NewSource(32))
	fell, kept, lost := 0, 0, 0
	for range 2000 {
		lines := armedLines(r)
		all := append(slices.Clone(lines), fmt.Sprint("restart|", r.Intn(1000)))
		out := run(t, append(all, looks()...)...)
		got := out[len(all):]
		fall := slices.Index(out, "error 10")
		was := fs.New()
		if fall < 0 {
			fall = len(lines)
		}
		for _, line := range lines[:fall] {
			model(was, line)
		}
		next := was.Copy()
		if fall < len(lines) {
			fell++
			model(next, lines[fall])
		}
		switch before, after := seen(was), seen(next); {
		case slices.Equal(before, after) && slices.Equal(got, before):
		case slices.Equal(got, before):
			lost++
		case slices.Equal(got, after):
			kept++
		default:
			t.Fatalf("%q: %q, in which %q is neither %q nor %q", all, out, got, before, after)
		}
	}
	if fell < 300 || kept < 10 || lost < 100 {
		t.Errorf("%d falls, behind %d of them the line was done, behind %d not", fell, kept, lost)
	}
}

// TestZ1: each line is answered, whatever it is.
func TestZ1(t *testing.T) {
	r := rand.New(rand.NewSource(33))
	for range 1500 {
		var lines []string
		for range r.Intn(api.MaxLines + 1) {
			line := drawn(r, drawnLine(r), drawnLine(r), fmt.Sprint("arm|", r.Intn(30)), fmt.Sprint("restart|", r.Intn(1000)))
			if b := []byte(line); len(b) > 0 && r.Intn(3) == 0 {
				b[r.Intn(len(b))] = byte(r.Intn(256))
				line = string(b)
			}
			lines = append(lines, line)
		}
		for i, s := range run(t, lines...) {
			if s == "" || s == "error 0" {
				t.Fatalf("%q: %q, in %q", lines[i], s, lines)
			}
		}
	}
}
