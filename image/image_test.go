package image

import (
	"fmt"
	"maps"
	"math/rand"
	"slices"
	"sort"
	"strings"
	"testing"

	"jobcase/api"
	"jobcase/fs"
	"jobcase/key"
)

// must: what is done to get at something is done.
func must(t *testing.T, errs ...error) {
	t.Helper()
	for _, err := range errs {
		if err != nil {
			t.Fatal(err)
		}
	}
}

// sample: folders and files, few, but of all kinds.
func sample(t *testing.T) *fs.FS {
	t.Helper()
	f := fs.New()
	must(t, f.Mkdir("/A"), f.Create("/a/f", "hay"), f.Mkdir("/a/\u00e9"), f.Link("/a/f", "/ch"), f.Create("/a/g", ""))
	return f
}

// sampleRows: keys and values, in turn.
func sampleRows() []api.Change {
	return rowsOf(
		"e001\x10\x01\x01", "002A",
		"e001\x13\x01\x01", "003ch",
		"e002\x15\x01\x04\x01", "004\u00e9",
		"e002\x16\x01\x01", "003f",
		"e002\x17\x01\x01", "005g",
		"n001", "d001001",
		"n002", "d001001",
		"n003", "f000002hay",
		"n004", "d002001",
		"n005", "f000001",
		"x", "006")
}

func rowsOf(s ...string) []api.Change {
	var l []api.Change
	for i := 0; i < len(s); i += 2 {
		l = append(l, api.Change{Key: s[i], Val: s[i+1]})
	}
	return l
}

// toldOf: all of folders and files, as a text.
func toldOf(f *fs.FS) string {
	l, next := f.Nodes()
	s := fmt.Sprint(l, next)
	for _, n := range l {
		s += fmt.Sprint(f.Entries(n.ID))
	}
	return s
}

// drawnFS: folders and files behind some acts.
func drawnFS(d *rand.Rand, acts int) *fs.FS {
	f := fs.New()
	path := func() string {
		s := ""
		for range 1 + d.Intn(3) {
			s += "/" + []string{"a", "A", "b", "\u00e9", "E\u0301", "ch", "\u03c2", "x y", ".."}[d.Intn(9)]
		}
		return s
	}
	for range acts {
		act(d, f, path)
	}
	return f
}

func act(d *rand.Rand, f *fs.FS, path func() string) {
	switch d.Intn(8) {
	case 0, 1:
		f.Mkdir(path())
	case 2:
		f.Create(path(), []string{"", "hay", "0", "001", strings.Repeat("\xff", 20)}[d.Intn(5)])
	case 3:
		f.Write(path(), "0oats")
	case 4, 5:
		f.Link(path(), path())
	case 6:
		f.Remove(path(), d.Intn(2) == 0)
	default:
		f.Rename(path(), path())
	}
}

func TestG1Rows(t *testing.T) {
	if got, want := Rows(fs.New()), rowsOf("n001", "d001001", "x", "002"); !slices.Equal(got, want) {
		t.Errorf("Rows of a new one: %#v, want %#v", got, want)
	}
	if got := Rows(sample(t)); !slices.Equal(got, sampleRows()) {
		t.Errorf("Rows = %#v, want %#v", got, sampleRows())
	}
}

func TestG1RowsOfGreatNumbers(t *testing.T) {
	f := fs.Of([]api.Node{
		{ID: 1, Kind: api.Folder, Up: 1, Links: 1},
		{ID: 10, Kind: api.Folder, Up: 999, Links: 1},
		{ID: 999, Kind: api.Folder, Up: 1, Links: 1},
	}, map[int][]api.Entry{1: {{Name: "b", Node: 999}}, 999: {{Name: "a", Node: 10}}}, 1000)
	want := rowsOf("e001\x11\x01\x01", "999b", "e999\x10\x01\x01", "010a", "n001", "d001001", "n010", "d999001", "n999", "d001001", "x", "1000")
	if got := Rows(f); !slices.Equal(got, want) {
		t.Errorf("Rows = %#v, want %#v", got, want)
	}
}

func TestG1RowsRise(t *testing.T) {
	for seed := range int64(200) {
		f := drawnFS(rand.New(rand.NewSource(seed)), 80)
		rows := Rows(f)
		l, next := f.Nodes()
		want := map[string]string{"x": fmt.Sprintf("%03d", next)}
		for _, n := range l {
			want[fmt.Sprintf("n%03d", n.ID)] = fmt.Sprintf("%c%03d%03d%s", "?df"[n.Kind], n.Up, n.Links, n.Text)
			for _, e := range f.Entries(n.ID) {
				want[fmt.Sprintf("e%03d", n.ID)+key.Of(e.Name)] = fmt.Sprintf("%03d%s", e.Node, e.Name)
			}
		}
		got := map[string]string{}
		for _, r := range rows {
			got[r.Key] = r.Val
			if r.Gone {
				t.Fatalf("%q is gone", r.Key)
			}
		}
		if !rise(rows) || !maps.Equal(got, want) {
			t.Fatalf("seed %d: %#v, want %#v", seed, rows, want)
		}
	}
}

func rise(l []api.Change) bool {
	for i := 1; i < len(l); i++ {
		if l[i-1].Key >= l[i].Key {
			return false
		}
	}
	return true
}

func TestG2ParseOfRows(t *testing.T) {
	for seed := range int64(400) {
		f := drawnFS(rand.New(rand.NewSource(seed)), int(seed%100))
		rows := Rows(f)
		handed := slices.Clone(rows)
		g, err := Parse(rows)
		if err != nil {
			t.Fatalf("seed %d: Parse(%#v): %v", seed, rows, err)
		}
		if !slices.Equal(rows, handed) {
			t.Fatalf("seed %d: what was handed in became %#v", seed, rows)
		}
		clear(rows)
		if toldOf(g) != toldOf(f) {
			t.Fatalf("seed %d: %s, want %s", seed, toldOf(g), toldOf(f))
		}
	}
}

// TestG2MoreLinksThanDigits: how many entries there are tells where Links end, and the text begins.
func TestG2MoreLinksThanDigits(t *testing.T) {
	for _, links := range []int{99, 100, 101, 999, 1000, 1001, 1234} {
		for _, text := range []string{"", "0", "1", "000", "hay", "12345678901234567890"} {
			f := fs.New()
			must(t, f.Create("/n0", text))
			for i := 1; i < links; i++ {
				must(t, f.Link("/n0", fmt.Sprint("/n", i)))
			}
			rows := Rows(f)
			if got, want := rows[links+1], (api.Change{Key: "n002", Val: fmt.Sprintf("f000%03d%s", links, text)}); got != want {
				t.Fatalf("%d links: %#v, want %#v", links, got, want)
			}
			g, err := Parse(rows)
			if err != nil {
				t.Fatalf("%d links, %q: %v", links, text, err)
			}
			if toldOf(g) != toldOf(f) {
				t.Errorf("%d links, %q: it became another one", links, text)
			}
			if g, err := Parse(append(rows[:1:1], rows[2:]...)); g != nil || err != error(api.ErrText) {
				t.Errorf("%d links, an entry less: %v", links, err)
			}
		}
	}
}

// with some rows of the sample other ones (keys and values, in turn; a value "-": it is no more), in order.
func with(s ...string) []api.Change {
	m := map[string]string{}
	for _, r := range sampleRows() {
		m[r.Key] = r.Val
	}
	for i := 0; i < len(s); i += 2 {
		if m[s[i]] = s[i+1]; s[i+1] == "-" {
			delete(m, s[i])
		}
	}
	var l []api.Change
	for _, k := range slices.Sorted(maps.Keys(m)) {
		l = append(l, api.Change{Key: k, Val: m[k]})
	}
	return l
}

const (
	keyA   = "e001\x10\x01\x01"
	keyCh  = "e001\x13\x01\x01"
	keyE   = "e002\x15\x01\x04\x01"
	keyF   = "e002\x16\x01\x01"
	keyG   = "e002\x17\x01\x01"
	rootK  = "e001\x1b\x01\x01"
	fourK  = "e004\x1b\x01\x01"
	zzz20  = "zzzzzzzzzzzzzzzzzzzz"
	twelve = "\u03c3\u03c3\u03c3\u03c3\u03c3\u03c3\u03c3\u03c3\u03c3\u03c3\u03c3\u03c3"
)

func TestG2GoTogether(t *testing.T) {
	for what, l := range map[string][]api.Change{
		"the sample":                sampleRows(),
		"an empty root":             rowsOf("n001", "d001001", "x", "002"),
		"a later next number":       with("x", "007"),
		"a next number of 999":      with("x", "999"),
		"a next number of 1000":     with("x", "1000"),
		"a name written otherwise":  with(keyE, "004E\u0301"),
		"a text of 20 bytes":        with("n005", "f000001"+zzz20),
		"a text that is no UTF-8":   with("n005", "f000001\xff\x00"),
		"a text of digits":          with("n003", "f000002002"),
		"a long name":               with("e001"+key.Of(twelve), "005"+twelve, keyG, "-"),
		"a file of another folder":  with(keyG, "-", fourK, "005k"),
		"a folder of another":       with(keyE, "-", rootK, "004k", "n004", "d001001"),
		"one more link":             with(rootK, "005k", "n005", "f000002"),
		"a node of the number 999":  with("n005", "-", keyG, "999g", "n999", "f000001", "x", "1000"),
		"a folder of a file's rows": with("n003", "d002001", keyCh, "-"),
		"a number that is left out": with("n005", "-", keyG, "-"),
	} {
		f, err := Parse(l)
		if err != nil || f == nil {
			t.Errorf("%s: %v", what, err)
			continue
		}
		if got := Rows(f); !slices.Equal(got, l) {
			t.Errorf("%s: %#v, want %#v", what, got, l)
		}
		if !together(l) {
			t.Errorf("%s: the test's own rule refuses it", what)
		}
	}
}

// wrongRows: one promise of G2 broken each.
func wrongRows() map[string][]api.Change {
	swapped := sampleRows()
	swapped[1], swapped[2] = swapped[2], swapped[1]
	twice := append(sampleRows(), sampleRows()[10])
	gone := sampleRows()
	gone[10].Gone = true
	nodeGone := sampleRows()
	nodeGone[9].Gone = true
	return map[string][]api.Change{
		"no rows":                   nil,
		"a key alone":               rowsOf("x", "002"),
		"rows that don't rise":      swapped,
		"a row twice":               twice,
		"rows that fall":            rowsOf("x", "002", "n001", "d001001"),
		"a row that is gone":        gone,
		"a node that is gone":       nodeGone,
		"a row of nothing":          with("", "002"),
		"a row of another kind":     with("y", "002"),
		"a row of a capital letter": with("X", "006"),
		"a node of a capital":       with("N006", "f000001"),
		"a longer x":                with("x0", "006"),

		"no root":                 with("n001", "-"),
		"a root that is a file":   with("n001", "f000001"),
		"a root alone, a file":    rowsOf("n001", "f000001", "x", "002"),
		"a root below another":    with("n001", "d002001"),
		"a root of no links":      with("n001", "d001000"),
		"a root of two links":     with("n001", "d001002"),
		"a root with a text":      with("n001", "d001001x"),
		"an entry for the root":   with(rootK, "001k"),
		"an entry below for it":   with(fourK, "001k", "n001", "d004001"),
		"no next number":          with("x", "-"),
		"an empty next number":    with("x", ""),
		"a next number of a node": with("x", "005"),
		"a next number of 1":      with("x", "001"),
		"a next number of 1001":   with("x", "1001"),
		"a next number of 0":      with("x", "000"),
		"a next number below 0":   with("x", "-06"),
		"a great next number":     with("x", "99999999999999999999999"),
		"two digits":              with("x", "06"),
		"four digits":             with("x", "0006"),
		"a sign ahead":            with("x", "+06"),
		"a blank ahead":           with("x", " 06"),
		"no digits":               with("x", "abc"),
		"more behind it":          with("x", "006 "),

		"a node of the number 0":   with("n005", "-", "n000", "f000001", keyG, "000g"),
		"a node of two digits":     with("n005", "-", "n05", "f000001"),
		"a node of four digits":    with("n005", "-", "n0005", "f000001"),
		"a node with a sign ahead": with("n005", "-", "n+05", "f000001"),
		"a node below 0":           with("n005", "-", "n-05", "f000001", keyG, "-05g"),
		"a node with more behind":  with("n005", "-", "n005x", "f000001"),
		"a node, and one more":     with("n005x", "f000001"),
		"a node without a number":  with("n", "f000001"),
		"a node of great number":   with("n005", "-", "n1000", "f000001", "x", "1000"),
		"a node above the next":    with("n005", "-", "n007", "f000001", keyG, "007g", "x", "007"),

		"no value":                with("n005", ""),
		"a kind alone":            with("n005", "f"),
		"no links":                with("n005", "f000"),
		"links of two digits":     with("n005", "f00001"),
		"another kind":            with("n005", "x000001"),
		"a capital kind":          with("n005", "F000001"),
		"a file in a folder":      with("n005", "f002001"),
		"a file of fewer links":   with("n003", "f000001hay"),
		"a file of more links":    with("n003", "f000003hay"),
		"a file of no links":      with("n005", "f000000", keyG, "-"),
		"a file without an entry": with(keyG, "-"),
		"links with a sign":       with("n003", "f000+02hay"),
		"up with a sign":          with("n003", "f+00002hay"),
		"a text of 21 bytes":      with("n005", "f000001"+zzz20+"z"),

		"a folder of two links":     with("n004", "d002002"),
		"a folder of no links":      with("n004", "d002000"),
		"a folder with a text":      with("n004", "d002001x"),
		"a folder without an entry": with(keyE, "-"),
		"a folder named twice":      with(rootK, "004k"),
		"a folder of two entries":   with(rootK, "004k", "n004", "d002002"),
		"a folder above nowhere":    with("n004", "d009001"),
		"a folder above 0":          with("n004", "d000001"),
		"a folder in a file":        with("n004", "d003001"),
		"a folder of another one":   with("n004", "d001001"),
		"a folder named elsewhere":  with(keyE, "-", rootK, "004k"),
		"a folder in itself":        with("n004", "d004001", keyE, "-", fourK, "004k"),
		"folders in each other":     with("n002", "d004001", keyA, "-", fourK, "002k"),
		"a file that is a folder":   with("n005", "d001001"),

		"an entry of no folder":     with(keyG, "-", "e009\x17\x01\x01", "005g"),
		"an entry of a file":        with(keyG, "-", "e003\x17\x01\x01", "005g"),
		"an entry of its own file":  with(keyG, "-", "e005\x17\x01\x01", "005g"),
		"an entry for nothing":      with(rootK, "009k"),
		"an entry for 0":            with(rootK, "000k"),
		"an entry without a key":    with(keyG, "-", "e002", "005g"),
		"an entry of two digits":    with(keyG, "-", "e02\x17\x01\x01", "005g"),
		"an entry with a sign":      with(keyG, "-", "e+02\x17\x01\x01", "005g"),
		"an entry of another key":   with(keyG, "-", "e002\x18\x01\x01", "005g"),
		"a key with more behind":    with(keyG, "-", keyG+"\x01", "005g"),
		"an entry of another name":  with(keyG, "005h"),
		"a name that may not be":    with("e002"+key.Of("."), "005.", keyG, "-"),
		"a name with a slash":       with(keyG, "005g/"),
		"a name of 13 signs":        with("e002"+key.Of(strings.Repeat("g", 13)), "005"+strings.Repeat("g", 13), keyG, "-"),
		"no name":                   with("e002"+key.Of(""), "005", keyG, "-"),
		"no node":                   with(keyG, ""),
		"a node of too few digits":  with(keyG, "05g"),
		"a node of too many digits": with(keyG, "0005g"),
		"an entry's node, a sign":   with(keyG, "+05g"),
		"e alone":                   with("e", "005g"),
	}
}

func TestG2DontGoTogether(t *testing.T) {
	for what, l := range wrongRows() {
		if f, err := Parse(l); f != nil || err != error(api.ErrText) {
			t.Errorf("%s: %v, %v", what, f != nil, err)
		}
		if together(l) {
			t.Errorf("%s: the test's own rule takes it", what)
		}
	}
}

func TestG2AtMost16Nodes(t *testing.T) {
	for many := 14; many < 19; many++ {
		l := rowsOf("n001", "d001001", "x", fmt.Sprintf("%03d", many+1))
		for id := 2; id <= many; id++ {
			s := string(rune('a' + id))
			l = append(l, rowsOf(fmt.Sprintf("n%03d", id), "f000001", "e001"+key.Of(s), fmt.Sprintf("%03d%s", id, s))...)
		}
		sort.Slice(l, func(i, j int) bool { return l[i].Key < l[j].Key })
		if f, err := Parse(l); (err == nil) != (many <= 16) || (f != nil) != (err == nil) {
			t.Errorf("%d nodes: %v, %v", many, f != nil, err)
		}
	}
}

// TestG2Spoilt: rows that are spoilt somewhere are taken just if the test's own rule takes them.
func TestG2Spoilt(t *testing.T) {
	taken := 0
	for seed := range int64(30000) {
		d := rand.New(rand.NewSource(seed))
		l := Rows(drawnFS(d, 5+d.Intn(40)))
		for range 1 + d.Intn(2) {
			l = spoilt(d, l)
		}
		handed := slices.Clone(l)
		f, err := Parse(l)
		want := together(l)
		if (err == nil) != want || (f != nil) != want || err != nil && err != error(api.ErrText) {
			t.Fatalf("seed %d: Parse(%#v) = %v, %v, want %v", seed, l, f != nil, err, want)
		}
		if !slices.Equal(l, handed) {
			t.Fatalf("seed %d: what was handed in became %#v", seed, l)
		}
		if f == nil {
			continue
		}
		taken++
		if !slices.Equal(Rows(f), l) {
			t.Fatalf("seed %d: %#v, want %#v", seed, Rows(f), l)
		}
	}
	if taken < 1000 {
		t.Errorf("only %d were taken", taken)
	}
}

func spoilt(d *rand.Rand, l []api.Change) []api.Change {
	if len(l) == 0 {
		return l
	}
	i, j := d.Intn(len(l)), d.Intn(len(l))
	switch d.Intn(9) {
	case 0:
		return slices.Delete(l, i, i+1)
	case 1:
		return slices.Insert(l, j, l[i])
	case 2:
		l[i], l[j] = l[j], l[i]
	case 3:
		l[i].Val = l[j].Val
	case 4:
		l[i].Gone = true
	case 5, 6, 7:
		l[i].Val = spoiltText(d, l[i].Val)
	default:
		l[i].Key = spoiltText(d, l[i].Key)
	}
	return l
}

func spoiltText(d *rand.Rand, s string) string {
	b := []byte(s)
	i := d.Intn(len(b) + 1)
	c := "0123456789aAbfdx+- \x01\x10\xff"[d.Intn(22)]
	switch {
	case d.Intn(4) == 0:
		b = slices.Insert(b, i, c)
	case i == len(b):
	case d.Intn(4) == 0:
		b = slices.Delete(b, i, i+1)
	default:
		b[i] = c
	}
	return string(b)
}

func TestG3Changes(t *testing.T) {
	a := rowsOf("b", "1", "d", "2", "f", "3", "h", "")
	for _, c := range []struct {
		what       string
		a, b, want []api.Change
	}{
		{"none", nil, nil, nil},
		{"the same", a, rowsOf("b", "1", "d", "2", "f", "3", "h", ""), nil},
		{"all new", nil, a, a},
		{"all gone", a, nil, []api.Change{{Key: "b", Gone: true}, {Key: "d", Gone: true}, {Key: "f", Gone: true}, {Key: "h", Gone: true}}},
		{"another one", a, rowsOf("b", "1", "d", "", "f", "3", "h", "x"), rowsOf("d", "", "h", "x")},
		{"new ones", a, rowsOf("a", "0", "b", "1", "c", "", "d", "2", "f", "3", "h", "", "i", "9"), rowsOf("a", "0", "c", "", "i", "9")},
		{"gone ones", a, rowsOf("d", "2", "f", "3"), []api.Change{{Key: "b", Gone: true}, {Key: "h", Gone: true}}},
		{"all of it", a, rowsOf("a", "1", "d", "2", "f", "4", "g", "3", "z", ""),
			[]api.Change{{Key: "a", Val: "1"}, {Key: "b", Gone: true}, {Key: "f", Val: "4"}, {Key: "g", Val: "3"}, {Key: "h", Gone: true}, {Key: "z"}}},
		{"as bytes", rowsOf("a", "1", "a\x00", "2", "\xff", "3"), rowsOf("a", "2", "a\x00", "2", "b", "4"),
			[]api.Change{{Key: "a", Val: "2"}, {Key: "b", Val: "4"}, {Key: "\xff", Gone: true}}},
	} {
		if got := Changes(c.a, c.b); !slices.Equal(got, c.want) {
			t.Errorf("%s: %v, want %v", c.what, got, c.want)
		}
	}
}

// TestG3ChangesOfDeeds: done to the rows that were they make those that are, and none of them is for nothing.
func TestG3ChangesOfDeeds(t *testing.T) {
	for seed := range int64(300) {
		d := rand.New(rand.NewSource(seed))
		a, b := Rows(drawnFS(d, d.Intn(50))), Rows(drawnFS(d, d.Intn(50)))
		wasA, wasB := slices.Clone(a), slices.Clone(b)
		l := Changes(a, b)
		if !rise(l) {
			t.Fatalf("seed %d: %v don't rise", seed, l)
		}
		m := valuesOf(a)
		for _, c := range l {
			was, is := m[c.Key]
			if c.Gone && (!is || c.Val != "") || !c.Gone && is && was == c.Val {
				t.Fatalf("seed %d: %v changes nothing, or has a value", seed, c)
			}
			if m[c.Key] = c.Val; c.Gone {
				delete(m, c.Key)
			}
		}
		if !maps.Equal(m, valuesOf(b)) {
			t.Fatalf("seed %d: %v make %v, want %v", seed, l, m, b)
		}
		clear(l[:cap(l)])
		if !slices.Equal(a, wasA) || !slices.Equal(b, wasB) {
			t.Fatalf("seed %d: what was handed in became %v, %v", seed, a, b)
		}
	}
}

func valuesOf(l []api.Change) map[string]string {
	m := map[string]string{}
	for _, c := range l {
		m[c.Key] = c.Val
	}
	return m
}

// TestZ1AnyRows: each call ends, also at rows that don't rise.
func TestZ1AnyRows(t *testing.T) {
	for seed := range int64(3000) {
		d := rand.New(rand.NewSource(seed))
		var l [2][]api.Change
		for i := range 20 {
			c := api.Change{Key: drawnBytes(d), Val: drawnBytes(d), Gone: d.Intn(4) == 0}
			l[i%2] = append(l[i%2], c)
		}
		Changes(l[0], l[1])
		if f, err := Parse(l[0]); f != nil || err != error(api.ErrText) {
			t.Fatalf("Parse(%#v) = %v, %v", l[0], f != nil, err)
		}
	}
}

func drawnBytes(d *rand.Rand) string {
	b := []byte{"enxdf"[d.Intn(5)]}
	for range d.Intn(9) {
		b = append(b, "00012\x10\x01a\xff"[d.Intn(9)])
	}
	return string(b[d.Intn(2)*d.Intn(2):])
}

// TestZ2Fresh: what comes out is the caller's.
func TestZ2Fresh(t *testing.T) {
	f := sample(t)
	l := Rows(f)
	clear(l[:cap(l)])
	if got := Rows(f); !slices.Equal(got, sampleRows()) {
		t.Errorf("Rows = %#v", got)
	}
}
