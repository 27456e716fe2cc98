package fs

import (
	"fmt"
	"math/rand"
	"slices"
	"strings"
	"testing"

	"jobcase/api"
	"jobcase/key"
	"jobcase/name"
	"jobcase/plain"
)

// model: the same as an FS, by a list of links that is searched through, name by name.
type model struct {
	nodes map[int]api.Node
	links []link
	next  int
}

type link struct {
	folder int
	name   string
	node   int
}

func newModel() *model {
	return &model{nodes: map[int]api.Node{1: {ID: 1, Kind: api.Folder, Up: 1, Links: 1}}, next: 2}
}

func (m *model) copied() *model {
	c := &model{nodes: map[int]api.Node{}, links: slices.Clone(m.links), next: m.next}
	for id, n := range m.nodes {
		c.nodes[id] = n
	}
	return c
}

func (m *model) at(folder int, name string) int {
	return slices.IndexFunc(m.links, func(l link) bool {
		return l.folder == folder && plain.Alike(l.name, name)
	})
}

func (m *model) walk(parts []string) (int, error) {
	id := api.Root
	for _, p := range parts {
		if m.nodes[id].Kind != api.Folder {
			return 0, api.ErrKind
		}
		if p == ".." {
			id = m.nodes[id].Up
		} else if p != "." {
			i := m.at(id, p)
			if i < 0 {
				return 0, api.ErrNone
			}
			id = m.links[i].node
		}
	}
	return id, nil
}

func (m *model) find(path string) (api.Node, error) {
	parts, err := name.Parts(path)
	if err != nil {
		return api.Node{}, err
	}
	id, err := m.walk(parts)
	return m.nodes[id], err
}

func (m *model) place(path string) (folder int, last string, err error) {
	parts, err := name.Parts(path)
	if err != nil {
		return 0, "", err
	}
	if len(parts) == 0 {
		return 0, "", api.ErrShape
	}
	last = parts[len(parts)-1]
	if last == "." || last == ".." {
		return 0, "", api.ErrShape
	}
	folder, err = m.walk(parts[:len(parts)-1])
	if err == nil && m.nodes[folder].Kind != api.Folder {
		err = api.ErrKind
	}
	return folder, last, err
}

func (m *model) free(path string) (folder int, last string, err error) {
	folder, last, err = m.place(path)
	if err == nil && m.at(folder, last) >= 0 {
		err = api.ErrExist
	}
	return folder, last, err
}

func (m *model) create(kind int, path, text string) error {
	if len(text) > 20 {
		return api.ErrMany
	}
	folder, last, err := m.free(path)
	if err != nil {
		return err
	}
	if len(m.nodes) == 16 || m.next > 999 {
		return api.ErrFull
	}
	n := api.Node{ID: m.next, Kind: kind, Links: 1, Text: text}
	if kind == api.Folder {
		n.Up = folder
	}
	m.nodes[m.next] = n
	m.links = append(m.links, link{folder, last, m.next})
	m.next++
	return nil
}

func (m *model) write(path, text string) error {
	if len(text) > 20 {
		return api.ErrMany
	}
	n, err := m.find(path)
	if err != nil {
		return err
	}
	if n.Kind != api.Plain {
		return api.ErrKind
	}
	n.Text = text
	m.nodes[n.ID] = n
	return nil
}

func (m *model) link(path, to string) error {
	n, err := m.find(path)
	if err != nil {
		return err
	}
	if n.Kind != api.Plain {
		return api.ErrKind
	}
	folder, last, err := m.free(to)
	if err != nil {
		return err
	}
	n.Links++
	m.nodes[n.ID] = n
	m.links = append(m.links, link{folder, last, n.ID})
	return nil
}

func (m *model) empty(id int) bool {
	return !slices.ContainsFunc(m.links, func(l link) bool { return l.folder == id })
}

// gone: all links are counted anew.
func (m *model) gone(i int) {
	id := m.links[i].node
	m.links = slices.Delete(slices.Clone(m.links), i, i+1)
	n := m.nodes[id]
	n.Links = 0
	for _, l := range m.links {
		if l.node == id {
			n.Links++
		}
	}
	m.nodes[id] = n
	if n.Links == 0 {
		delete(m.nodes, id)
	}
}

func (m *model) remove(path string, folder bool) error {
	up, last, err := m.place(path)
	if err != nil {
		return err
	}
	i := m.at(up, last)
	if i < 0 {
		return api.ErrNone
	}
	n := m.nodes[m.links[i].node]
	if folder != (n.Kind == api.Folder) {
		return api.ErrKind
	}
	if folder && !m.empty(n.ID) {
		return api.ErrExist
	}
	m.gone(i)
	return nil
}

func (m *model) rename(path, to string) error {
	up, last, err := m.place(path)
	if err != nil {
		return err
	}
	i := m.at(up, last)
	if i < 0 {
		return api.ErrNone
	}
	goal, as, err := m.place(to)
	if err != nil {
		return err
	}
	n := m.nodes[m.links[i].node]
	if n.Kind == api.Folder {
		for id := goal; id != api.Root; id = m.nodes[id].Up {
			if id == n.ID {
				return api.ErrRound
			}
		}
	}
	j := m.at(goal, as)
	if j >= 0 && j != i {
		o := m.nodes[m.links[j].node]
		switch {
		case o.ID == n.ID:
			return nil
		case o.Kind != n.Kind:
			return api.ErrKind
		case o.Kind == api.Folder && !m.empty(o.ID):
			return api.ErrExist
		}
		m.gone(j)
		i = m.at(up, last)
	}
	m.links[i] = link{goal, as, n.ID}
	if n.Kind == api.Folder {
		n.Up = goal
		m.nodes[n.ID] = n
	}
	return nil
}

func (m *model) list(path, after string, many int) ([]api.Entry, error) {
	n, err := m.find(path)
	if err != nil {
		return nil, err
	}
	if n.Kind != api.Folder {
		return nil, api.ErrKind
	}
	if after != "" {
		if err := name.Check(after); err != nil {
			return nil, err
		}
	}
	var out []api.Entry
	for _, e := range m.entries(n.ID) {
		if len(out) < many && (after == "" || key.Compare(e.Name, after) > 0) {
			out = append(out, e)
		}
	}
	return out, nil
}

func (m *model) entries(id int) []api.Entry {
	var out []api.Entry
	for _, l := range m.links {
		if l.folder == id {
			out = append(out, api.Entry{Name: l.name, Node: l.node})
		}
	}
	slices.SortFunc(out, func(a, b api.Entry) int { return key.Compare(a.Name, b.Name) })
	return out
}

func (m *model) told() string {
	var l []api.Node
	for id := range 1001 {
		if n, is := m.nodes[id]; is {
			l = append(l, n)
		}
	}
	return tell(l, m.next, m.entries)
}

// tell all that there is, as a text.
func tell(l []api.Node, next int, entries func(int) []api.Entry) string {
	var b strings.Builder
	for _, n := range l {
		fmt.Fprintf(&b, "%+v %v\n", n, entries(n.ID))
	}
	fmt.Fprintf(&b, "next %d", next)
	return b.String()
}

func told(f *FS) string {
	l, next := f.Nodes()
	return tell(l, next, f.Entries)
}

// drawn: one of a few, so that things meet.
func drawn(d *rand.Rand, l ...string) string { return l[d.Intn(len(l))] }

func drawnPath(d *rand.Rand) string {
	if d.Intn(25) == 0 {
		return drawn(d, "", "/", "a", "/a/", "//a", "/a//b", "/\xff", "/\u0301", "/a/a/a/a/a/a/a", "/"+strings.Repeat("a", 80), "/a|b", "/aaaaaaaaaaaaa")
	}
	s := ""
	for range 1 + d.Intn(4) {
		s += "/" + drawn(d, "a", "A", "b", "B", "\u00e9", "E\u0301", "ch", "cH", "\u03c3", "\u03c2", ".", "..")
	}
	return s
}

func drawnText(d *rand.Rand) string {
	return drawn(d, "", "hay", "\x00\xff", strings.Repeat("z", 20), strings.Repeat("z", 21))
}

// both do the same: what came out?
func both(d *rand.Rand, f *FS, m *model) (what string, got, want error) {
	a, b, text := drawnPath(d), drawnPath(d), drawnText(d)
	switch c := d.Intn(16); {
	case c < 4:
		return fmt.Sprintf("Mkdir(%q)", a), f.Mkdir(a), m.create(api.Folder, a, "")
	case c < 7:
		return fmt.Sprintf("Create(%q, %q)", a, text), f.Create(a, text), m.create(api.Plain, a, text)
	case c < 8:
		return fmt.Sprintf("Write(%q, %q)", a, text), f.Write(a, text), m.write(a, text)
	case c < 10:
		return fmt.Sprintf("Link(%q, %q)", a, b), f.Link(a, b), m.link(a, b)
	case c < 12:
		folder := d.Intn(2) == 0
		return fmt.Sprintf("Remove(%q, %v)", a, folder), f.Remove(a, folder), m.remove(a, folder)
	}
	return fmt.Sprintf("Rename(%q, %q)", a, b), f.Rename(a, b), m.rename(a, b)
}

// TestAgainstModel: F1 to F9, in whatever order they are called.
func TestAgainstModel(t *testing.T) {
	for seed := range int64(300) {
		d := rand.New(rand.NewSource(seed))
		f, m := New(), newModel()
		for range 150 {
			was := told(f)
			what, got, want := both(d, f, m)
			if got != want {
				t.Fatalf("seed %d: %s = %v, want %v, in\n%s", seed, what, got, want, was)
			}
			is := told(f)
			if got != nil && is != was {
				t.Fatalf("seed %d: %s = %v, but it became\n%s\nof\n%s", seed, what, got, is, was)
			}
			if is != m.told() {
				t.Fatalf("seed %d: behind %s:\n%s\nwant\n%s\nof\n%s", seed, what, is, m.told(), was)
			}
			asks(t, d, f, m)
			whole(t, f)
			if told(f) != is {
				t.Fatalf("seed %d: who asks changed\n%s\nto\n%s", seed, is, told(f))
			}
		}
	}
}

func asks(t *testing.T, d *rand.Rand, f *FS, m *model) {
	t.Helper()
	path, after, many := drawnPath(d), drawn(d, "", "", "a", "B", "\u00c9", "cz", ".", "\xff"), d.Intn(7)-1
	got, err := f.Find(path)
	want, wantErr := m.find(path)
	if got != want || err != wantErr {
		t.Fatalf("Find(%q) = %v, %v, want %v, %v", path, got, err, want, wantErr)
	}
	l, err := f.List(path, after, many)
	wantList, wantErr := m.list(path, after, many)
	if !slices.Equal(l, wantList) || err != wantErr {
		t.Fatalf("List(%q, %q, %d) = %v, %v, want %v, %v", path, after, many, l, err, wantList, wantErr)
	}
}

// whole: W2 and W3, of whatever there is.
func whole(t *testing.T, f *FS) {
	t.Helper()
	l, _ := f.Nodes()
	named := map[int]int{}
	ups := map[int]int{}
	for _, n := range l {
		ups[n.ID] = n.Up
		entries := f.Entries(n.ID)
		for i, e := range entries {
			named[e.Node]++
			for _, o := range entries[:i] {
				if plain.Alike(e.Name, o.Name) {
					t.Fatalf("folder %d has %q and %q", n.ID, e.Name, o.Name)
				}
			}
		}
	}
	for _, n := range l {
		if n.ID == api.Root {
			if named[n.ID] != 0 {
				t.Fatal("an entry names Root")
			}
			continue
		}
		if named[n.ID] != n.Links || n.Links < 1 {
			t.Fatalf("%d entries name %+v", named[n.ID], n)
		}
		delete(named, n.ID)
		if n.Kind == api.Folder {
			if !slices.ContainsFunc(f.Entries(n.Up), func(e api.Entry) bool { return e.Node == n.ID }) {
				t.Fatalf("its folder doesn't name %+v", n)
			}
			id := n.ID
			for range l {
				id = ups[id]
			}
			if id != api.Root {
				t.Fatalf("%+v doesn't hang on Root", n)
			}
		}
	}
	if len(named) != 0 {
		t.Fatalf("entries name %v, which aren't there", named)
	}
}

// TestF1CopyIsApart: of several copies each goes its own way.
func TestF1CopyIsApart(t *testing.T) {
	for seed := range int64(60) {
		d := rand.New(rand.NewSource(seed))
		all, models := []*FS{New()}, []*model{newModel()}
		for range 200 {
			i := d.Intn(len(all))
			if d.Intn(10) == 0 && len(all) < 5 {
				all, models = append(all, all[i].Copy()), append(models, models[i].copied())
			}
			if what, got, want := both(d, all[i], models[i]); got != want {
				t.Fatalf("seed %d: %s = %v, want %v", seed, what, got, want)
			}
			for j := range all {
				if told(all[j]) != models[j].told() {
					t.Fatalf("seed %d: one became\n%s\nwant\n%s", seed, told(all[j]), models[j].told())
				}
			}
		}
	}
}

// TestF1Of: what an FS tells of itself makes another one, that goes on alike, and keeps nothing of what was handed in.
func TestF1Of(t *testing.T) {
	for seed := range int64(60) {
		d := rand.New(rand.NewSource(seed))
		f, m := New(), newModel()
		for range 60 {
			both(d, f, m)
		}
		l, next := f.Nodes()
		entries := map[int][]api.Entry{}
		for _, n := range l {
			if n.Kind == api.Folder {
				entries[n.ID] = f.Entries(n.ID)
				d.Shuffle(len(entries[n.ID]), func(i, j int) {
					entries[n.ID][i], entries[n.ID][j] = entries[n.ID][j], entries[n.ID][i]
				})
			}
		}
		d.Shuffle(len(l), func(i, j int) { l[i], l[j] = l[j], l[i] })
		handed := fmt.Sprint(l, entries)
		g := Of(l, entries, next)
		if told(g) != told(f) {
			t.Fatalf("seed %d: %s\nof\n%s", seed, told(g), told(f))
		}
		for range 40 {
			if what, got, want := both(d, g, m); got != want {
				t.Fatalf("seed %d: %s = %v, want %v", seed, what, got, want)
			}
		}
		if fmt.Sprint(l, entries) != handed {
			t.Fatalf("seed %d: what was handed in became %v, %v", seed, l, entries)
		}
		clear(l)
		for _, e := range entries {
			clear(e)
		}
		clear(entries)
		if told(g) != m.told() {
			t.Fatalf("seed %d: %s\nwant\n%s", seed, told(g), m.told())
		}
	}
}
