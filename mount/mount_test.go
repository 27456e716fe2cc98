package mount

import (
	"errors"
	"fmt"
	"math"
	"math/rand"
	"slices"
	"testing"

	"jobcase/api"
	"jobcase/disk"
	"jobcase/fs"
	"jobcase/image"
	"jobcase/store"
)

func newDisk(t *testing.T, n int) *disk.Disk {
	t.Helper()
	d, err := disk.New(n)
	if err != nil {
		t.Fatal(err)
	}
	return d
}

// must: what is done to get at something is done.
func must(t *testing.T, errs ...error) {
	t.Helper()
	for _, err := range errs {
		if err != nil {
			t.Fatal(err)
		}
	}
}

func open(t *testing.T, d *disk.Disk) *Mount {
	t.Helper()
	m, err := Open(d)
	must(t, err)
	return m
}

// formatted: a new mount, on a new disk.
func formatted(t *testing.T, n int) (*disk.Disk, *Mount) {
	t.Helper()
	d := newDisk(t, n)
	must(t, Format(d))
	return d, open(t, d)
}

func rowsOf(m *Mount) []api.Change { return image.Rows(m.FS()) }

// room of the log of a disk's store.
func room(t *testing.T, d *disk.Disk) int {
	t.Helper()
	s, err := store.Open(d)
	must(t, err)
	return s.Room()
}

// all sectors of a disk.
func all(t *testing.T, d *disk.Disk) []string {
	t.Helper()
	var l []string
	for i := range d.Sectors() {
		s, err := d.Read(i)
		must(t, err)
		l = append(l, s)
	}
	return l
}

// has: does the mount have these rows, also if it is opened again, behind a fall that keeps nothing?
func has(t *testing.T, what string, d *disk.Disk, m *Mount, rows []api.Change) {
	t.Helper()
	if !slices.Equal(rowsOf(m), rows) {
		t.Errorf("%s: %v, not %v", what, rowsOf(m), rows)
	}
	d.Restart(0)
	if got := rowsOf(open(t, d)); !slices.Equal(got, rows) {
		t.Errorf("%s: opened again: %v, not %v", what, got, rows)
	}
	s, err := store.Open(d)
	must(t, err)
	if !slices.Equal(s.Rows(), rows) {
		t.Errorf("%s: in the store: %v, not %v", what, s.Rows(), rows)
	}
}

func fall(d *disk.Disk) {
	d.Arm(0)
	_ = d.Flush()
}

func mkdir(path string) func(*fs.FS) error { return func(f *fs.FS) error { return f.Mkdir(path) } }

// TestFormat: L1.
func TestFormat(t *testing.T) {
	for _, n := range []int{1, 103} {
		d := newDisk(t, n)
		if err := Format(d); err != api.ErrFull {
			t.Errorf("%d sectors: %v", n, err)
		}
	}
	for _, n := range []int{104, 130} {
		d, m := formatted(t, n)
		has(t, "new", d, m, image.Rows(fs.New()))
		must(t, m.Do(mkdir("/a")), m.Save(), m.Do(mkdir("/b")))
		must(t, Format(d))
		has(t, "formatted again", d, open(t, d), image.Rows(fs.New()))
		fall(d)
		if err := Format(d); err != api.ErrDown {
			t.Errorf("down: %v", err)
		}
	}
	for steps, done := 0, false; !done; steps++ { // the disk's errors, at each step
		d := newDisk(t, 104)
		d.Arm(steps)
		err := Format(d)
		if err != nil && err != api.ErrDown || (err == nil) == d.Down() {
			t.Errorf("a fall behind %d steps: %v", steps, err)
		}
		done = err == nil
	}
}

// TestOpen: L1.
func TestOpen(t *testing.T) {
	for _, n := range []int{1, 104} {
		d := newDisk(t, n)
		if m, err := Open(d); m != nil || err != api.ErrText {
			t.Errorf("%d sectors without a store: %v %v", n, m, err)
		}
		fall(d)
		if m, err := Open(d); m != nil || err != api.ErrDown {
			t.Errorf("%d sectors, down: %v %v", n, m, err)
		}
	}
	for _, l := range [][]api.Change{
		nil,
		{{Key: "a", Val: "b"}},
		{{Key: "n001", Val: "d001001"}},
		{{Key: "n001", Val: "d001001"}, {Key: "x", Val: "001"}},
		{{Key: "n001", Val: "d001001"}, {Key: "n002", Val: "f000001"}, {Key: "x", Val: "003"}},
	} {
		d := newDisk(t, 104)
		must(t, store.Format(d))
		s, err := store.Open(d)
		must(t, err, s.Commit(l))
		if m, err := Open(d); m != nil || err != api.ErrText {
			t.Errorf("a store of %v: %v %v", l, m, err)
		}
	}
	d := newDisk(t, 104)
	must(t, store.Format(d))
	s, err := store.Open(d)
	must(t, err, s.Commit([]api.Change{{Key: "n001", Val: "d001001"}, {Key: "x", Val: "007"}}))
	m := open(t, d)
	must(t, m.Do(mkdir("/a")))
	if n, err := m.FS().Find("/A"); n.ID != 7 || err != nil {
		t.Errorf("a store by hand: %v %v", n, err)
	}
}

// TestFS: L1: it is a copy.
func TestFS(t *testing.T) {
	d, m := formatted(t, 104)
	must(t, m.Do(mkdir("/a")))
	was := rowsOf(m)
	f := m.FS()
	must(t, f.Mkdir("/b"), f.Remove("/a", true))
	has(t, "kept", d, m, was)
	must(t, m.Do(mkdir("/c")))
	if _, err := f.Find("/c"); err != api.ErrNone {
		t.Errorf("a copy has what was done later: %v", err)
	}
}

// TestDo: L2: what is done is there, as one deed.
func TestDo(t *testing.T) {
	d, m := formatted(t, 130)
	f := fs.New()
	free := room(t, d)
	for i, what := range []func(*fs.FS) error{
		mkdir("/\u00c4b"),
		func(f *fs.FS) error { return f.Create("/\u00e4b/Chapel", "hay") },
		func(f *fs.FS) error { return f.Link("/\u00e4B/chapel", "/k") },
		func(f *fs.FS) error { return f.Write("/K", "oats") },
		func(f *fs.FS) error { return f.Rename("/k", "/K") },
		func(f *fs.FS) error { return errors.Join(f.Mkdir("/z"), f.Mkdir("/z/z"), f.Remove("/k", false)) },
	} {
		was := image.Rows(f)
		must(t, what(f), m.Do(what))
		has(t, fmt.Sprint("deed ", i), d, m, image.Rows(f))
		free -= len(image.Changes(was, image.Rows(f))) + 1
		if room(t, d) != free {
			t.Errorf("deed %d: Room %d, not %d", i, room(t, d), free)
		}
	}
}

// TestDoNothing: L2: without changes nothing is committed, and no step is done.
func TestDoNothing(t *testing.T) {
	d, m := formatted(t, 104)
	must(t, m.Do(mkdir("/a")))
	was, sectors := rowsOf(m), all(t, d)
	d.Arm(0)
	for i, what := range []func(*fs.FS) error{
		func(*fs.FS) error { return nil },
		func(f *fs.FS) error { return f.Rename("/a", "/a") },
		func(f *fs.FS) error { _, err := f.List("/", "", 9); return err },
	} {
		if err := m.Do(what); err != nil || d.Down() {
			t.Errorf("nothing %d: %v", i, err)
		}
	}
	d.Restart(0)
	if !slices.Equal(all(t, d), sectors) {
		t.Error("something was written")
	}
	has(t, "nothing", d, m, was)
}

// TestDoErrors: L2: with an error nothing is changed.
func TestDoErrors(t *testing.T) {
	d, m := formatted(t, 130)
	must(t, m.Do(func(f *fs.FS) error { return f.Create("/f", "hay") }))
	mine := errors.New("mine")
	links := func(from, many int) func(*fs.FS) error {
		return func(f *fs.FS) error {
			for i := range many {
				must(t, f.Link("/f", fmt.Sprint("/l", from+i)))
			}
			return nil
		}
	}
	for i := range 5 { // 4 rows are there ahead
		must(t, m.Do(links(10*i, 10)))
	}
	must(t, m.Do(links(50, 8)))
	was, sectors := rowsOf(m), all(t, d)
	if len(was) != 62 {
		t.Fatalf("%d rows", len(was))
	}
	for _, x := range []struct {
		what string
		do   func(*fs.FS) error
		want error
	}{
		{"its error", func(*fs.FS) error { return mine }, mine},
		{"an error of folders", mkdir("/F"), api.ErrExist},
		{"its error, though something was done", func(f *fs.FS) error { must(t, f.Remove("/l3", false)); return api.ErrKind }, api.ErrKind},
		{"too many changes", func(f *fs.FS) error {
			for i := range 12 { // and the node's links
				must(t, f.Remove(fmt.Sprint("/l", i), false))
			}
			return nil
		}, api.ErrMany},
		{"too many rows", links(60, 3), api.ErrFull},
	} {
		if err := m.Do(x.do); err != x.want {
			t.Errorf("%s: %v, not %v", x.what, err, x.want)
		}
		if !slices.Equal(rowsOf(m), was) || !slices.Equal(all(t, d), sectors) {
			t.Errorf("%s: something is changed", x.what)
		}
	}
	must(t, m.Do(links(60, 2))) // just as many as may be
	if n := len(rowsOf(m)); n != api.MaxRows {
		t.Errorf("%d rows", n)
	}
	must(t, m.Do(func(f *fs.FS) error { // and as many changes
		for i := range 11 {
			must(t, f.Remove(fmt.Sprint("/l", i), false))
		}
		return nil
	}))
	has(t, "at last", d, m, rowsOf(m))
	was = rowsOf(m)
	fall(d)
	if err := m.Do(mkdir("/d")); err != api.ErrDown {
		t.Errorf("down: %v", err)
	}
	if err := m.Save(); err != api.ErrDown {
		t.Errorf("down: %v", err)
	}
	if !slices.Equal(rowsOf(m), was) {
		t.Error("down: something is changed")
	}
}

// TestKeptFS: L2: who keeps what was to be changed, and changes it later, changes nothing of the mount.
func TestKeptFS(t *testing.T) {
	d, m := formatted(t, 104)
	var kept *fs.FS
	must(t, m.Do(func(f *fs.FS) error { kept = f; return f.Mkdir("/a") }))
	was := rowsOf(m)
	must(t, kept.Mkdir("/b"), kept.Remove("/a", true))
	has(t, "kept", d, m, was)
	must(t, m.Do(mkdir("/c")))
	has(t, "one more", d, m, rowsOf(m))
	if _, err := m.FS().Find("/b"); err != api.ErrNone {
		t.Errorf("what wasn't done by Do: %v", err)
	}
}

// TestDoInDo: L2: what is done last is there, and the disk has the same.
func TestDoInDo(t *testing.T) {
	d, m := formatted(t, 104)
	must(t, m.Do(func(f *fs.FS) error {
		must(t, m.Do(mkdir("/in")))
		return f.Mkdir("/out")
	}))
	f := fs.New()
	must(t, f.Mkdir("/out"))
	has(t, "one in the other", d, m, image.Rows(f))
}

// TestSave: L2.
func TestSave(t *testing.T) {
	d, m := formatted(t, 104)
	must(t, m.Do(mkdir("/a")))
	was := rowsOf(m)
	if room(t, d) == 14 {
		t.Error("all of the log is free ahead")
	}
	must(t, m.Save())
	if room(t, d) != 14 {
		t.Errorf("Room %d", room(t, d))
	}
	has(t, "saved", d, m, was)
	must(t, m.Save())
	has(t, "saved twice", d, m, was)
}

// act: something that is drawn.
func act(r *rand.Rand, f *fs.FS) error {
	path := func() string {
		s := ""
		for range 1 + r.Intn(3) {
			s += "/" + []string{"a", "A", "b", "\u00e9", "E\u0301", "ch", ".", "..", ""}[r.Intn(33)/4]
		}
		return s
	}
	a, b := path(), path()
	switch r.Intn(9) {
	case 0, 1, 2:
		return f.Mkdir(a)
	case 3, 4:
		return f.Create(a, "hay"[:r.Intn(4)])
	case 5:
		return f.Write(a, "oats"[:r.Intn(5)])
	case 6:
		return f.Link(a, b)
	case 7:
		return f.Remove(a, r.Intn(2) == 0)
	}
	return f.Rename(a, b)
}

// TestAgainstFS: L1, L2: acts that are drawn do the same to a mount and to folders and files.
func TestAgainstFS(t *testing.T) {
	r := rand.New(rand.NewSource(18))
	for range 100 {
		d, m := formatted(t, 104+r.Intn(9))
		f := fs.New()
		for range 80 {
			next := f.Copy()
			seed := r.Int63()
			want := act(rand.New(rand.NewSource(seed)), next)
			got := m.Do(func(f *fs.FS) error { return act(rand.New(rand.NewSource(seed)), f) })
			if got != want {
				t.Fatalf("%v, not %v", got, want)
			}
			if want == nil {
				f = next
			}
			switch r.Intn(8) {
			case 0:
				must(t, m.Save())
			case 1:
				m = open(t, d)
			}
			if !slices.Equal(rowsOf(m), image.Rows(f)) {
				t.Fatalf("%v, not %v", rowsOf(m), image.Rows(f))
			}
		}
		has(t, "at last", d, m, image.Rows(f))
	}
}

// TestFallsInOne: L2, W6: at each step of one deed, whatever is kept.
func TestFallsInOne(t *testing.T) {
	for _, used := range []int{0, 1, 2, 3} { // deeds ahead, up to where the log is full
		ready := func() (*disk.Disk, *Mount) {
			d, m := formatted(t, 104)
			for i := range used {
				must(t, m.Do(mkdir(fmt.Sprint("/", i))))
			}
			return d, m
		}
		what := func(f *fs.FS) error { return errors.Join(f.Create("/f", "hay"), f.Link("/f", "/g"), f.Mkdir("/h")) }
		for steps, done := 0, false; !done; steps++ {
			keeps := []uint64{0, math.MaxUint64}
			for k := range uint64(1) << min(steps, 7) {
				keeps = append(keeps, k)
			}
			for _, keep := range keeps {
				d, m := ready()
				was, next := rowsOf(m), m.FS()
				must(t, what(next))
				d.Arm(steps)
				err := m.Do(what)
				d.Restart(keep)
				got := rowsOf(open(t, d))
				if err != nil && err != api.ErrDown || !slices.Equal(got, image.Rows(next)) && (err == nil || !slices.Equal(got, was)) {
					t.Fatalf("behind %d steps, keeping %b: %v: %v; it was %v", steps, keep, err, got, was)
				}
				done = err == nil
			}
		}
	}
}

// TestManyFalls: L2, W6: one fall behind the other, in Do and in Save.
func TestManyFalls(t *testing.T) {
	r := rand.New(rand.NewSource(19))
	for range 150 {
		d, m := formatted(t, 104+r.Intn(9))
		for range 40 {
			was := rowsOf(m)
			next := was
			d.Arm(r.Intn(14))
			var err error
			if r.Intn(5) == 0 {
				err = m.Save()
			} else {
				err = m.Do(func(f *fs.FS) error {
					err := act(r, f)
					if err == nil {
						next = image.Rows(f)
					}
					return err
				})
			}
			d.Restart(r.Uint64())
			m = open(t, d)
			if got := rowsOf(m); !slices.Equal(got, next) && (err == nil || !slices.Equal(got, was)) {
				t.Fatalf("%v: %v, neither %v nor %v", err, got, was, next)
			}
		}
	}
}
