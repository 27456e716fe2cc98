package store

import (
	"fmt"
	"math/rand"
	"slices"
	"strings"
	"testing"

	"jobcase/api"
	"jobcase/disk"
	"jobcase/log"
	"jobcase/row"
)

func newDisk(t *testing.T, n int) *disk.Disk {
	t.Helper()
	d, err := disk.New(n)
	if err != nil {
		t.Fatal(err)
	}
	return d
}

// must: what is done to get at something is done.
func must(t *testing.T, errs ...error) {
	t.Helper()
	for _, err := range errs {
		if err != nil {
			t.Fatal(err)
		}
	}
}

func open(t *testing.T, d *disk.Disk) *Store {
	t.Helper()
	s, err := Open(d)
	must(t, err)
	return s
}

// formatted: a new store, on a new disk.
func formatted(t *testing.T, n int) (*disk.Disk, *Store) {
	t.Helper()
	d := newDisk(t, n)
	must(t, Format(d))
	return d, open(t, d)
}

func put(k, v string) api.Change { return api.Change{Key: k, Val: v} }
func gone(k string) api.Change   { return api.Change{Key: k, Gone: true} }

// has: does the store have these rows, and that room, also if it is opened again, behind a fall that keeps nothing?
func has(t *testing.T, what string, d *disk.Disk, s *Store, room int, rows ...api.Change) {
	t.Helper()
	if !slices.Equal(s.Rows(), rows) || s.Room() != room {
		t.Errorf("%s: %v, Room %d; not %v, %d", what, s.Rows(), s.Room(), rows, room)
	}
	d.Restart(0)
	if again := open(t, d); !slices.Equal(again.Rows(), rows) || again.Room() != room {
		t.Errorf("%s: opened again: %v, Room %d; not %v, %d", what, again.Rows(), again.Room(), rows, room)
	}
}

// all sectors of a disk.
func all(t *testing.T, d *disk.Disk) []string {
	t.Helper()
	var l []string
	for i := range d.Sectors() {
		s, err := d.Read(i)
		must(t, err)
		l = append(l, s)
	}
	return l
}

func fall(d *disk.Disk) {
	d.Arm(0)
	_ = d.Flush()
}

// TestFormat: K1.
func TestFormat(t *testing.T) {
	for _, n := range []int{1, 89, 90, 91, 103} {
		d := newDisk(t, n)
		if err := Format(d); err != api.ErrFull {
			t.Errorf("%d sectors: %v", n, err)
		}
		if slices.ContainsFunc(all(t, d), func(s string) bool { return strings.Trim(s, "\x00") != "" }) {
			t.Errorf("%d sectors: it is refused, and something is written", n)
		}
		fall(d)
		if err := Format(d); err != api.ErrFull {
			t.Errorf("%d sectors, down: %v", n, err)
		}
	}
	for _, n := range []int{104, 105, 130} {
		d := newDisk(t, n)
		must(t, Format(d))
		has(t, "new", d, open(t, d), n-90)
		fall(d)
		if err := Format(d); err != api.ErrDown {
			t.Errorf("%d sectors, down: %v", n, err)
		}
	}
}

// TestFormatOver: K1: whatever was on the disk, the store is empty.
func TestFormatOver(t *testing.T) {
	for seed := range int64(300) {
		r := rand.New(rand.NewSource(seed))
		d := newDisk(t, 104+r.Intn(20))
		litter(t, r, d)
		was := all(t, d)
		must(t, Format(d))
		room := d.Sectors() - 90
		has(t, "formatted", d, open(t, d), room)
		s := open(t, d)
		must(t, s.Commit([]api.Change{put("a", "1")}))
		has(t, "committed", d, s, room-2, put("a", "1"))
		must(t, s.Commit(nil))
		has(t, "committed", d, s, room-3, put("a", "1"))
		must(t, s.Checkpoint())
		has(t, "laid", d, s, room, put("a", "1"))
		if t.Failed() {
			t.Fatalf("%d: over %q", seed, was)
		}
	}
}

// litter: sectors of all kinds, some that look as if a log had them.
func litter(t *testing.T, r *rand.Rand, d *disk.Disk) {
	t.Helper()
	if r.Intn(2) == 0 {
		for i := range d.Sectors() {
			must(t, d.Write(i, strings.Repeat(string(rune('a'+r.Intn(26))), 1+r.Intn(140))))
		}
	}
	for range r.Intn(3) {
		must(t, Format(d))
		s := open(t, d)
		for i := range r.Intn(20) {
			must(t, s.Commit([]api.Change{put(fmt.Sprint("old", i), "v")}))
		}
	}
	for range r.Intn(4) {
		at := 90 + r.Intn(3)
		l, _, err := log.Open(d, at, d.Sectors()-at, 1+r.Intn(4))
		must(t, err)
		_ = l.Add(make([]api.Change, 0))
		_ = l.Add([]api.Change{put("stale", "v")})
	}
}

// TestOpen: K1.
func TestOpen(t *testing.T) {
	for _, n := range []int{1, 2, 103, 104, 130} {
		d := newDisk(t, n)
		if s, err := Open(d); s != nil || err != api.ErrText {
			t.Errorf("%d sectors of noughts: %v %v", n, s, err)
		}
		for i := range n {
			must(t, d.Write(i, strings.Repeat("o", api.Sector)))
		}
		if s, err := Open(d); s != nil || err != api.ErrText {
			t.Errorf("%d sectors of others: %v %v", n, s, err)
		}
		fall(d)
		if s, err := Open(d); s != nil || err != api.ErrDown {
			t.Errorf("%d sectors, down: %v %v", n, s, err)
		}
	}
	d, _ := formatted(t, 104)
	fall(d)
	if s, err := Open(d); s != nil || err != api.ErrDown {
		t.Errorf("a store, down: %v %v", s, err)
	}
}

// TestOpenOfWrong: K1, Z1: what isn't as it is laid is no store, and none that is read panics.
func TestOpenOfWrong(t *testing.T) {
	bytes := func(l ...api.Change) string {
		s, err := textOf(l)
		must(t, err)
		return s
	}
	good := bytes(put("a", "1"), put("b", ""))
	whole := head{0, len(good), 1}
	for _, x := range []struct {
		what, head, text string
		want             error
	}{
		{"good", whole.tell(), good, nil},
		{"no mark", "J" + whole.tell()[1:], good, api.ErrText},
		{"half a mark", mark[:5], good, api.ErrText},
		{"a third half", head{2, len(good), 1}.tell(), good, api.ErrText},
		{"more than a half holds", head{0, perHalf*api.Sector + 1, 1}.tell(), good, api.ErrText},
		{"rows cut short", head{0, len(good) - 1, 1}.tell(), good, api.ErrText},
		{"noughts behind the rows", head{0, len(good) + 1, 1}.tell(), good, api.ErrText},
		{"a row twice", whole.tell(), bytes(put("a", "1"), put("a", "")), api.ErrText},
		{"rows that fall", whole.tell(), bytes(put("b", "1"), put("a", "")), api.ErrText},
		{"one gone", head{0, 5, 1}.tell(), bytes(gone("ab")), api.ErrText},
		{"no row", head{0, 3, 1}.tell(), "\x02\x00\x00", api.ErrText},
		{"a row of more than there is", head{0, 3, 1}.tell(), "\xff\x00\x01", api.ErrText},
	} {
		d := newDisk(t, 104)
		must(t, d.Write(headAt, x.head), d.Write(start(0), x.text))
		if s, err := Open(d); err != x.want || (s == nil) != (err != nil) {
			t.Errorf("%s: %v", x.what, err)
		}
	}
	small := newDisk(t, 103)
	must(t, small.Write(headAt, head{0, 0, 1}.tell()))
	if _, err := Open(small); err != api.ErrText {
		t.Errorf("a head on too few sectors: %v", err)
	}
	d, _ := formatted(t, 130)
	for i := range 3 {
		l, _, err := log.Open(d, 90, 40, 1)
		must(t, err)
		must(t, l.Add(lines(12*i, 12)))
	}
	if s := open(t, d); len(s.Rows()) != 36 {
		t.Errorf("%d rows, of a log that has 36", len(s.Rows()))
	}
}

// TestTooManyRows: what was laid, and what the log has, are never more than may be.
func TestTooManyRows(t *testing.T) {
	d := newDisk(t, 104)
	text, err := textOf(lines(0, api.MaxRows))
	must(t, err)
	for i, piece := range cut(text) {
		must(t, d.Write(start(0)+i, piece))
	}
	must(t, d.Write(headAt, head{0, len(text), 1}.tell()))
	if n := len(open(t, d).Rows()); n != api.MaxRows {
		t.Errorf("%d rows", n)
	}
	l, _, err := log.Open(d, logAt, 14, 1)
	must(t, err)
	must(t, l.Add(lines(api.MaxRows, 1)))
	if s, err := Open(d); s != nil || err != api.ErrText {
		t.Errorf("one more in the log: %v", err)
	}
}

// lines: so many rows, rising, from a number on.
func lines(from, many int) []api.Change {
	var l []api.Change
	for i := range many {
		l = append(l, put(fmt.Sprintf("r%03d", from+i), "v"))
	}
	return l
}

// TestCommit: K2.
func TestCommit(t *testing.T) {
	d, s := formatted(t, 110)
	must(t, s.Commit([]api.Change{put("b", "1"), put("a", "2")}))
	has(t, "two", d, s, 17, put("a", "2"), put("b", "1"))
	must(t, s.Commit(nil))
	has(t, "none", d, s, 16, put("a", "2"), put("b", "1"))
	must(t, s.Commit([]api.Change{gone("a"), put("b", ""), put("c", "x"), gone("c"), gone("z")}))
	has(t, "some gone", d, s, 10, put("b", ""))
	must(t, s.Commit(lines(0, 9)))
	has(t, "all the room", d, s, 0, append([]api.Change{put("b", "")}, lines(0, 9)...)...)
	must(t, s.Commit([]api.Change{put("c", "1")}))
	has(t, "a Checkpoint ahead", d, s, 18, append([]api.Change{put("b", ""), put("c", "1")}, lines(0, 9)...)...)
	must(t, s.Commit(lines(0, 12)))
	has(t, "the most", d, s, 5, append([]api.Change{put("b", ""), put("c", "1")}, lines(0, 12)...)...)
	must(t, s.Commit(lines(0, 5)))
	has(t, "one more than there is room for", d, s, 14, append([]api.Change{put("b", ""), put("c", "1")}, lines(0, 12)...)...)
}

// TestCommitErrors: K2, and what is told first; what is refused changes nothing.
func TestCommitErrors(t *testing.T) {
	long, shape := put(strings.Repeat("k", 49), ""), api.Change{Key: "a", Val: "b", Gone: true}
	for _, down := range []bool{false, true} {
		d, s := formatted(t, 104)
		for i := range 5 {
			must(t, s.Commit(lines(12*i, 12)))
		}
		must(t, s.Commit(lines(60, 3)))
		was, sectors := s.Rows(), all(t, d)
		if len(was) != 63 || s.Room() != 10 {
			t.Fatalf("%d rows, Room %d", len(was), s.Room())
		}
		if down {
			fall(d)
		}
		for _, x := range []struct {
			what string
			l    []api.Change
			want error
		}{
			{"too many changes", lines(0, 13), api.ErrMany},
			{"too many changes, all wrong", make([]api.Change, 13), api.ErrMany},
			{"wrong", []api.Change{shape}, api.ErrShape},
			{"too long", []api.Change{put("a", ""), long, shape}, api.ErrMany},
			{"wrong, and too many rows", append(lines(100, 2), shape), api.ErrShape},
			{"too many rows", lines(63, 2), api.ErrFull},
			{"too many rows, for which there is no room in the log", lines(63, 12), api.ErrFull},
		} {
			if err := s.Commit(x.l); err != x.want {
				t.Errorf("%s: %v, not %v", x.what, err, x.want)
			}
			if !slices.Equal(s.Rows(), was) || s.Room() != 10 || !down && !slices.Equal(all(t, d), sectors) {
				t.Errorf("%s: it is refused, and something is changed", x.what)
			}
		}
		if down {
			if err := s.Commit(nil); err != api.ErrDown {
				t.Errorf("down: %v", err)
			}
			if err := s.Checkpoint(); err != api.ErrDown {
				t.Errorf("down: %v", err)
			}
			continue
		}
		// Just as many rows as may be, behind all changes, do.
		must(t, s.Commit(append(lines(63, 2), gone("r000"))))
		has(t, "the most rows", d, s, 6, lines(1, 64)...)
	}
}

// TestCheckpoint: K3, of the greatest rows there are, and of none.
func TestCheckpoint(t *testing.T) {
	d, s := formatted(t, 104)
	must(t, s.Checkpoint())
	has(t, "none", d, s, 14)
	var rows []api.Change
	for i := range api.MaxRows {
		c := put(fmt.Sprintf("%02d", i)+strings.Repeat("\xff", 46), strings.Repeat("\x00", 44))
		rows = append(rows, c)
		must(t, s.Commit([]api.Change{c}))
	}
	for i := range 5 { // in each half
		must(t, s.Checkpoint())
		has(t, "the greatest", d, s, 14, rows...)
		rows[i].Val = "other"
		must(t, s.Commit([]api.Change{rows[i]}))
		has(t, "another one", d, s, 12, rows...)
	}
	for _, c := range rows {
		must(t, s.Commit([]api.Change{gone(c.Key)}))
	}
	must(t, s.Checkpoint())
	has(t, "none again", d, s, 14)
}

// TestOneByteMore: K3: rows of all lengths around a sector's end are laid.
func TestOneByteMore(t *testing.T) {
	for n := range 45 {
		d, s := formatted(t, 104)
		rows := []api.Change{put("a", strings.Repeat("x", 44)), put("b", strings.Repeat("y", 40)), put("c", strings.Repeat("z", n))}
		must(t, s.Commit(rows), s.Checkpoint())
		has(t, fmt.Sprint(n), d, s, 14, rows...)
	}
}

// TestNumbersComeRound: K3: though the log's numbers count modulo 2 to the power 32, no deed of old comes back.
func TestNumbersComeRound(t *testing.T) {
	d, s := formatted(t, 104)
	must(t, s.Commit([]api.Change{put("old", "v")}))
	must(t, d.Write(headAt, head{0, 0, 1<<32 + 1 - 14}.tell()), d.Flush())
	s = open(t, d)
	has(t, "ahead", d, s, 14)
	must(t, s.Checkpoint())
	has(t, "round", d, s, 14)
	for i := range 100 {
		must(t, s.Commit([]api.Change{put("new", fmt.Sprint(i))}), s.Commit(nil))
		has(t, "committed", d, s, 11, put("new", fmt.Sprint(i)))
		must(t, s.Checkpoint())
		has(t, "laid", d, s, 14, put("new", fmt.Sprint(i)))
	}
}

// TestNothingIsKept: Z2.
func TestNothingIsKept(t *testing.T) {
	d, s := formatted(t, 104)
	l := []api.Change{put("a", "1"), put("b", "2"), put("c", "3")}
	must(t, s.Commit(l[:2]))
	if !slices.Equal(l, []api.Change{put("a", "1"), put("b", "2"), put("c", "3")}) {
		t.Errorf("what was handed in is %v", l)
	}
	l[0].Key = "mine"
	rows := append(s.Rows(), put("y", ""))
	rows[0].Key = "mine"
	has(t, "kept", d, s, 11, put("a", "1"), put("b", "2"))
	must(t, s.Checkpoint())
	s.Rows()[1].Val = "mine"
	has(t, "laid", d, s, 14, put("a", "1"), put("b", "2"))
}

// TestTwoDisks: Z2: stores on two disks have nothing in common.
func TestTwoDisks(t *testing.T) {
	d, s := formatted(t, 104)
	e, u := formatted(t, 104)
	must(t, s.Commit([]api.Change{put("a", "1")}))
	has(t, "one", d, s, 12, put("a", "1"))
	has(t, "the other one", e, u, 14)
}

// TestAgainstModel: K1 to K3, of acts that are drawn.
func TestAgainstModel(t *testing.T) {
	r := rand.New(rand.NewSource(13))
	for range 200 {
		n := 104 + r.Intn(27)
		d, s := formatted(t, n)
		var rows []api.Change
		room := n - 90
		for range 60 {
			switch r.Intn(8) {
			case 0:
				must(t, s.Checkpoint())
				room = n - 90
			case 1:
				s = open(t, d)
			default:
				l := drawn(r)
				next := row.Apply(rows, l)
				err := s.Commit(l)
				if len(next) > api.MaxRows {
					if err != api.ErrFull {
						t.Fatalf("too many rows: %v", err)
					}
					break
				}
				must(t, err)
				if len(l)+1 > room {
					room = n - 90
				}
				rows, room = next, room-len(l)-1
			}
			if !slices.Equal(s.Rows(), rows) || s.Room() != room {
				t.Fatalf("%v, Room %d; not %v, %d", s.Rows(), s.Room(), rows, room)
			}
		}
		has(t, "at last", d, s, room, rows...)
	}
}

// drawn changes that may be.
func drawn(r *rand.Rand) []api.Change {
	var l []api.Change
	for range r.Intn(api.MaxChanges + 1) {
		c := put(fmt.Sprint("k", r.Intn(90)), strings.Repeat("v", r.Intn(45)))
		if r.Intn(4) == 0 {
			c = gone(c.Key)
		}
		l = append(l, c)
	}
	return l
}
