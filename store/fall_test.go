package store

import (
	"fmt"
	"math"
	"math/rand"
	"slices"
	"testing"

	"jobcase/api"
	"jobcase/disk"
	"jobcase/row"
)

// keeps: what of so many writes may be kept: all choices of a few, some of many.
func keeps(r *rand.Rand, writes int) []uint64 {
	if writes <= 4 {
		var l []uint64
		for k := range uint64(1) << writes {
			l = append(l, k)
		}
		return l
	}
	l := []uint64{0, math.MaxUint64, 1, ^uint64(1)}
	for range 12 {
		l = append(l, r.Uint64())
	}
	return l
}

// tryFalls: at each step of an act, with what may be kept; the rows are then those that were, or those that were to be.
func tryFalls(t *testing.T, what string, ready func() (*disk.Disk, *Store), act func(d *disk.Disk, s *Store) error, next []api.Change) {
	t.Helper()
	r := rand.New(rand.NewSource(14))
	for steps, done := 0, false; !done; steps++ {
		for _, keep := range keeps(r, steps) {
			d, s := ready()
			was := s.Rows()
			d.Arm(steps)
			err := act(d, s)
			d.Restart(keep)
			again := open(t, d)
			got := again.Rows()
			if err != nil && err != api.ErrDown || !slices.Equal(got, next) && (err == nil || !slices.Equal(got, was)) {
				t.Fatalf("%s: behind %d steps, keeping %b: %v: %v; it was %v", what, steps, keep, err, got, was)
			}
			done = err == nil
			goesOn(t, what, d, again)
		}
	}
}

// goesOn: a store that was opened behind a fall does what others do.
func goesOn(t *testing.T, what string, d *disk.Disk, s *Store) {
	t.Helper()
	rows := s.Rows()
	for i := range 3 {
		l := []api.Change{put("on", fmt.Sprint(i)), gone("r000")}
		rows = row.Apply(rows, l)
		must(t, s.Commit(l))
		if i == 1 {
			must(t, s.Checkpoint())
		}
		d.Restart(0)
		if got := open(t, d); !slices.Equal(got.Rows(), rows) || got.Room() != s.Room() {
			t.Fatalf("%s: gone on behind a fall: %v, not %v", what, got.Rows(), rows)
		}
	}
}

// TestFalls: K4, W6.
func TestFalls(t *testing.T) {
	for _, laid := range []int{0, 1, 2} { // how many Checkpoints there were
		for _, used := range []int{0, 1, 5, 12, 14} { // of the log's sectors
			ready := func() (*disk.Disk, *Store) {
				d, s := formatted(t, 104)
				must(t, s.Commit(lines(0, 12)))
				for range laid {
					must(t, s.Checkpoint(), s.Commit([]api.Change{put("w", "1")}))
				}
				must(t, s.Checkpoint())
				for range used {
					must(t, s.Commit(nil))
				}
				return d, s
			}
			_, s := ready()
			rows := s.Rows()
			for _, l := range [][]api.Change{nil, {put("r005", "new")}, {gone("r003"), put("z", ""), put("q", "1")}, lines(3, 12)} {
				what := fmt.Sprintf("Commit(%v) behind %d Checkpoints and %d sectors", l, laid, used)
				tryFalls(t, what, ready, func(_ *disk.Disk, s *Store) error { return s.Commit(l) }, row.Apply(rows, l))
			}
			what := fmt.Sprintf("Checkpoint behind %d Checkpoints and %d sectors", laid, used)
			tryFalls(t, what, ready, func(_ *disk.Disk, s *Store) error { return s.Checkpoint() }, rows)
			tryFalls(t, "Format", ready, func(d *disk.Disk, _ *Store) error { return Format(d) }, nil)
		}
	}
}

// TestFallInFormat: K1, W6: on a disk without a store there is none, or an empty one.
func TestFallInFormat(t *testing.T) {
	for steps, done := 0, false; !done; steps++ {
		for keep := range uint64(8) {
			d := newDisk(t, 104)
			d.Arm(steps)
			err := Format(d)
			d.Restart(keep)
			s, e := Open(d)
			if err == nil && e != nil || e == nil && len(s.Rows()) > 0 || e != nil && e != api.ErrText {
				t.Errorf("behind %d steps, keeping %b: %v, then %v", steps, keep, err, e)
			}
			done = err == nil
		}
	}
}

// TestGreatFalls: K4: of as many rows as may be, of all lengths.
func TestGreatFalls(t *testing.T) {
	ready := func() (*disk.Disk, *Store) {
		d, s := formatted(t, 104)
		r := rand.New(rand.NewSource(15))
		for i := range api.MaxRows {
			must(t, s.Commit([]api.Change{put(fmt.Sprintf("r%047d", i), fmt.Sprintf("%0*d", r.Intn(45), 0))}))
		}
		return d, s
	}
	_, s := ready()
	rows := s.Rows()
	r := rand.New(rand.NewSource(16))
	for steps, done := 0, false; !done; steps++ {
		for range 30 {
			d, s := ready()
			d.Arm(steps)
			err := s.Checkpoint()
			d.Restart(r.Uint64())
			if got := open(t, d).Rows(); !slices.Equal(got, rows) {
				t.Fatalf("behind %d steps: %v", steps, got)
			}
			done = err == nil
		}
	}
}

// TestManyFalls: K4: one fall behind the other.
func TestManyFalls(t *testing.T) {
	r := rand.New(rand.NewSource(17))
	for range 100 {
		d, s := formatted(t, 104+r.Intn(12))
		rows := s.Rows()
		for range 60 {
			l := drawn(r)
			next := row.Apply(rows, l)
			d.Arm(r.Intn(30))
			err := s.Commit(l)
			if err == nil && r.Intn(4) == 0 {
				rows = next
				_ = s.Checkpoint()
			}
			d.Restart(r.Uint64())
			s = open(t, d)
			got := s.Rows()
			switch {
			case err == api.ErrFull && slices.Equal(got, rows):
			case err != api.ErrFull && slices.Equal(got, next):
				rows = next
			case err == nil || !slices.Equal(got, rows):
				t.Fatalf("%v: %v, neither %v nor %v", err, got, rows, next)
			}
		}
	}
}
