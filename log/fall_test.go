package log

import (
	"fmt"
	"math"
	"math/rand"
	"slices"
	"testing"

	"jobcase/api"
	"jobcase/disk"
)

// keeps: what of at most so many writes may be kept: all choices of a few, some of many.
func keeps(r *rand.Rand, writes int) []uint64 {
	if writes <= 6 {
		var l []uint64
		for k := range uint64(1) << writes {
			l = append(l, k)
		}
		return l
	}
	l := []uint64{0, math.MaxUint64}
	for i := range writes {
		l = append(l, 1<<i, ^uint64(1<<i))
	}
	for range 20 {
		l = append(l, r.Uint64())
	}
	return l
}

const (
	from  = 2
	many  = 9
	first = 7
)

// stale sector at a place of the log, that may look as if it belonged to it.
func stale(r *rand.Rand, at int) string {
	n := first + at
	if r.Intn(8) == 0 {
		n += r.Intn(3) - 1
	}
	switch r.Intn(8) {
	case 0:
		return ""
	case 1:
		return "oats"
	case 2, 3, 4:
		return end(n, r.Intn(4))
	}
	return raw('o', n, "\x00\x01"+string(rune('p'+r.Intn(9))))
}

// staleDisk, the same for each number.
func staleDisk(t *testing.T, seed int64) *disk.Disk {
	t.Helper()
	r := rand.New(rand.NewSource(seed))
	d := newDisk(t, from+many+1)
	for i := range many {
		write(t, d, from+i, stale(r, i))
	}
	write(t, d, from+many, "behind")
	return d
}

func changes(r *rand.Rand) []api.Change {
	var l []api.Change
	for i := range r.Intn(5) {
		l = append(l, put(fmt.Sprint("new", i), "v"))
	}
	return l
}

// TestAddOverStale: J2: the deed stands behind the others, and no other behind it, whatever stood there.
func TestAddOverStale(t *testing.T) {
	for seed := range int64(4000) {
		d := staleDisk(t, seed)
		l, deeds := newLog(t, d, from, many, first)
		r := rand.New(rand.NewSource(-seed))
		for range 4 {
			c := changes(r)
			err := l.Add(c)
			if full := len(c)+1 > many-count1(deeds); full != (err == api.ErrFull) || !full && err != nil {
				t.Fatalf("%d: Add(%v): %v", seed, c, err)
			}
			if err == nil {
				deeds = append(deeds, c)
			}
			d.Restart(0) // for good
			again, got := newLog(t, d, from, many, first)
			if told(got) != told(deeds) || again.Room() != l.Room() || l.Room() != many-count1(deeds) {
				t.Fatalf("%d: Add(%v): %v, not %v; Room %d", seed, c, got, deeds, l.Room())
			}
		}
		if s, err := d.Read(from + many); err != nil || s[:7] != "behind\x00" {
			t.Fatalf("%d: a sector behind the log is touched", seed)
		}
	}
}

// count1: sectors of deeds.
func count1(deeds [][]api.Change) int {
	n := 0
	for _, c := range deeds {
		n += len(c) + 1
	}
	return n
}

// TestFalls: J2, W6: behind a fall at any step, and whatever is kept, the deed is there whole, or not at all.
func TestFalls(t *testing.T) {
	r := rand.New(rand.NewSource(11))
	fell, whole, none := 0, 0, 0
	for seed := range int64(300) {
		_, was := newLog(t, staleDisk(t, seed), from, many, first)
		c := changes(r)
		if len(c)+1 > many-count1(was) {
			continue
		}
		next := append(slices.Clone(was), c)
		for steps, done := 0, false; !done; steps++ {
			for _, keep := range keeps(r, min(steps, len(c)+2)) {
				d := staleDisk(t, seed)
				l, _ := newLog(t, d, from, many, first)
				d.Arm(steps)
				err := l.Add(c)
				d.Restart(keep)
				again, got := newLog(t, d, from, many, first)
				switch {
				case err == nil && told(got) == told(next):
					done = true
				case err == api.ErrDown && told(got) == told(next):
					whole++
				case err == api.ErrDown && told(got) == told(was):
					none++
				default:
					t.Fatalf("%d: behind %d steps, keeping %b: %v: %v; it was %v, and %v came", seed, steps, keep, err, got, was, c)
				}
				fell++
				// What was half written doesn't stand in the way of another one.
				if x := []api.Change{put("x", "")}; again.Add(x) == nil {
					d.Restart(0)
					if _, l := newLog(t, d, from, many, first); told(l) != told(append(got, x)) {
						t.Fatalf("%d: behind the fall %v was added, and there is %v", seed, x, l)
					}
				}
			}
		}
	}
	if fell < 10000 || whole < 100 || none < 1000 {
		t.Errorf("%d falls were tried, %d whole, %d none", fell, whole, none)
	}
}

// TestManyFalls: J2: one fall behind the other: all that was added, and now and then what was being added, in order.
func TestManyFalls(t *testing.T) {
	r := rand.New(rand.NewSource(12))
	for round := range 300 {
		d := newDisk(t, 80)
		first := 1 + r.Intn(1000)
		l, deeds := newLog(t, d, 0, 80, first)
		for i := range 20 {
			c := changes(r)
			if r.Intn(2) == 0 {
				c = append(c, put("y", fmt.Sprint(i)))
			}
			d.Arm(r.Intn(16))
			err := l.Add(c)
			d.Restart(r.Uint64())
			var got [][]api.Change
			l, got = newLog(t, d, 0, 80, first)
			with := append(slices.Clone(deeds), c)
			switch {
			case told(got) == told(with) && err != api.ErrFull:
				deeds = with
			case err == nil || told(got) != told(deeds):
				t.Fatalf("round %d: %v: %v, not %v", round, err, got, with)
			}
		}
	}
}
