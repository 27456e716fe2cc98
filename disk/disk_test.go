package disk

import (
	"math"
	"math/rand"
	"strings"
	"testing"

	"jobcase/api"
)

func newDisk(t *testing.T, n int) *Disk {
	t.Helper()
	d, err := New(n)
	if err != nil {
		t.Fatal(err)
	}
	return d
}

// padded: what a sector has that was written.
func padded(s string) string { return s + strings.Repeat("\x00", api.Sector-len(s)) }

// has: does the disk have just these texts, one a sector?
func has(t *testing.T, d *Disk, want ...string) {
	t.Helper()
	for i, w := range want {
		got, err := d.Read(i)
		if err != nil || got != padded(w) {
			t.Errorf("the sector %d: %q %v, not %q", i, strings.TrimRight(got, "\x00"), err, w)
		}
	}
}

func is(t *testing.T, what string, got, want error) {
	t.Helper()
	if got != want {
		t.Errorf("%s: %v, not %v", what, got, want)
	}
}

// TestNew: H1.
func TestNew(t *testing.T) {
	for _, n := range []int{math.MinInt, -1, 0, 131, math.MaxInt} {
		if d, err := New(n); d != nil || err != api.ErrBound {
			t.Errorf("New(%d): %v %v", n, d, err)
		}
	}
	for _, n := range []int{1, 2, 129, 130} {
		d := newDisk(t, n)
		if d.Sectors() != n || d.Down() {
			t.Errorf("New(%d): %d sectors, down: %v", n, d.Sectors(), d.Down())
		}
		has(t, d, make([]string, n)...)
	}
}

// TestReadAndWrite: H1.
func TestReadAndWrite(t *testing.T) {
	d := newDisk(t, 3)
	long := strings.Repeat("\xff", api.Sector)
	is(t, "whole", d.Write(1, long), nil)
	has(t, d, "", long, "")
	is(t, "short", d.Write(1, "a\x00b"), nil)
	has(t, d, "", "a\x00b", "")
	is(t, "nothing", d.Write(1, ""), nil)
	has(t, d, "", "", "")
	is(t, "last", d.Write(2, "z"), nil)
	is(t, "first", d.Write(0, "y"), nil)
	has(t, d, "y", "", "z")

	is(t, "too long", d.Write(0, long+"x"), api.ErrBound)
	for _, at := range []int{math.MinInt, -1, 3, math.MaxInt} {
		is(t, "no such sector", d.Write(at, "x"), api.ErrBound)
		if s, err := d.Read(at); s != "" || err != api.ErrBound {
			t.Errorf("Read(%d): %q %v", at, s, err)
		}
	}
	has(t, d, "y", "", "z")
}

// TestSteps: H2: so many steps are done, and no more; what is refused changes nothing.
func TestSteps(t *testing.T) {
	for n := range 6 {
		d := newDisk(t, 2)
		d.Arm(n)
		for i := range n {
			if i%2 == 0 {
				is(t, "a write ahead of the fall", d.Write(0, "a"), nil)
			} else {
				is(t, "a flush ahead of the fall", d.Flush(), nil)
			}
			if d.Down() {
				t.Fatalf("armed by %d, down behind %d", n, i+1)
			}
		}
		// None of these is a step.
		is(t, "no such sector", d.Write(2, "x"), api.ErrBound)
		is(t, "too long", d.Write(0, strings.Repeat("x", api.Sector+1)), api.ErrBound)
		if _, err := d.Read(0); err != nil || d.Sectors() != 2 || d.Down() {
			t.Errorf("armed by %d: it is down too early", n)
		}
		is(t, "the fall", d.Write(1, "b"), api.ErrDown)
		if !d.Down() {
			t.Errorf("armed by %d, and it isn't down", n)
		}
		d.Restart(math.MaxUint64)
		want := ""
		if n > 0 {
			want = "a"
		}
		has(t, d, want, "")
	}
}

// TestDown: H2, and what is told first (Z3).
func TestDown(t *testing.T) {
	d := newDisk(t, 1)
	is(t, "write", d.Write(0, "a"), nil)
	d.Arm(0)
	is(t, "flush", d.Flush(), api.ErrDown)
	for range 2 {
		is(t, "flush of what is down", d.Flush(), api.ErrDown)
		is(t, "write to what is down", d.Write(0, "b"), api.ErrDown)
		is(t, "write to no sector of what is down", d.Write(1, "b"), api.ErrBound)
		for at := -1; at < 2; at++ {
			if s, err := d.Read(at); s != "" || err != api.ErrDown {
				t.Errorf("Read(%d) of what is down: %q %v", at, s, err)
			}
		}
		if !d.Down() || d.Sectors() != 1 {
			t.Error("it isn't down, or has no sectors")
		}
		d.Arm(9) // it stays down
	}
	d.Arm(-1)
	is(t, "flush of what is down, and not armed", d.Flush(), api.ErrDown)
	d.Restart(0)
	has(t, d, "") // a flush that fell kept nothing
}

// TestNotArmed: H2, H3.
func TestNotArmed(t *testing.T) {
	many := func(d *Disk) {
		t.Helper()
		for range 300 {
			is(t, "a write to what isn't armed", d.Write(0, "a"), nil)
			is(t, "a flush of what isn't armed", d.Flush(), nil)
		}
	}
	d := newDisk(t, 1)
	many(d)
	for _, n := range []int{-1, -2, math.MinInt} {
		d.Arm(0)
		d.Arm(n)
		many(d)
	}
	d.Arm(0)
	d.Restart(0) // though it wasn't down
	many(d)
	d.Arm(0)
	is(t, "the fall", d.Flush(), api.ErrDown)
	d.Restart(0)
	if d.Down() {
		t.Error("it is down behind a Restart")
	}
	many(d)
	d.Arm(5)
	d.Arm(1) // the last one counts
	is(t, "one step", d.Flush(), nil)
	is(t, "the fall", d.Flush(), api.ErrDown)
}

// TestRestart: H3.
func TestRestart(t *testing.T) {
	for _, x := range []struct {
		keep uint64
		want []string
	}{
		{0, []string{"k", "", ""}},
		{1, []string{"a", "", ""}},
		{2, []string{"k", "b", ""}},
		{4, []string{"c", "", ""}},
		{5, []string{"c", "", ""}}, // in order
		{8, []string{"k", "", "d"}},
		{11, []string{"a", "b", "d"}},
		{15, []string{"c", "b", "d"}},
		{math.MaxUint64 - 15, []string{"k", "", ""}},
	} {
		for _, fall := range []bool{false, true} {
			d := newDisk(t, 3)
			is(t, "kept", d.Write(0, "k"), nil)
			is(t, "flush", d.Flush(), nil)
			for i, at := range []int{0, 1, 0, 2} {
				is(t, "not kept", d.Write(at, "abcd"[i:i+1]), nil)
			}
			has(t, d, "c", "b", "d")
			if fall {
				d.Arm(0)
				is(t, "the fall", d.Write(1, "e"), api.ErrDown)
			}
			d.Restart(x.keep)
			has(t, d, x.want...)
			d.Restart(math.MaxUint64) // nothing is left to be kept
			has(t, d, x.want...)
			is(t, "anew", d.Write(1, "n"), nil)
			d.Restart(1) // numbers begin anew
			has(t, d, x.want[0], "n", x.want[2])
		}
	}
}

// TestRestartOfMany: H3: numbers count modulo 64.
func TestRestartOfMany(t *testing.T) {
	for bit := range 64 {
		d := newDisk(t, api.Sectors)
		for i := range api.Sectors {
			is(t, "write", d.Write(i, "w"), nil)
		}
		d.Restart(1 << bit)
		want := make([]string, api.Sectors)
		for i := bit; i < api.Sectors; i += 64 {
			want[i] = "w"
		}
		has(t, d, want...)
	}
}

// TestOthers: Z2: two disks have nothing in common.
func TestOthers(t *testing.T) {
	a, b := newDisk(t, 1), newDisk(t, 1)
	is(t, "write", a.Write(0, "a"), nil)
	a.Arm(0)
	is(t, "the fall", a.Flush(), api.ErrDown)
	has(t, b, "")
}

// model of a disk: all that was ever written, and which of it counts for good.
type model struct {
	n           int
	at          []int
	data        []string
	kept        []bool
	flushed     int // so many of the writes are settled
	down, armed bool
	left        int
}

func (m *model) read(at int) (string, error) {
	if m.down {
		return "", api.ErrDown
	}
	if at < 0 || at >= m.n {
		return "", api.ErrBound
	}
	for i := len(m.at) - 1; i >= 0; i-- {
		if m.at[i] == at && (i >= m.flushed || m.kept[i]) {
			return padded(m.data[i]), nil
		}
	}
	return padded(""), nil
}

func (m *model) step() error {
	if m.down || m.armed && m.left == 0 {
		m.down = true
		return api.ErrDown
	}
	m.left--
	return nil
}

func (m *model) write(at int, data string) error {
	if at < 0 || at >= m.n || len(data) > api.Sector {
		return api.ErrBound
	}
	if err := m.step(); err != nil {
		return err
	}
	m.at, m.data, m.kept = append(m.at, at), append(m.data, data), append(m.kept, false)
	return nil
}

func (m *model) flush() error {
	if err := m.step(); err != nil {
		return err
	}
	m.settle(math.MaxUint64)
	return nil
}

func (m *model) settle(keep uint64) {
	for i := m.flushed; i < len(m.kept); i++ {
		m.kept[i] = keep&(1<<((i-m.flushed)%64)) != 0
	}
	m.flushed = len(m.kept)
}

// TestAgainstModel: H1 to H3, of acts that are drawn.
func TestAgainstModel(t *testing.T) {
	r := rand.New(rand.NewSource(8))
	for round := range 2000 {
		n := 1 + r.Intn(4)
		d, m := newDisk(t, n), &model{n: n}
		var acts []string
		for range 60 {
			at, data := r.Intn(n+2)-1, strings.Repeat(string(rune('a'+r.Intn(26))), []int{0, 1, 2, 140, 141}[r.Intn(5)])
			var got, want error
			act := "write"
			switch k := r.Intn(40); {
			case k < 28:
				got, want = d.Write(at, data), m.write(at, data)
			case k < 30:
				act = "flush"
				got, want = d.Flush(), m.flush()
			case k < 33:
				act = "arm"
				left := r.Intn(20) - 2
				d.Arm(left)
				m.armed, m.left = left >= 0, left
			case k < 36:
				act = "restart"
				keep := r.Uint64()
				d.Restart(keep)
				m.settle(keep)
				m.down, m.armed = false, false
			}
			acts = append(acts, act)
			if got != want || d.Down() != m.down {
				t.Fatalf("round %d: %v: %v, not %v", round, acts, got, want)
			}
			for i := -1; i <= n; i++ {
				s, err := d.Read(i)
				u, e := m.read(i)
				if s != u || err != e {
					t.Fatalf("round %d: %v: the sector %d: %q %v, not %q %v", round, acts, i, s, err, u, e)
				}
			}
		}
	}
}

// TestNothingIsSpent: what was kept is held no more, however much is written.
func TestNothingIsSpent(t *testing.T) {
	d := newDisk(t, 2)
	for range 1000 {
		is(t, "write", d.Write(1, "a"), nil)
		is(t, "flush", d.Flush(), nil)
		is(t, "write", d.Write(1, "b"), nil)
		d.Restart(0)
	}
	if cap(d.writes) > 0 {
		t.Errorf("%d writes are still held", cap(d.writes))
	}
	has(t, d, "", "a")
}
