package row

import (
	"fmt"
	"math/rand"
	"slices"
	"strings"
	"testing"

	"jobcase/api"
)

func of(n int) string { return strings.Repeat("k", n) }

// TestCheck: I1.
func TestCheck(t *testing.T) {
	for _, x := range []struct {
		c    api.Change
		want error
	}{
		{api.Change{Key: "a"}, nil},
		{api.Change{Key: "a", Val: "b"}, nil},
		{api.Change{Key: "\x00\xff", Val: "\xff\x00"}, nil},
		{api.Change{Key: "a", Gone: true}, nil},
		{api.Change{Key: of(48), Val: of(44)}, nil},
		{api.Change{Key: of(48), Gone: true}, nil},
		{api.Change{}, api.ErrShape},
		{api.Change{Gone: true}, api.ErrShape},
		{api.Change{Val: "b"}, api.ErrShape},
		{api.Change{Val: of(45)}, api.ErrShape},
		{api.Change{Key: "a", Val: "b", Gone: true}, api.ErrShape},
		{api.Change{Key: of(49), Val: of(45), Gone: true}, api.ErrShape},
		{api.Change{Key: of(49)}, api.ErrMany},
		{api.Change{Key: of(49), Gone: true}, api.ErrMany},
		{api.Change{Key: "a", Val: of(45)}, api.ErrMany},
		{api.Change{Key: of(1000), Val: of(1000)}, api.ErrMany},
	} {
		if err := Check(x.c); err != x.want {
			t.Errorf("Check(%v): %v, not %v", x.c, err, x.want)
		}
		s, err := Bytes(x.c)
		if err != x.want || x.want != nil && s != "" {
			t.Errorf("Bytes(%v): %q %v, not %v", x.c, s, err, x.want)
		}
		if err != nil {
			continue
		}
		if c, err := Parse(s); c != x.c || err != nil {
			t.Errorf("Parse(%q): %v %v, not %v", s, c, err, x.c)
		}
	}
}

// TestBytes: I2.
func TestBytes(t *testing.T) {
	for _, x := range []struct {
		c    api.Change
		want string
	}{
		{api.Change{Key: "ab", Val: "cde"}, "\x00\x02abcde"},
		{api.Change{Key: "ab", Gone: true}, "\x01\x02ab"},
		{api.Change{Key: "ab"}, "\x00\x02ab"},
		{api.Change{Key: of(48), Val: of(44)}, "\x00\x30" + of(92)},
		{api.Change{Key: "\x00", Val: "\x01"}, "\x00\x01\x00\x01"},
	} {
		if s, err := Bytes(x.c); s != x.want || err != nil {
			t.Errorf("Bytes(%v): %q %v, not %q", x.c, s, err, x.want)
		}
	}
}

// TestParseOfWrong: I2.
func TestParseOfWrong(t *testing.T) {
	for _, s := range []string{
		"", "\x00", "\x01", "\x00\x00", "\x01\x00", "\x00\x00a", // no key
		"\x02\x01a", "\xff\x01a", "o\x01a", // neither gone nor there
		"\x00\x01", "\x00\x02a", "\x01\xffa", // a key that isn't whole
		"\x01\x01ab",                                                                         // gone, with a value
		"\x00\x31" + of(49), "\x00\xff" + of(255), "\x01\x31" + of(49), "\x00\x01a" + of(45), // too long
	} {
		if c, err := Parse(s); c != (api.Change{}) || err != api.ErrText {
			t.Errorf("Parse(%q): %v %v", s, c, err)
		}
	}
}

// TestParseOfAll: I2: of all short texts just the Bytes of changes are read.
func TestParseOfAll(t *testing.T) {
	signs := []byte{0, 1, 2, 3, 'a'}
	told := map[string]api.Change{}
	var texts []string
	level := []string{""}
	for range 6 {
		texts = append(texts, level...)
		var longer []string
		for _, s := range level {
			for _, b := range signs {
				longer = append(longer, s+string(b))
			}
		}
		level = longer
	}
	for _, k := range texts {
		for _, v := range texts {
			if len(k)+len(v) > 3 {
				continue
			}
			for _, c := range []api.Change{{Key: k, Val: v}, {Key: k, Val: v, Gone: true}} {
				if s, err := Bytes(c); err == nil {
					if _, twice := told[s]; twice {
						t.Errorf("%q are the Bytes of two", s)
					}
					told[s] = c
				}
			}
		}
	}
	for _, s := range texts {
		want, is := told[s]
		c, err := Parse(s)
		if is != (err == nil) || c != want || !is && err != api.ErrText {
			t.Errorf("Parse(%q): %v %v, not %v", s, c, err, want)
		}
	}
}

// TestApply: I3.
func TestApply(t *testing.T) {
	b, x := api.Change{Key: "b", Val: "q"}, api.Change{Key: "x", Val: "r"}
	gone := func(k string) api.Change { return api.Change{Key: k, Gone: true} }
	put := func(k, v string) api.Change { return api.Change{Key: k, Val: v} }
	for _, c := range []struct{ rows, l, want []api.Change }{
		{nil, nil, nil},
		{[]api.Change{b, x}, nil, []api.Change{b, x}},
		{nil, []api.Change{put("a", "")}, []api.Change{put("a", "")}},
		{nil, []api.Change{gone("a")}, nil},
		{[]api.Change{b, x}, []api.Change{put("a", "1")}, []api.Change{put("a", "1"), b, x}},
		{[]api.Change{b, x}, []api.Change{put("c", "1")}, []api.Change{b, put("c", "1"), x}},
		{[]api.Change{b, x}, []api.Change{put("y", "1")}, []api.Change{b, x, put("y", "1")}},
		{[]api.Change{b, x}, []api.Change{put("bb", "1")}, []api.Change{b, put("bb", "1"), x}},
		{[]api.Change{b, x}, []api.Change{put("B", "1")}, []api.Change{put("B", "1"), b, x}},
		{[]api.Change{b, x}, []api.Change{put("\xff", "1"), put("\u00e9", "2")}, []api.Change{b, x, put("\u00e9", "2"), put("\xff", "1")}},
		{[]api.Change{b, x}, []api.Change{put("b", "1")}, []api.Change{put("b", "1"), x}},
		{[]api.Change{b, x}, []api.Change{put("b", "")}, []api.Change{put("b", ""), x}},
		{[]api.Change{b, x}, []api.Change{gone("b")}, []api.Change{x}},
		{[]api.Change{b, x}, []api.Change{gone("x")}, []api.Change{b}},
		{[]api.Change{b, x}, []api.Change{gone("c")}, []api.Change{b, x}},
		{[]api.Change{b, x}, []api.Change{gone("x"), gone("b")}, nil},
		{[]api.Change{b, x}, []api.Change{gone("b"), put("b", "1")}, []api.Change{put("b", "1"), x}},
		{[]api.Change{b, x}, []api.Change{put("b", "1"), gone("b")}, []api.Change{x}},
		{[]api.Change{b, x}, []api.Change{put("c", "1"), put("c", "2"), gone("x")}, []api.Change{b, put("c", "2")}},
	} {
		if got := Apply(c.rows, c.l); !slices.Equal(got, c.want) {
			t.Errorf("Apply(%v, %v): %v, not %v", c.rows, c.l, got, c.want)
		}
	}
}

// TestApplyAgainstModel: I3, and Z2: what is handed in stays, and isn't handed out.
func TestApplyAgainstModel(t *testing.T) {
	r := rand.New(rand.NewSource(9))
	for range 5000 {
		model := map[string]string{}
		draw := func(most int, gone bool) []api.Change {
			l := make([]api.Change, 0, 40)
			for range r.Intn(most) {
				c := api.Change{Key: []string{"a", "b", "ba", "c", "d\xff", "e"}[r.Intn(6)], Val: fmt.Sprint(r.Intn(9))}
				if gone && r.Intn(3) == 0 {
					c = api.Change{Key: c.Key, Gone: true}
				}
				l = append(l, c)
			}
			return l
		}
		rows := draw(6, false)
		slices.SortFunc(rows, func(a, b api.Change) int { return strings.Compare(a.Key, b.Key) })
		rows = slices.CompactFunc(rows, func(a, b api.Change) bool { return a.Key == b.Key })
		for _, c := range rows {
			model[c.Key] = c.Val
		}
		l := draw(12, true)
		for _, c := range l {
			if c.Gone {
				delete(model, c.Key)
			} else {
				model[c.Key] = c.Val
			}
		}
		var want []api.Change
		for k, v := range model {
			want = append(want, api.Change{Key: k, Val: v})
		}
		slices.SortFunc(want, func(a, b api.Change) int { return strings.Compare(a.Key, b.Key) })
		wasRows, wasL := slices.Clone(rows[:cap(rows)]), slices.Clone(l[:cap(l)])
		got := Apply(rows, l)
		if !slices.Equal(got, want) {
			t.Fatalf("Apply(%v, %v): %v, not %v", rows, l, got, want)
		}
		for i := range got[:cap(got)] {
			got[:cap(got)][i].Key = "mine"
		}
		if !slices.Equal(rows[:cap(rows)], wasRows) || !slices.Equal(l[:cap(l)], wasL) {
			t.Fatal("what was handed in is another one")
		}
	}
}

// TestApplyOfWrong: Z1: it ends, whatever it is given.
func TestApplyOfWrong(t *testing.T) {
	r := rand.New(rand.NewSource(10))
	draw := func() []api.Change {
		var l []api.Change
		for range r.Intn(9) {
			l = append(l, api.Change{Key: of(r.Intn(3)) + string(rune(r.Intn(9))), Val: of(r.Intn(60)), Gone: r.Intn(2) == 0})
		}
		return l
	}
	for range 3000 {
		Apply(draw(), draw())
	}
}
