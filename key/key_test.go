package key

import (
	"math/rand"
	"strings"
	"testing"

	"jobcase/name"
	"jobcase/plain"
)

func TestD1Of(t *testing.T) {
	for _, c := range []struct{ in, want string }{
		{"a", "\x10\x01\x01"},
		{"A", "\x10\x01\x01"},
		{" -._", "\x02\x03\x04\x05\x01\x01\x01\x01\x01"},
		{"09", "\x06\x0f\x01\x01\x01"},
		{"abc", "\x10\x11\x12\x01\x01\x01\x01"},
		{"dz", "\x14\x2a\x01\x01\x01"},
		{"\u03c3\u03c2\u03a3", "\x2b\x2b\x2b\x01\x01\x01\x01"},
		{"ch", "\x13\x01\x01"},
		{"CH", "\x13\x01\x01"},
		{"cH", "\x13\x01\x01"},
		{"hc", "\x18\x12\x01\x01\x01"},
		{"cch", "\x12\x13\x01\x01\x01"},
		{"chh", "\x13\x18\x01\x01\x01"},
		{"chch", "\x13\x13\x01\x01\x01"},
		{"c h", "\x12\x02\x18\x01\x01\x01\x01"},
		{"\u00e7h", "\x12\x18\x01\x02\x01\x01"}, // a mark stands between c and h
		{"c\u0301h", "\x12\x18\x01\x04\x01\x01"},
		{"ch\u0301", "\x13\x01\x04\x01"},
		{"ch\u0301\u0327a", "\x13\x10\x01\x02\x04\x01\x01"},
		{"\u00e9", "\x15\x01\x04\x01"},
		{"e\u0301", "\x15\x01\x04\x01"},
		{"\u00e8", "\x15\x01\x03\x01"},
		{"\u00cb", "\x15\x01\x05\x01"},
		{"e\u0308\u0301\u0300\u0327", "\x15\x01\x02\x05\x04\x03\x01"}, // of one class: as they stood
		{"\u00e9a\u00c7", "\x15\x10\x12\x01\x04\x01\x01\x02\x01"},
		{"a\u0301\u0301", "\x10\x01\x04\x04\x01"},
		{".\u0308", "\x04\x01\x05\x01"},
	} {
		if got := Of(c.in); got != c.want {
			t.Errorf("Of(%+q) = %q, want %q", c.in, got, c.want)
		}
	}
}

func TestD1WeightsRiseInOrder(t *testing.T) {
	order := strings.Split(" ,-,.,_,0,1,2,3,4,5,6,7,8,9,a,b,c,ch,d,e,f,g,h,i,j,k,l,m,n,o,p,q,r,s,t,u,v,w,x,y,z,\u03c3", ",")
	for i, s := range order {
		if got, want := Of(s), string([]byte{byte(2 + i), 1, 1}); got != want {
			t.Errorf("Of(%q) = %q, want %q", s, got, want)
		}
	}
}

func TestD1Compare(t *testing.T) {
	rising := []string{
		" ", "-", "9", "a", "a\u0327", "\u00e0", "\u00e1", "a\u0301\u0301", "\u00e4", "aa", "\u00e0a", "ab", "\u00e1b", "b",
		"c", "\u00e7", "c\u0301h", "ci", "cz", "ch", "ch\u0301", "cha", "chz", "d", "z", "\u03a3",
	}
	for i, a := range rising {
		for j, b := range rising {
			got := Compare(a, b)
			if (got < 0) != (i < j) || (got == 0) != (i == j) || (got > 0) != (i > j) {
				t.Errorf("Compare(%+q, %+q) = %d; they stand at %d and %d", a, b, got, i, j)
			}
		}
	}
}

func TestD1CompareExamples(t *testing.T) {
	for _, c := range []struct {
		a, b string
		want int
	}{
		{"ch", "cz", 1}, {"\u00e9", "e", 1}, {"\u00e9a", "eb", -1}, {"\u00c7A", "\u00e7a", 0},
		{"Cz", "cZAR", -1}, {"czar", "Chapel", -1}, {"Chapel", "day", -1},
	} {
		if got := Compare(c.a, c.b); sgn(got) != c.want {
			t.Errorf("Compare(%+q, %+q) = %d, want %d", c.a, c.b, got, c.want)
		}
		if got := Compare(c.b, c.a); sgn(got) != -c.want {
			t.Errorf("Compare(%+q, %+q) = %d, want %d", c.b, c.a, got, -c.want)
		}
	}
}

func sgn(n int) int {
	switch {
	case n < 0:
		return -1
	case n > 0:
		return 1
	}
	return 0
}

// drawn: names that may be, the same each time, many of them alike to others.
func drawn(many int) []string {
	pieces := []string{"a", "A", "c", "C", "h", "H", "e", "\u00e9", "\u00c9", "\u00e7", "\u00c7", "\u0300", "\u0301", "\u0308", "\u0327", "\u00e0", "\u03c3", "\u03c2", " ", "."}
	d := rand.New(rand.NewSource(4))
	var l []string
	for len(l) < many {
		s := ""
		for range 1 + d.Intn(4) {
			s += pieces[d.Intn(len(pieces))]
		}
		if name.Check(s) == nil {
			l = append(l, s)
		}
	}
	return l
}

// TestW1 holds each name against each: keys are the same just if names are alike.
func TestW1(t *testing.T) {
	names := drawn(1500)
	alike := 0
	for i, a := range names {
		for _, b := range names[:i] {
			yes := plain.Alike(a, b)
			if yes && a != b {
				alike++
			}
			if (Of(a) == Of(b)) != yes || (Compare(a, b) == 0) != yes {
				t.Fatalf("%+q and %+q: alike %v, keys %q and %q", a, b, yes, Of(a), Of(b))
			}
		}
	}
	if alike < 1000 {
		t.Errorf("only %d pairs were alike: they tell too little", alike)
	}
}

func TestD1CompareIsThatOfKeys(t *testing.T) {
	names := drawn(300)
	for _, a := range names {
		for _, b := range names {
			if got, want := sgn(Compare(a, b)), strings.Compare(Of(a), Of(b)); got != want {
				t.Fatalf("Compare(%+q, %+q) = %d, want %d", a, b, got, want)
			}
		}
	}
}

// TestZ1NamesThatMayNotBe: nothing is said of their keys, but they are told, and the same each time.
func TestZ1NamesThatMayNotBe(t *testing.T) {
	for _, s := range []string{"", ".", "..", "\u0301", "\u0301a", "\xff", "\xff\u0301", "/", "a/b", "\ufffd", "\x00\x01", "\u00f1", strings.Repeat("ch\u0301", 100000)} {
		if Of(s) != Of(s) || Compare(s, s) != 0 {
			t.Errorf("the key of %+.20q is another one each time", s)
		}
	}
}
