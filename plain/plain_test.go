package plain

import (
	"math/rand"
	"strings"
	"testing"
)

func TestB1Split(t *testing.T) {
	for _, c := range []struct{ in, want string }{
		{"", ""},
		{"abc XYZ-._09", "abc XYZ-._09"},
		{"\u00e9", "e\u0301"},
		{"e\u0301", "e\u0301"},
		{"\u00c7\u00e0", "C\u0327a\u0300"},
		{"\u00ff\u00f1\u00c5", "\u00ff\u00f1\u00c5"}, // made of a letter and a mark elsewhere, not here
		{"\u03a3\u03c2", "\u03a3\u03c2"},
		{"e\u0301\u0327", "e\u0327\u0301"},
		{"\u00e9\u0327", "e\u0327\u0301"},
		{"\u00e7\u0301", "c\u0327\u0301"},
		{"a\u0308\u0300\u0301", "a\u0308\u0300\u0301"},
		{"a\u0301\u0300\u0308", "a\u0301\u0300\u0308"},
		{"a\u0301\u0327\u0300\u0327\u0308", "a\u0327\u0327\u0301\u0300\u0308"},
		{"\u00e4\u0301\u0327", "a\u0327\u0308\u0301"},
		{"a\u0301b\u0327", "a\u0301b\u0327"},
		{"\u00e9\u00e7", "e\u0301c\u0327"}, // marks with a letter between don't stand together
		{"\u0301\u0327a", "\u0327\u0301a"},
		{"\u0301\u0327", "\u0327\u0301"},
		{"a\u0301\n\u0327", "a\u0301\n\u0327"},
		{"a\u0301\u0302\u0327", "a\u0301\u0302\u0327"}, // U+0302 is no mark here
		{"\xff", "\ufffd"},
		{"\xff\xfe", "\ufffd\ufffd"},
		{"\xc3", "\ufffd"},
		{"\xc3\u00e9", "\ufffde\u0301"},
		{"a\xe2\x82b", "a\ufffd\ufffdb"},
		{"\xed\xa0\x80", "\ufffd\ufffd\ufffd"},
		{"\xf4\x90\x80\x80", "\ufffd\ufffd\ufffd\ufffd"},
		{"\xc0\x80", "\ufffd\ufffd"},
		{"\ufffd", "\ufffd"},
		{"a\u0301\xff\u0327", "a\u0301\ufffd\u0327"},
		{"\x00\U0010ffff", "\x00\U0010ffff"},
	} {
		if got := Split(c.in); got != c.want {
			t.Errorf("Split(%q) = %+q, want %+q", c.in, got, c.want)
		}
	}
}

func TestB2Fold(t *testing.T) {
	for _, c := range []struct{ in, want string }{
		{"", ""},
		{"AbZ", "abz"},
		{"\u00c9", "e\u0301"},
		{"\u00c7\u0301", "c\u0327\u0301"},
		{"E\u0301\u0327", "e\u0327\u0301"},
		{"\u03a3\u03c2\u03c3", "\u03c3\u03c3\u03c3"},
		{"\u0391\u0416\u00d1", "\u0391\u0416\u00d1"}, // capital elsewhere, not here
		{"\xffA", "\ufffda"},
		{"@[`{", "@[`{"},
	} {
		if got := Fold(c.in); got != c.want {
			t.Errorf("Fold(%q) = %+q, want %+q", c.in, got, c.want)
		}
	}
}

func TestB2Alike(t *testing.T) {
	for _, c := range []struct {
		a, b string
		want bool
	}{
		{"", "", true},
		{"", "a", false},
		{"a", "A", true},
		{"a", "b", false},
		{"\u00c9", "e\u0301", true},
		{"\u00e9", "e", false},
		{"\u00e9", "\u00e8", false},
		{"e\u0301\u0327", "E\u0327\u0301", true},
		{"a\u0301\u0308", "a\u0308\u0301", false},
		{"\u00e4\u0301", "A\u0308\u0301", true},
		{"\u00e1\u0308", "\u00e4\u0301", false},
		{"\u03a3", "\u03c2", true},
		{"a ", "a", false},
		{"\xff", "\xfe", true}, // both are the sign U+FFFD
		{"\xff", "\ufffd", true},
		{"\u00d1", "\u00f1", false},
	} {
		if got := Alike(c.a, c.b); got != c.want {
			t.Errorf("Alike(%+q, %+q) = %v", c.a, c.b, got)
		}
		if got := Alike(c.b, c.a); got != c.want {
			t.Errorf("Alike(%+q, %+q) = %v", c.b, c.a, got)
		}
	}
}

// text of pieces, drawn the same each time.
func text(d *rand.Rand) string {
	pieces := []string{"a", "E", "c", "h", "\u00e9", "\u00c7", "\u00fc", "\u0300", "\u0301", "\u0308", "\u0327", "\u03a3", "\u03c2", "\xff", "\xc3", "/", "\u00ff"}
	var s strings.Builder
	for range d.Intn(8) {
		s.WriteString(pieces[d.Intn(len(pieces))])
	}
	return s.String()
}

// slow: B1 word by word, with neighbours swapped till none stands wrong.
func slow(s string) string {
	class := map[rune]int{0x300: 230, 0x301: 230, 0x308: 230, 0x327: 202}
	whole := strings.NewReplacer("\u00e9", "e\u0301", "\u00c7", "C\u0327", "\u00fc", "u\u0308")
	l := []rune(whole.Replace(string([]rune(s))))
	for swapped := true; swapped; {
		swapped = false
		for i := 1; i < len(l); i++ {
			if a, b := class[l[i-1]], class[l[i]]; b != 0 && a > b {
				l[i-1], l[i], swapped = l[i], l[i-1], true
			}
		}
	}
	return string(l)
}

func TestB1B2OfManyTexts(t *testing.T) {
	d := rand.New(rand.NewSource(1))
	for range 20000 {
		s := text(d)
		split, fold := Split(s), Fold(s)
		if want := slow(s); split != want {
			t.Fatalf("Split(%+q) = %+q, want %+q", s, split, want)
		}
		if Split(split) != split || Fold(fold) != fold || Fold(split) != fold || !Alike(s, split) || !Alike(s, fold) {
			t.Fatalf("%+q: split or folded again it is another one", s)
		}
	}
}

func TestZ1LongRunsOfMarks(t *testing.T) {
	n := 100000
	got := Split(strings.Repeat("\u0301\u0327", n))
	if want := strings.Repeat("\u0327", n) + strings.Repeat("\u0301", n); got != want {
		t.Errorf("%d marks aren't in order", 2*n)
	}
}
