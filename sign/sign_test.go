package sign

import (
	"math"
	"slices"
	"strings"
	"testing"
	"unicode"
)

// bases of A1, spelt out.
const bases = "abcdefghijklmnopqrstuvwxyzABCDEFGHIJKLMNOPQRSTUVWXYZ0123456789 -._\u03c3\u03c2\u03a3"

func classes() map[rune]int {
	return map[rune]int{0x300: 230, 0x301: 230, 0x308: 230, 0x327: 202}
}

// made: whole signs as A2 lists them.
func made(t *testing.T) map[rune][]rune {
	l := map[rune][]rune{}
	for _, c := range []struct {
		letters string
		mark    rune
		signs   []rune
	}{
		{"AEIOUaeiou", 0x300, []rune{0xC0, 0xC8, 0xCC, 0xD2, 0xD9, 0xE0, 0xE8, 0xEC, 0xF2, 0xF9}},
		{"AEIOUYaeiouy", 0x301, []rune{0xC1, 0xC9, 0xCD, 0xD3, 0xDA, 0xDD, 0xE1, 0xE9, 0xED, 0xF3, 0xFA, 0xFD}},
		{"AEIOUaeiou", 0x308, []rune{0xC4, 0xCB, 0xCF, 0xD6, 0xDC, 0xE4, 0xEB, 0xEF, 0xF6, 0xFC}},
		{"Cc", 0x327, []rune{0xC7, 0xE7}},
	} {
		for i, r := range c.signs {
			l[r] = []rune{rune(c.letters[i]), c.mark}
		}
	}
	if len(l) != 34 {
		t.Fatalf("%d whole signs are told, 34 are to be", len(l))
	}
	return l
}

// each rune that is a sign anywhere, some that are none, and numbers that no rune has.
func each(see func(r rune)) {
	for r := rune(-300); r <= unicode.MaxRune+300; r++ {
		see(r)
	}
	for _, r := range []rune{math.MinInt32, math.MinInt32 + 1, math.MaxInt32 - 1, math.MaxInt32} {
		see(r)
	}
}

func TestA1Class(t *testing.T) {
	want := classes()
	each(func(r rune) {
		if got := Class(r); got != want[r] {
			t.Errorf("Class(%U) = %d, want %d", r, got, want[r])
		}
	})
}

func TestA1Base(t *testing.T) {
	want := map[rune]bool{}
	for _, r := range bases {
		want[r] = true
	}
	each(func(r rune) {
		if got := Base(r); got != want[r] {
			t.Errorf("Base(%U) = %v", r, got)
		}
	})
}

func TestA2Split(t *testing.T) {
	whole := made(t)
	each(func(r rune) {
		want := whole[r]
		if want == nil {
			want = []rune{r}
		}
		if got := Split(r); !slices.Equal(got, want) {
			t.Errorf("Split(%U) = %U, want %U", r, got, want)
		}
	})
}

func TestA2Is(t *testing.T) {
	whole, marks := made(t), classes()
	each(func(r rune) {
		want := whole[r] != nil || marks[r] != 0 || r >= 0 && r <= unicode.MaxRune && r != unicode.ReplacementChar && strings.ContainsRune(bases, r)
		if got := Is(r); got != want {
			t.Errorf("Is(%U) = %v", r, got)
		}
	})
}

func TestA3Fold(t *testing.T) {
	want := map[rune]rune{0x3C2: 0x3C3, 0x3A3: 0x3C3}
	for i, r := range "ABCDEFGHIJKLMNOPQRSTUVWXYZ" {
		want[r] = rune("abcdefghijklmnopqrstuvwxyz"[i])
	}
	each(func(r rune) {
		w, ok := want[r]
		if !ok {
			w = r
		}
		if got := Fold(r); got != w {
			t.Errorf("Fold(%U) = %U, want %U", r, got, w)
		}
	})
}

func TestZ2SplitIsFresh(t *testing.T) {
	for _, r := range []rune{0xE9, 'a', 0x301, 0xFFFD} {
		first, want := Split(r), Split(r)
		for i := range first {
			first[i] = 'x'
		}
		_ = append(first[:0], 'y', 'z', 'w')
		if got := Split(r); !slices.Equal(got, want) {
			t.Errorf("Split(%U) = %U behind a write into its answer, want %U", r, got, want)
		}
	}
}
