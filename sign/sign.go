// Package sign: signs, marks, and what they are made of.
package sign

// The marks.
const (
	Grave   = '\u0300'
	Acute   = '\u0301'
	TwoDots = '\u0308'
	Tail    = '\u0327'
)

// Sigma is what its capital and its final form are folded to.
const Sigma = '\u03c3'

const (
	finalSigma   = '\u03c2'
	capitalSigma = '\u03a3'
)

// Classes of marks: where they stand to a letter.
const (
	classAbove = 230
	classBelow = 202
)

type whole struct {
	sign, letter, mark rune
}

var wholes = [...]whole{
	{0xC0, 'A', Grave}, {0xC8, 'E', Grave}, {0xCC, 'I', Grave}, {0xD2, 'O', Grave}, {0xD9, 'U', Grave},
	{0xE0, 'a', Grave}, {0xE8, 'e', Grave}, {0xEC, 'i', Grave}, {0xF2, 'o', Grave}, {0xF9, 'u', Grave},
	{0xC1, 'A', Acute}, {0xC9, 'E', Acute}, {0xCD, 'I', Acute}, {0xD3, 'O', Acute}, {0xDA, 'U', Acute}, {0xDD, 'Y', Acute},
	{0xE1, 'a', Acute}, {0xE9, 'e', Acute}, {0xED, 'i', Acute}, {0xF3, 'o', Acute}, {0xFA, 'u', Acute}, {0xFD, 'y', Acute},
	{0xC4, 'A', TwoDots}, {0xCB, 'E', TwoDots}, {0xCF, 'I', TwoDots}, {0xD6, 'O', TwoDots}, {0xDC, 'U', TwoDots},
	{0xE4, 'a', TwoDots}, {0xEB, 'e', TwoDots}, {0xEF, 'i', TwoDots}, {0xF6, 'o', TwoDots}, {0xFC, 'u', TwoDots},
	{0xC7, 'C', Tail}, {0xE7, 'c', Tail},
}

// Class of a mark, that tells where it stands among others; 0: it is none.
func Class(r rune) int {
	switch r {
	case Grave, Acute, TwoDots:
		return classAbove
	case Tail:
		return classBelow
	}
	return 0
}

// Split a sign: a letter and its mark, or itself.
func Split(r rune) []rune {
	if w, ok := wholeOf(r); ok {
		return []rune{w.letter, w.mark}
	}
	return []rune{r}
}

func wholeOf(r rune) (whole, bool) {
	for _, w := range wholes {
		if w.sign == r {
			return w, true
		}
	}
	return whole{}, false
}

// Base: is it a sign that may stand alone, and isn't made of others?
func Base(r rune) bool {
	switch r {
	case ' ', '-', '.', '_', Sigma, finalSigma, capitalSigma:
		return true
	}
	return within(r, 'a', 'z') || within(r, 'A', 'Z') || within(r, '0', '9')
}

func within(r, first, last rune) bool {
	return first <= r && r <= last
}

// Is: is there such a sign?
func Is(r rune) bool {
	_, made := wholeOf(r)
	return made || Base(r) || Class(r) != 0
}

// Fold a base: to the one that it is alike to.
func Fold(r rune) rune {
	switch {
	case within(r, 'A', 'Z'):
		return r - 'A' + 'a'
	case r == finalSigma || r == capitalSigma:
		return Sigma
	}
	return r
}
