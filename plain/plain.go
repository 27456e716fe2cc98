// Package plain: texts, split up, and alike.
package plain

import (
	"slices"
	"strings"

	"jobcase/sign"
)

// Split a text: its signs split up, marks that stand together in the order of their classes.
func Split(s string) string {
	var out strings.Builder
	var marks []rune
	for _, r := range s {
		for _, part := range sign.Split(r) {
			if sign.Class(part) != 0 {
				marks = append(marks, part)
				continue
			}
			writeMarks(&out, marks)
			marks = marks[:0]
			out.WriteRune(part)
		}
	}
	writeMarks(&out, marks)
	return out.String()
}

// writeMarks sorts stably: which of two marks of one class stood first is part of the text.
func writeMarks(out *strings.Builder, marks []rune) {
	slices.SortStableFunc(marks, func(a, b rune) int {
		return sign.Class(a) - sign.Class(b)
	})
	for _, m := range marks {
		out.WriteRune(m)
	}
}

// Fold a text: split up, with all bases folded.
func Fold(s string) string {
	return strings.Map(sign.Fold, Split(s))
}

// Alike: are two?
func Alike(a, b string) bool {
	return Fold(a) == Fold(b)
}
