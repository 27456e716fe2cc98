// Package key: keys by which names stand in order.
package key

import (
	"strings"

	"jobcase/plain"
	"jobcase/sign"
)

// together stands for 'c' and 'h' as one element: a folded text has no capital letters, so it is free for that.
const together = 'C'

// inOrder are the elements as their weights rise; only the last one has more than one byte, so that where one stands tells its weight.
const inOrder = " -._0123456789abc" + string(together) + "defghijklmnopqrstuvwxyz" + string(sign.Sigma)

const (
	end         = 1 // below all weights: what ends stands ahead of what goes on
	firstWeight = 2
)

// Of a name that may be: the weights of its elements, then of each the weights of its marks; what ends is 1.
// (Of other names too there is some key: signs without a weight are passed over.)
func Of(s string) string {
	var elements, marks []byte
	for _, r := range strings.ReplaceAll(plain.Fold(s), "ch", string(together)) {
		if w := elementWeight(r); w != 0 {
			if len(elements) > 0 {
				marks = append(marks, end)
			}
			elements = append(elements, w)
		} else if w := markWeight(r); w != 0 {
			marks = append(marks, w)
		}
	}
	if len(elements) > 0 {
		marks = append(marks, end)
	}
	key := append(elements, end)
	return string(append(key, marks...))
}

// elementWeight is 0 of what is no element.
func elementWeight(r rune) byte {
	at := strings.IndexRune(inOrder, r)
	if at < 0 {
		return 0
	}
	return byte(firstWeight + at)
}

// markWeight is 0 of what is no mark.
func markWeight(r rune) byte {
	switch r {
	case sign.Tail:
		return firstWeight
	case sign.Grave:
		return firstWeight + 1
	case sign.Acute:
		return firstWeight + 2
	case sign.TwoDots:
		return firstWeight + 3
	}
	return 0
}

// Compare two names.
func Compare(a, b string) int {
	return strings.Compare(Of(a), Of(b))
}
