// Package name: names of entries, and paths.
package name

import (
	"strings"
	"unicode/utf8"

	"jobcase/api"
	"jobcase/plain"
	"jobcase/sign"
)

// Check a name.
func Check(s string) error {
	switch {
	case len(s) == 0 || len(s) > api.MaxName:
		return api.ErrBound
	case !utf8.ValidString(s):
		return api.ErrText
	case !onlySigns(s) || beginsWithMark(s) || dots(s):
		return api.ErrShape
	case utf8.RuneCountInString(plain.Split(s)) > api.MaxSigns:
		return api.ErrMany
	}
	return nil
}

func onlySigns(s string) bool {
	for _, r := range s {
		if !sign.Is(r) {
			return false
		}
	}
	return true
}

func beginsWithMark(s string) bool {
	first, _ := utf8.DecodeRuneInString(s)
	return sign.Class(first) != 0
}

// dots: is it a step of a path that no entry is named by?
func dots(s string) bool {
	return s == "." || s == ".."
}

// Parts of a path: what stands between '/', from the root on.
func Parts(s string) ([]string, error) {
	switch {
	case len(s) > api.MaxPath:
		return nil, api.ErrMany
	case !strings.HasPrefix(s, "/"):
		return nil, api.ErrShape
	case s == "/":
		return nil, nil
	}
	parts := strings.Split(s[1:], "/")
	if len(parts) > api.MaxParts {
		return nil, api.ErrMany
	}
	for _, part := range parts {
		if dots(part) {
			continue
		}
		if err := Check(part); err != nil {
			return nil, err
		}
	}
	return parts, nil
}
