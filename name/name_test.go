package name

import (
	"slices"
	"strings"
	"testing"

	"jobcase/api"
)

func repeat(s string, n int) string { return strings.Repeat(s, n) }

// same holds errors bare against each other: a wrapped one is another one.
func same(got error, want api.Errno) bool {
	if want == api.OK {
		return got == nil
	}
	return got == error(want)
}

func TestC1Check(t *testing.T) {
	for _, c := range []struct {
		what, in string
		want     api.Errno
	}{
		{"a letter", "a", api.OK},
		{"all kinds of signs", "aZ 9-._\u03c3", api.OK},
		{"all sigmas", "\u03c3\u03c2\u03a3", api.OK},
		{"blank alone", " ", api.OK},
		{"three dots", "...", api.OK},
		{"dots and more", "..a", api.OK},
		{"dot with a mark", ".\u0301", api.OK},
		{"whole sign first", "\u00e9a", api.OK},
		{"a letter with marks", "e\u0301\u0327\u0308\u0300", api.OK},
		{"12 signs", repeat("a", 12), api.OK},
		{"6 whole signs", repeat("\u00e9", 6), api.OK},
		{"12 signs, 23 bytes", "a" + repeat("\u0301", 11), api.OK},
		{"12 signs, 24 bytes", repeat("\u03c3", 12), api.OK},

		{"no bytes", "", api.ErrBound},
		{"25 bytes", repeat("\u03c3", 12) + "a", api.ErrBound},
		{"25 bytes, not UTF-8", repeat("\xff", 25), api.ErrBound},
		{"25 bytes, no signs", repeat("/", 25), api.ErrBound},

		{"a byte that is no UTF-8", "\xff", api.ErrText},
		{"half a sign", "a\xc3", api.ErrText},
		{"a surrogate", "\xed\xa0\x80", api.ErrText},
		{"24 bytes, not UTF-8", repeat("\xff", 24), api.ErrText},
		{"not UTF-8, behind a sign that isn't there", "/\xff", api.ErrText},
		{"not UTF-8, behind a mark", "\u0301\xff", api.ErrText},

		{"slash", "/", api.ErrShape},
		{"slash inside", "a/b", api.ErrShape},
		{"bar", "a|b", api.ErrShape},
		{"a nought byte", "a\x00", api.ErrShape},
		{"U+FFFD, written well", "\ufffd", api.ErrShape},
		{"a letter of another kind", "\u00f1", api.ErrShape},
		{"a mark of another kind", "a\u0302", api.ErrShape},
		{"alpha", "\u03b1", api.ErrShape},
		{"mark first", "\u0301a", api.ErrShape},
		{"mark alone", "\u0327", api.ErrShape},
		{"13 signs, mark first", repeat("\u0301", 12), api.ErrShape},
		{"mark first, whole signs behind", "\u0301" + repeat("\u00e9", 11), api.ErrShape},
		{"24 signs, one of them isn't there", repeat("a", 23) + "/", api.ErrShape},
		{"dot", ".", api.ErrShape},
		{"two dots", "..", api.ErrShape},

		{"13 signs", repeat("a", 13), api.ErrMany},
		{"24 signs", repeat("a", 24), api.ErrMany},
		{"7 whole signs", repeat("\u00e9", 7), api.ErrMany},
		{"13 signs, split up", repeat("\u00e9", 6) + "a", api.ErrMany},
		{"12 whole signs, 24 bytes", repeat("\u00e9", 12), api.ErrMany},
		{"13 dots", repeat(".", 13), api.ErrMany},
	} {
		if got := Check(c.in); !same(got, c.want) {
			t.Errorf("%s: Check(%+q) = %v, want %v", c.what, c.in, got, c.want)
		}
	}
}

func TestC2Parts(t *testing.T) {
	for _, c := range []struct {
		in   string
		want []string
	}{
		{"/", nil},
		{"/a", []string{"a"}},
		{"/a/B/\u00e9", []string{"a", "B", "\u00e9"}},
		{"/E\u0301", []string{"E\u0301"}}, // as it is written
		{"/.", []string{"."}},
		{"/..", []string{".."}},
		{"/../a/./..", []string{"..", "a", ".", ".."}},
		{"/.../..a", []string{"...", "..a"}},
		{"/1/2/3/4/5/6", []string{"1", "2", "3", "4", "5", "6"}},
		{"/./../././../.", []string{".", "..", ".", ".", "..", "."}},
		{repeat("/"+repeat("\u03c3", 12), 3) + "/aaaa", []string{repeat("\u03c3", 12), repeat("\u03c3", 12), repeat("\u03c3", 12), "aaaa"}}, // 80 bytes
	} {
		got, err := Parts(c.in)
		if err != nil || !slices.Equal(got, c.want) {
			t.Errorf("Parts(%q) = %q, %v, want %q", c.in, got, err, c.want)
		}
	}
}

func TestC2PartsWrong(t *testing.T) {
	for _, c := range []struct {
		what, in string
		want     api.Errno
	}{
		{"81 bytes", repeat("/"+repeat("\u03c3", 12), 3) + "/aaaaa", api.ErrMany},
		{"81 bytes without a slash", repeat("a", 81), api.ErrMany},
		{"81 slashes", repeat("/", 81), api.ErrMany},
		{"nothing", "", api.ErrShape},
		{"no slash", "a", api.ErrShape},
		{"slash behind", "a/", api.ErrShape},
		{"blank first", " /a", api.ErrShape},
		{"dot", ".", api.ErrShape},
		{"80 bytes without a slash", repeat("a", 80), api.ErrShape},
		{"seven parts", "/a/a/a/a/a/a/a", api.ErrMany},
		{"seven parts, the first one wrong", "/\xff/a/a/a/a/a/a", api.ErrMany},
		{"seven empty parts", "///////", api.ErrMany},
		{"seven dots", "/./././././././.", api.ErrMany},
		{"six parts and a slash", "/a/a/a/a/a/a/", api.ErrMany},
		{"a slash at the end", "/a/", api.ErrBound},
		{"two slashes", "//", api.ErrBound},
		{"nothing first", "//a", api.ErrBound},
		{"nothing between", "/a//b", api.ErrBound},
		{"nothing behind a dot", "/./", api.ErrBound},
		{"a part of 25 bytes", "/" + repeat("\u03c3", 12) + "a", api.ErrBound},
		{"no UTF-8", "/x\xff", api.ErrText},
		{"a sign that isn't there", "/a*", api.ErrShape},
		{"mark first", "/a/\u0301", api.ErrShape},
		{"a part of 13 signs", "/" + repeat("a", 13), api.ErrMany},
		{"the first one's error", "/a/\xff//*", api.ErrText},
		{"the first one's error, the other way round", "/a/*//\xff", api.ErrShape},
		{"wrong behind dots", "/../\xff", api.ErrText},
	} {
		got, err := Parts(c.in)
		if len(got) != 0 || !same(err, c.want) {
			t.Errorf("%s: Parts(%q) = %q, %v, want %v", c.what, c.in, got, err, c.want)
		}
	}
}

func TestZ2PartsAreFresh(t *testing.T) {
	first, _ := Parts("/a/b")
	first[0] = "x"
	_ = append(first, "y")
	if got, err := Parts("/a/b"); err != nil || !slices.Equal(got, []string{"a", "b"}) {
		t.Errorf("Parts = %q, %v behind a write into its answer", got, err)
	}
}

// TestZ1ShortTexts: no two bytes, as a name or in a path, may bring it to a panic, nor to a list beside an error.
func TestZ1ShortTexts(t *testing.T) {
	for a := range 256 {
		for b := range 256 {
			s := string([]byte{byte(a), byte(b)})
			one := Check(s)
			l, err := Parts("/" + s)
			if err != nil && len(l) > 0 {
				t.Fatalf("Parts(%q) = %q, %v", "/"+s, l, err)
			}
			if one == nil && (err != nil || len(l) != 1 || l[0] != s) {
				t.Fatalf("Parts(%q) = %q, %v, though the name may be", "/"+s, l, err)
			}
		}
	}
}

func TestLimits(t *testing.T) {
	for _, c := range []struct {
		what      string
		got, want int
	}{
		{"MaxName", api.MaxName, 24}, {"MaxSigns", api.MaxSigns, 12},
		{"MaxPath", api.MaxPath, 80}, {"MaxParts", api.MaxParts, 6},
		{"MaxText", api.MaxText, 20}, {"MaxNodes", api.MaxNodes, 16}, {"MaxNode", api.MaxNode, 999},
		{"MaxKey", api.MaxKey, 48}, {"MaxVal", api.MaxVal, 44}, {"MaxChanges", api.MaxChanges, 12}, {"MaxRows", api.MaxRows, 64},
		{"Sector", api.Sector, 140}, {"Sectors", api.Sectors, 130},
		{"MaxLines", api.MaxLines, 80}, {"MaxLine", api.MaxLine, 80},
	} {
		if c.got != c.want {
			t.Errorf("%s is %d, want %d", c.what, c.got, c.want)
		}
	}
}
