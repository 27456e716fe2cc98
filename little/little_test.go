package little

import "testing"

func TestBytesAndNumber(t *testing.T) {
	for _, x := range []struct {
		n    uint32
		many int
		want string
	}{
		{0, 0, ""},
		{0, 1, "\x00"},
		{255, 1, "\xff"},
		{0x0102, 2, "\x02\x01"},
		{0x01020304, 4, "\x04\x03\x02\x01"},
		{1<<32 - 1, 4, "\xff\xff\xff\xff"},
	} {
		if got := Bytes(x.n, x.many); got != x.want {
			t.Errorf("Bytes(%d, %d): %q", x.n, x.many, got)
		}
		if got := Number(x.want); got != x.n {
			t.Errorf("Number(%q): %d", x.want, got)
		}
	}
	if got := Bytes(0x010203, 2); got != "\x03\x02" {
		t.Errorf("a number that has no room: %q", got)
	}
}
