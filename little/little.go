// Package little: numbers as bytes, the lowest first.
package little

// Bytes of a number, so many of them; what has no room in these is left out.
func Bytes(n uint32, many int) string {
	b := make([]byte, many)
	for i := range b {
		b[i] = byte(n)
		n >>= 8
	}
	return string(b)
}

// Number that bytes tell, of at most four of them.
func Number(s string) uint32 {
	n := uint32(0)
	for i := len(s) - 1; i >= 0; i-- {
		n = n<<8 | uint32(s[i])
	}
	return n
}
