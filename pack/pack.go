// Package pack is layer 1: numbers and texts as bytes, written and read.
package pack

const (
	more      = 128 // what each byte of a number has added, but for the last one
	lastPlace = 9   // a tenth byte has just the highest one of 64 bits, and none may follow
)

// Join lays the parts one behind the other.
func Join(parts ...[]byte) []byte {
	size := 0
	for _, p := range parts {
		size += len(p)
	}
	joined := make([]byte, 0, size)
	for _, p := range parts {
		joined = append(joined, p...)
	}
	return joined
}

// Uint writes seven bits of n in a byte, the lowest ones first, in as few bytes as it needs.
func Uint(n uint64) []byte {
	var written []byte
	for n >= more {
		written = append(written, byte(n%more)+more)
		n /= more
	}
	return append(written, byte(n))
}

// Int writes numbers on both sides of 0 by turns, so that those near 0 are short.
func Int(n int64) []byte {
	if n < 0 {
		return Uint(2*uint64(-1-n) + 1)
	}
	return Uint(2 * uint64(n))
}

// Text writes how many bytes s has, and these.
func Text(s string) []byte {
	return Join(Uint(uint64(len(s))), []byte(s))
}
