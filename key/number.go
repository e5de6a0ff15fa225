package key

import (
	"strings"

	"conductor/api"
)

const (
	hex    = "0123456789abcdef"
	places = 16 // as many digits for each number, so that their texts stand in the order of the numbers
)

// Number writes n in hexadecimal digits, the highest first.
func Number(n uint64) string {
	written := make([]byte, places)
	for i := range places {
		written[places-1-i] = hex[n%16]
		n /= 16
	}
	return string(written)
}

// Digits gives the number that Number wrote.
func Digits(s string) (uint64, api.Errno) {
	if len(s) != places {
		return 0, api.ErrKey
	}
	n := uint64(0)
	for i := range places {
		digit := strings.IndexByte(hex, s[i])
		if digit < 0 {
			return 0, api.ErrKey
		}
		n = 16*n + uint64(digit)
	}
	return n, api.OK
}
