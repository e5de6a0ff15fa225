package key_test

import (
	"cmp"
	"math"
	"strings"
	"testing"

	"conductor/api"
	"conductor/key"
)

// edges are numbers at which a digit changes, and their neighbours.
func edges() []uint64 {
	l := []uint64{0, 255, 1 << 40, 0x0123456789abcdef, 0xfedcba9876543210, math.MaxInt64, math.MaxUint64}
	for i := range 64 {
		n := uint64(1) << i
		l = append(l, n-1, n, n+1, 10*n, 15*n)
	}
	return l
}

// P3.3
func TestNumber(t *testing.T) {
	for _, x := range []struct {
		n uint64
		s string
	}{
		{0, "0000000000000000"},
		{9, "0000000000000009"},
		{10, "000000000000000a"},
		{15, "000000000000000f"},
		{16, "0000000000000010"},
		{255, "00000000000000ff"},
		{1 << 40, "0000010000000000"},
		{0x0123456789abcdef, "0123456789abcdef"},
		{0xfedcba9876543210, "fedcba9876543210"},
		{1 << 63, "8000000000000000"},
		{math.MaxInt64, "7fffffffffffffff"},
		{math.MaxUint64, "ffffffffffffffff"},
	} {
		if s := key.Number(x.n); s != x.s {
			t.Errorf("Number(%d) = %q, want %q", x.n, s, x.s)
		}
		if n, err := key.Digits(x.s); n != x.n || err != api.OK {
			t.Errorf("Digits(%q) = %d, %d, want %d", x.s, n, err, x.n)
		}
	}
}

// P3.5
func TestNumbersThereAndBack(t *testing.T) {
	for _, n := range edges() {
		if got, err := key.Digits(key.Number(n)); got != n || err != api.OK {
			t.Errorf("of %d there comes %d, %d", n, got, err)
		}
	}
}

// isNoNumber tells unless s is refused, without a number.
func isNoNumber(t *testing.T, s string) {
	t.Helper()
	if n, err := key.Digits(s); n != 0 || err != api.ErrKey {
		t.Errorf("Digits(%q) = %d, %d, want ErrKey", s, n, err)
	}
}

// P3.3
func TestDigitsRefuses(t *testing.T) {
	for _, s := range []string{"", "0", "ff", "0x00000000000000", "-000000000000001", "+000000000000001", " 000000000000001", "000000000000001 ", "000000000000000A", "FFFFFFFFFFFFFFFF", "000000000000000g", "0000_0000_0000_0", "00000000000000ä", "０００００"} {
		isNoNumber(t, s)
	}
	for long := range 40 {
		if long != 16 {
			isNoNumber(t, strings.Repeat("0", long))
			isNoNumber(t, strings.Repeat("f", long))
		}
	}
}

// P3.3: each byte at each place.
func TestDigitsByteByByte(t *testing.T) {
	for place := range 16 {
		for c := range 256 {
			s := []byte(key.Number(0x0123456789abcdef))
			s[place] = byte(c)
			if !strings.Contains("0123456789abcdef", string(s[place:place+1])) {
				isNoNumber(t, string(s))
			} else if n, err := key.Digits(string(s)); err != api.OK || key.Number(n) != string(s) {
				t.Errorf("Digits(%q) = %d, %d", s, n, err)
			}
		}
	}
}

// P3.6
func TestNumbersStandInOrder(t *testing.T) {
	for _, a := range edges() {
		for _, b := range edges() {
			if got, want := cmp.Compare(key.Number(a), key.Number(b)), cmp.Compare(a, b); got != want {
				t.Errorf("Number of %d and of %d stand as %d, want %d", a, b, got, want)
			}
			hasOrder(t, []string{key.Number(a), "b"}, []string{key.Number(b), "a"})
			if got := cmp.Compare(key.Make('z', key.Number(a)), key.Make('z', key.Number(b))); got != cmp.Compare(a, b) {
				t.Errorf("the keys of %d and of %d stand as %d", a, b, got)
			}
		}
	}
}
