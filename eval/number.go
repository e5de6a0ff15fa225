package eval

import (
	"math"

	"conductor/api"
	"conductor/value"
)

// number gives n as a value, if it fits in 64 bits.
func number(n int64, fits bool) (api.Value, api.Errno) {
	if !fits {
		return api.Value{}, api.ErrOver
	}
	return value.Int(n), api.OK
}

// The following tell a number, wrapped round, and whether it fits.

// plus fits, if it grows just by what is above 0.
func plus(a, b int64) (int64, bool) {
	sum := a + b
	return sum, (sum > a) == (b > 0)
}

// minus fits, if it sinks just by what is above 0.
func minus(a, b int64) (int64, bool) {
	rest := a - b
	return rest, (rest < a) == (b > 0)
}

// product fits, if it can be divided again; a division that wraps round itself can't tell.
func product(a, b int64) (int64, bool) {
	if a == 0 || b == 0 {
		return 0, true
	}
	all := a * b
	back, fits := quotient(all, b)
	return all, fits && back == a
}

// quotient, of a divisor that is not 0, fits but in one place: the least number has no opposite.
func quotient(a, b int64) (int64, bool) {
	return a / b, a != math.MinInt64 || b != -1
}
