package value_test

import (
	"math"
	"strings"

	"conductor/api"
	"conductor/value"
)

// numbers are those at which something changes, and their neighbours.
func numbers() []int64 {
	l := []int64{0, 1, -1, 2, -2, 9, 10, -9, -10, 99, 100, 12345, math.MaxInt64, math.MaxInt64 - 1, math.MinInt64, math.MinInt64 + 1}
	for i := range 63 {
		n := int64(1) << i
		l = append(l, n, n-1, n+1, -n, 1-n, -1-n)
	}
	for n := int64(10); n <= math.MaxInt64/10; n *= 10 {
		l = append(l, n-1, n, -n, 1-n)
	}
	return l
}

// texts are right ones: of each byte, of each length.
func texts() []string {
	l := []string{"", "a", `"`, `\`, `""`, `\"`, `"\`, `\\`, "\\n", "\\0a", "\n", "a b", "true", "12", "ä", "\xff\xfe", "\x00\x00"}
	for c := range 256 {
		l = append(l, string([]byte{byte(c)}), "a"+string([]byte{byte(c)})+"f", strings.Repeat(string([]byte{byte(c)}), api.MaxText))
	}
	for long := range api.MaxText + 1 {
		l = append(l, strings.Repeat("k", long))
	}
	return l
}

// rightValues are many, of each kind.
func rightValues() []api.Value {
	l := []api.Value{value.Bool(false), value.Bool(true)}
	for _, n := range numbers() {
		l = append(l, value.Int(n))
	}
	for _, s := range texts() {
		l = append(l, value.Text(s))
	}
	return l
}

// anyValues are all of these kinds, numbers and texts, right or not.
func anyValues() []api.Value {
	var l []api.Value
	for _, kind := range []int{math.MinInt32, -255, -1, 0, 1, 2, 3, 4, 5, 255, 256, 257, 258, 259, math.MaxInt32} {
		for _, n := range []int64{math.MinInt64, -1, 0, 1, 2, 256, math.MaxInt64} {
			for _, s := range []string{"", "\x00", "a", "ab", "\xff", strings.Repeat("a", api.MaxText), strings.Repeat("a", api.MaxText+1)} {
				l = append(l, api.Value{Kind: kind, N: n, S: s})
			}
		}
	}
	return l
}

// wrong is what the chapter says of Right, in another way.
func wrong(v api.Value) api.Errno {
	if v.Kind < 1 || v.Kind > 3 {
		return api.ErrKind
	}
	if v.Kind == 3 && len(v.S) > 64 {
		return api.ErrLong
	}
	if v.Kind == 1 && v.S != "" || v.Kind == 2 && (v.S != "" || v.N < 0 || v.N > 1) || v.Kind == 3 && v.N != 0 {
		return api.ErrArg
	}
	return api.OK
}

// textsOf gives all texts of at most that many of these pieces, the shortest ones first.
func textsOf(long int, pieces []string) []string {
	all := []string{""}
	ahead := all
	for range long {
		var next []string
		for _, s := range ahead {
			for _, p := range pieces {
				next = append(next, s+p)
			}
		}
		all = append(all, next...)
		ahead = next
	}
	return all
}

// listsOf gives all lists of at most that many variables of these names; the values are all others.
func listsOf(long int, names string) [][]api.Var {
	all := [][]api.Var{nil}
	ahead := all
	for n := range long {
		var next [][]api.Var
		for _, l := range ahead {
			for i := range len(names) {
				next = append(next, append(l[:n:n], api.Var{Name: names[i : i+1], V: value.Int(int64(10*n + i))}))
			}
		}
		all = append(all, next...)
		ahead = next
	}
	return all
}
