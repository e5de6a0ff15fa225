package expr_test

import (
	"slices"
	"testing"

	"conductor/api"
	"conductor/expr"
)

// isLaid tells unless terms that are right have the text that has no bracket too many, and none too few.
func isLaid(t *testing.T, e []api.Term) {
	t.Helper()
	if s := laid(e); len(s) > 128 {
		isNotPrinted(t, e, api.ErrLong)
	} else {
		isPrinted(t, e, s)
	}
}

// P5.3
func TestPrint(t *testing.T) {
	for s, e := range map[string][]api.Term{
		"0":             list(num(0)),
		"true":          list(is(true)),
		"false":         list(is(false)),
		`"a\"\0a"`:      list(txt("a\"\n")),
		"a-b":           list(of("a-b")),
		"has(a)":        list(got("a")),
		"len(a)":        list(of("a"), do(api.OpLen)),
		"len(a || b)":   list(of("a"), of("b"), do(api.OpOr), do(api.OpLen)),
		"len(len(1))":   list(num(1), do(api.OpLen), do(api.OpLen)),
		"-1":            list(num(1), do(api.OpNeg)),
		"--1":           list(num(1), do(api.OpNeg), do(api.OpNeg)),
		"!-a":           list(of("a"), do(api.OpNeg), do(api.OpNot)),
		"!has(a)":       list(got("a"), do(api.OpNot)),
		"-len(a)":       list(of("a"), do(api.OpLen), do(api.OpNeg)),
		"-(a * b)":      list(of("a"), of("b"), do(api.OpMul), do(api.OpNeg)),
		"-a * b":        list(of("a"), do(api.OpNeg), of("b"), do(api.OpMul)),
		"a - -b":        list(of("a"), of("b"), do(api.OpNeg), do(api.OpSub)),
		"!(a == b)":     list(of("a"), of("b"), do(api.OpEq), do(api.OpNot)),
		"a + 2 * b":     list(of("a"), num(2), of("b"), do(api.OpMul), do(api.OpAdd)),
		"(a + 2) * b":   list(of("a"), num(2), do(api.OpAdd), of("b"), do(api.OpMul)),
		"a - b - c":     list(of("a"), of("b"), do(api.OpSub), of("c"), do(api.OpSub)),
		"a - (b - c)":   list(of("a"), of("b"), of("c"), do(api.OpSub), do(api.OpSub)),
		"a + (b + c)":   list(of("a"), of("b"), of("c"), do(api.OpAdd), do(api.OpAdd)),
		"a * (b / c)":   list(of("a"), of("b"), of("c"), do(api.OpDiv), do(api.OpMul)),
		"a / b % c":     list(of("a"), of("b"), do(api.OpDiv), of("c"), do(api.OpMod)),
		"(a < b) < c":   list(of("a"), of("b"), do(api.OpLt), of("c"), do(api.OpLt)),
		"a <= (b >= c)": list(of("a"), of("b"), of("c"), do(api.OpGe), do(api.OpLe)),
		"(a == b) != c": list(of("a"), of("b"), do(api.OpEq), of("c"), do(api.OpNe)),
		"a > b && c":    list(of("a"), of("b"), do(api.OpGt), of("c"), do(api.OpAnd)),
		"a > (b && c)":  list(of("a"), of("b"), of("c"), do(api.OpAnd), do(api.OpGt)),
		"a && (b && c)": list(of("a"), of("b"), of("c"), do(api.OpAnd), do(api.OpAnd)),
		"a || b && c":   list(of("a"), of("b"), of("c"), do(api.OpAnd), do(api.OpOr)),
		"(a || b) && c": list(of("a"), of("b"), do(api.OpOr), of("c"), do(api.OpAnd)),
		"a || b || c":   list(of("a"), of("b"), do(api.OpOr), of("c"), do(api.OpOr)),
		"a || (b || c)": list(of("a"), of("b"), of("c"), do(api.OpOr), do(api.OpOr)),
	} {
		isPrinted(t, e, s)
		if again := laid(e); again != s {
			t.Errorf("the model says %s of %v", again, e)
		}
	}
}

// P5.3: each two signs.
func TestPrintSigns(t *testing.T) {
	for x := api.OpNeg; x <= api.OpOr; x++ {
		for y := api.OpNeg; y <= api.OpOr; y++ {
			e := list(of("a"))
			if x >= api.OpMul {
				e = append(e, of("b"))
			}
			e = append(e, do(x))
			if y < api.OpMul {
				isLaid(t, append(e, do(y)))
				continue
			}
			isLaid(t, append(slices.Clone(e), of("c"), do(y)))
			isLaid(t, append(append(list(of("c")), e...), do(y)))
		}
	}
}

// P5.3: Check's errors are told by isChecked; here how long a text may be.
func TestPrintLong(t *testing.T) {
	isPrinted(t, list(txt(times(42, "\xff"))), `"`+times(42, `\ff`)+`"`) // of 128 bytes
	isNotPrinted(t, list(txt(times(42, "\xff")+"a")), api.ErrLong)
	isNotPrinted(t, list(txt(times(64, "\xff"))), api.ErrLong)
	sixteen := of(times(16, "a"))
	e := list(sixteen, sixteen, do(api.OpAdd), sixteen, do(api.OpAdd), sixteen, do(api.OpAdd), sixteen, do(api.OpAdd), sixteen, do(api.OpAdd), of(times(14, "b")), do(api.OpAdd))
	isPrinted(t, e, times(6, times(16, "a")+" + ")+times(14, "b")) // of 128 bytes, too
	e[len(e)-2].Name += "b"
	isNotPrinted(t, e, api.ErrLong)
	e[len(e)-2].Name = "B"
	isNotPrinted(t, e, api.ErrName)
	if err := expr.Check(list(txt(times(64, "\xff")), txt(times(64, "\xff")), do(api.OpEq))); err != api.OK {
		t.Errorf("what is too long to be printed has the error %d", err)
	}
}
