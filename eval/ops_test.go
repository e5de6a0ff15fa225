package eval_test

import (
	"math"
	"testing"

	"conductor/api"
	"conductor/eval"
)

// comesTo tells unless an Op makes that of one value, or of two.
func comesTo(t *testing.T, op int, l []api.Value, want api.Value, code api.Errno) {
	t.Helper()
	for range 2 { // R5
		var v api.Value
		var err api.Errno
		if len(l) == 1 {
			v, err = eval.One(op, l[0])
		} else {
			v, err = eval.Two(op, l[0], l[1])
		}
		if v != want || err != code {
			t.Errorf("the Op %d makes %v, %d of %v; want %v, %d", op, v, err, l, want, code)
		}
	}
}

// row is what an Op makes of values.
type row struct {
	op   int
	l    []api.Value
	want api.Value
	err  api.Errno
}

func vals(l ...api.Value) []api.Value { return l }

// P6.1
func TestOne(t *testing.T) {
	for _, x := range []row{
		{api.OpNeg, vals(num(0)), num(0), api.OK},
		{api.OpNeg, vals(num(5)), num(-5), api.OK},
		{api.OpNeg, vals(num(-5)), num(5), api.OK},
		{api.OpNeg, vals(num(math.MaxInt64)), num(-math.MaxInt64), api.OK},
		{api.OpNeg, vals(num(-math.MaxInt64)), num(math.MaxInt64), api.OK},
		{api.OpNeg, vals(num(math.MinInt64)), api.Value{}, api.ErrOver},
		{api.OpNeg, vals(yes), api.Value{}, api.ErrKind},
		{api.OpNeg, vals(txt("1")), api.Value{}, api.ErrKind},
		{api.OpNeg, vals(api.Value{N: math.MinInt64}), api.Value{}, api.ErrKind},
		{api.OpNot, vals(yes), no, api.OK},
		{api.OpNot, vals(no), yes, api.OK},
		{api.OpNot, vals(num(0)), api.Value{}, api.ErrKind},
		{api.OpNot, vals(txt("true")), api.Value{}, api.ErrKind},
		{api.OpNot, vals(api.Value{}), api.Value{}, api.ErrKind},
		{api.OpLen, vals(txt("")), num(0), api.OK},
		{api.OpLen, vals(txt("ab")), num(2), api.OK},
		{api.OpLen, vals(txt("ä\x00")), num(3), api.OK},
		{api.OpLen, vals(txt(times(64, "\xff"))), num(64), api.OK},
		{api.OpLen, vals(num(1)), api.Value{}, api.ErrKind},
		{api.OpLen, vals(yes), api.Value{}, api.ErrKind},
		{api.OpLen, vals(api.Value{S: "a"}), api.Value{}, api.ErrKind},
		// no Op of one value, whatever the value
		{api.OpVal, vals(num(1)), api.Value{}, api.ErrArg},
		{api.OpHas, vals(num(1)), api.Value{}, api.ErrArg},
		{api.OpMul, vals(num(1)), api.Value{}, api.ErrArg},
		{api.OpSub, vals(num(1)), api.Value{}, api.ErrArg},
		{-1, vals(api.Value{}), api.Value{}, api.ErrArg},
		{19, vals(txt("a")), api.Value{}, api.ErrArg},
		// just Kind, N and S, as far as the kind has them
		{api.OpNot, vals(api.Value{Kind: api.VkBool, N: 2}), no, api.OK},
		{api.OpNot, vals(api.Value{Kind: api.VkBool, N: -1}), no, api.OK},
		{api.OpNot, vals(api.Value{Kind: api.VkBool, S: "a"}), yes, api.OK},
		{api.OpNeg, vals(api.Value{Kind: api.VkInt, N: 1, S: "a"}), num(-1), api.OK},
		{api.OpLen, vals(api.Value{Kind: api.VkText, N: 1, S: "ab"}), num(2), api.OK},
		{api.OpLen, vals(txt(times(1000, "a"))), num(1000), api.OK},
	} {
		comesTo(t, x.op, x.l, x.want, x.err)
		if again, err := one(x.op, x.l[0]); again != x.want || err != x.err {
			t.Errorf("the model says %v, %d of %v", again, err, x)
		}
	}
}

// P6.1: all Ops of all values.
func TestOneOfAny(t *testing.T) {
	for _, op := range anyOps() {
		for _, a := range anyValues() {
			want, err := one(op, a)
			comesTo(t, op, vals(a), want, err)
			endAtFirst(t)
		}
	}
}

// P6.2: truths, and what holds of any two values.
func TestTwoOfTruths(t *testing.T) {
	two, less := api.Value{Kind: api.VkBool, N: 2}, api.Value{Kind: api.VkBool, N: -1}
	isEach(t, []row{
		{api.OpAnd, vals(yes, yes), yes, api.OK},
		{api.OpAnd, vals(yes, no), no, api.OK},
		{api.OpAnd, vals(no, yes), no, api.OK},
		{api.OpAnd, vals(no, no), no, api.OK},
		{api.OpOr, vals(yes, yes), yes, api.OK},
		{api.OpOr, vals(yes, no), yes, api.OK},
		{api.OpOr, vals(no, yes), yes, api.OK},
		{api.OpOr, vals(no, no), no, api.OK},
		{api.OpAnd, vals(two, less), yes, api.OK},
		{api.OpOr, vals(less, no), yes, api.OK},
		// both are looked at
		{api.OpAnd, vals(no, num(1)), api.Value{}, api.ErrKind},
		{api.OpAnd, vals(num(1), no), api.Value{}, api.ErrKind},
		{api.OpOr, vals(yes, txt("")), api.Value{}, api.ErrKind},
		{api.OpOr, vals(api.Value{}, yes), api.Value{}, api.ErrKind},
		{api.OpAnd, vals(num(1), num(1)), api.Value{}, api.ErrKind},
		{api.OpOr, vals(txt("a"), txt("a")), api.Value{}, api.ErrKind},
		// the same, or not
		{api.OpEq, vals(num(1), num(1)), yes, api.OK},
		{api.OpEq, vals(num(1), num(2)), no, api.OK},
		{api.OpNe, vals(num(1), num(1)), no, api.OK},
		{api.OpNe, vals(num(1), num(2)), yes, api.OK},
		{api.OpEq, vals(num(1), yes), no, api.OK},
		{api.OpNe, vals(num(1), yes), yes, api.OK},
		{api.OpEq, vals(txt("1"), num(1)), no, api.OK},
		{api.OpEq, vals(txt("a"), txt("a")), yes, api.OK},
		{api.OpEq, vals(txt("a"), txt("A")), no, api.OK},
		{api.OpEq, vals(no, no), yes, api.OK},
		{api.OpNe, vals(no, yes), yes, api.OK},
		{api.OpEq, vals(api.Value{}, api.Value{}), yes, api.OK},
		{api.OpNe, vals(api.Value{Kind: 4}, api.Value{Kind: 5}), yes, api.OK},
		{api.OpEq, vals(yes, two), no, api.OK},
		{api.OpEq, vals(two, two), yes, api.OK},
		{api.OpEq, vals(api.Value{Kind: api.VkInt, S: "a"}, num(0)), no, api.OK},
	})
}

// P6.2: how two stand.
func TestTwoInOrder(t *testing.T) {
	odd := func(kind int, n int64, s string) api.Value { return api.Value{Kind: kind, N: n, S: s} }
	isEach(t, []row{
		{api.OpLt, vals(num(1), num(2)), yes, api.OK},
		{api.OpLt, vals(num(2), num(2)), no, api.OK},
		{api.OpLt, vals(num(2), num(1)), no, api.OK},
		{api.OpLe, vals(num(1), num(2)), yes, api.OK},
		{api.OpLe, vals(num(2), num(2)), yes, api.OK},
		{api.OpLe, vals(num(2), num(1)), no, api.OK},
		{api.OpGt, vals(num(1), num(2)), no, api.OK},
		{api.OpGt, vals(num(2), num(2)), no, api.OK},
		{api.OpGt, vals(num(2), num(1)), yes, api.OK},
		{api.OpGe, vals(num(1), num(2)), no, api.OK},
		{api.OpGe, vals(num(2), num(2)), yes, api.OK},
		{api.OpGe, vals(num(2), num(1)), yes, api.OK},
		{api.OpLt, vals(num(math.MinInt64), num(math.MaxInt64)), yes, api.OK},
		{api.OpGt, vals(num(math.MinInt64), num(math.MaxInt64)), no, api.OK},
		{api.OpLt, vals(num(-1), num(0)), yes, api.OK},
		{api.OpLt, vals(txt("10"), txt("9")), yes, api.OK},
		{api.OpLt, vals(txt("a"), txt("B")), no, api.OK},
		{api.OpLt, vals(txt(""), txt("\x00")), yes, api.OK},
		{api.OpLe, vals(txt("ab"), txt("ab")), yes, api.OK},
		{api.OpGt, vals(txt("ab"), txt("a")), yes, api.OK},
		{api.OpGe, vals(txt("\xff"), txt("ä")), yes, api.OK},
		{api.OpLt, vals(num(1), txt("a")), api.Value{}, api.ErrKind},
		{api.OpLe, vals(txt("a"), num(1)), api.Value{}, api.ErrKind},
		{api.OpGt, vals(yes, no), api.Value{}, api.ErrKind},
		{api.OpGe, vals(yes, yes), api.Value{}, api.ErrKind},
		{api.OpGe, vals(api.Value{}, api.Value{}), api.Value{}, api.ErrKind},
		// a number by N alone, a text by S alone
		{api.OpLt, vals(odd(api.VkInt, 1, "b"), odd(api.VkInt, 1, "c")), no, api.OK},
		{api.OpGt, vals(odd(api.VkText, 2, "a"), odd(api.VkText, 1, "a")), no, api.OK},
	})
}

// P6.2: two numbers, and two texts.
func TestTwoReckoned(t *testing.T) {
	const least, most = math.MinInt64, math.MaxInt64
	isEach(t, []row{
		{api.OpAdd, vals(num(2), num(3)), num(5), api.OK},
		{api.OpAdd, vals(num(most), num(0)), num(most), api.OK},
		{api.OpAdd, vals(num(most-1), num(1)), num(most), api.OK},
		{api.OpAdd, vals(num(most), num(1)), api.Value{}, api.ErrOver},
		{api.OpAdd, vals(num(most), num(most)), api.Value{}, api.ErrOver},
		{api.OpAdd, vals(num(least), num(0)), num(least), api.OK},
		{api.OpAdd, vals(num(least), num(-1)), api.Value{}, api.ErrOver},
		{api.OpAdd, vals(num(least), num(least)), api.Value{}, api.ErrOver},
		{api.OpAdd, vals(num(least), num(most)), num(-1), api.OK},
		{api.OpSub, vals(num(2), num(3)), num(-1), api.OK},
		{api.OpSub, vals(num(0), num(most)), num(-most), api.OK},
		{api.OpSub, vals(num(0), num(least)), api.Value{}, api.ErrOver},
		{api.OpSub, vals(num(-1), num(least)), num(most), api.OK},
		{api.OpSub, vals(num(least), num(1)), api.Value{}, api.ErrOver},
		{api.OpSub, vals(num(least), num(least)), num(0), api.OK},
		{api.OpSub, vals(num(most), num(-1)), api.Value{}, api.ErrOver},
		{api.OpMul, vals(num(-2), num(3)), num(-6), api.OK},
		{api.OpMul, vals(num(least), num(0)), num(0), api.OK},
		{api.OpMul, vals(num(0), num(least)), num(0), api.OK},
		{api.OpMul, vals(num(least), num(1)), num(least), api.OK},
		{api.OpMul, vals(num(least), num(-1)), api.Value{}, api.ErrOver},
		{api.OpMul, vals(num(-1), num(least)), api.Value{}, api.ErrOver},
		{api.OpMul, vals(num(most), num(-1)), num(-most), api.OK},
		{api.OpMul, vals(num(1<<32), num(1<<31)), api.Value{}, api.ErrOver},
		{api.OpMul, vals(num(1<<32), num(-1<<31)), num(least), api.OK},
		{api.OpMul, vals(num(1<<32), num(1<<32)), api.Value{}, api.ErrOver},
		{api.OpMul, vals(num(3037000499), num(3037000499)), num(9223372030926249001), api.OK},
		{api.OpMul, vals(num(3037000500), num(3037000500)), api.Value{}, api.ErrOver},
		{api.OpDiv, vals(num(7), num(2)), num(3), api.OK},
		{api.OpDiv, vals(num(-7), num(2)), num(-3), api.OK},
		{api.OpDiv, vals(num(7), num(-2)), num(-3), api.OK},
		{api.OpDiv, vals(num(-7), num(-2)), num(3), api.OK},
		{api.OpDiv, vals(num(0), num(-2)), num(0), api.OK},
		{api.OpDiv, vals(num(least), num(1)), num(least), api.OK},
		{api.OpDiv, vals(num(least), num(-1)), api.Value{}, api.ErrOver},
		{api.OpDiv, vals(num(least+1), num(-1)), num(most), api.OK},
		{api.OpDiv, vals(num(1), num(0)), api.Value{}, api.ErrZero},
		{api.OpDiv, vals(num(0), num(0)), api.Value{}, api.ErrZero},
		{api.OpMod, vals(num(7), num(4)), num(3), api.OK},
		{api.OpMod, vals(num(-7), num(4)), num(-3), api.OK},
		{api.OpMod, vals(num(7), num(-4)), num(3), api.OK},
		{api.OpMod, vals(num(-7), num(-4)), num(-3), api.OK},
		{api.OpMod, vals(num(8), num(4)), num(0), api.OK},
		{api.OpMod, vals(num(least), num(-1)), num(0), api.OK},
		{api.OpMod, vals(num(least), num(0)), api.Value{}, api.ErrZero},
		{api.OpAdd, vals(txt("ab"), txt("c")), txt("abc"), api.OK},
		{api.OpAdd, vals(txt("c"), txt("ab")), txt("cab"), api.OK},
		{api.OpAdd, vals(txt(""), txt("")), txt(""), api.OK},
		{api.OpAdd, vals(txt(times(32, "a")), txt(times(32, "b"))), txt(times(32, "a") + times(32, "b")), api.OK},
		{api.OpAdd, vals(txt(times(33, "a")), txt(times(32, "b"))), api.Value{}, api.ErrLong},
		{api.OpAdd, vals(txt(times(64, "a")), txt("b")), api.Value{}, api.ErrLong},
		{api.OpAdd, vals(txt(times(65, "a")), txt("")), api.Value{}, api.ErrLong},
		{api.OpAdd, vals(txt("1"), num(1)), api.Value{}, api.ErrKind},
		{api.OpAdd, vals(num(1), txt("1")), api.Value{}, api.ErrKind},
		{api.OpAdd, vals(yes, yes), api.Value{}, api.ErrKind},
		{api.OpSub, vals(txt("a"), txt("a")), api.Value{}, api.ErrKind},
		{api.OpMul, vals(txt("a"), num(2)), api.Value{}, api.ErrKind},
		{api.OpMul, vals(yes, num(1)), api.Value{}, api.ErrKind},
		// the kind is told ahead of the 0
		{api.OpDiv, vals(txt("a"), num(0)), api.Value{}, api.ErrKind},
		{api.OpMod, vals(num(1), no), api.Value{}, api.ErrKind},
		{api.OpDiv, vals(api.Value{}, api.Value{}), api.Value{}, api.ErrKind},
		// what the kind does not have is not there in what comes out
		{api.OpAdd, vals(api.Value{Kind: api.VkInt, N: 1, S: "a"}, num(1)), num(2), api.OK},
		{api.OpAdd, vals(api.Value{Kind: api.VkText, N: 1, S: "a"}, txt("b")), txt("ab"), api.OK},
		// no Op of two values, whatever the values
		{api.OpVal, vals(num(1), num(1)), api.Value{}, api.ErrArg},
		{api.OpNeg, vals(num(1), num(1)), api.Value{}, api.ErrArg},
		{api.OpLen, vals(txt("a"), num(1)), api.Value{}, api.ErrArg},
		{-1, vals(num(1), num(0)), api.Value{}, api.ErrArg},
		{19, vals(num(1), yes), api.Value{}, api.ErrArg},
	})
}

// isEach tells unless the package, and the model, have each row.
func isEach(t *testing.T, rows []row) {
	t.Helper()
	for _, x := range rows {
		comesTo(t, x.op, x.l, x.want, x.err)
		if again, err := two(x.op, x.l[0], x.l[1]); again != x.want || err != x.err {
			t.Errorf("the model says %v, %d of %v", again, err, x)
		}
	}
}

// P6.2: all Ops of each two values.
func TestTwoOfAny(t *testing.T) {
	for _, op := range anyOps() {
		for _, a := range anyValues() {
			for _, b := range anyValues() {
				want, err := two(op, a, b)
				comesTo(t, op, vals(a, b), want, err)
				endAtFirst(t)
			}
		}
	}
}
