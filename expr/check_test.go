package expr_test

import (
	"math"
	"math/rand"
	"slices"
	"testing"

	"conductor/api"
)

// P5.2
func TestCheck(t *testing.T) {
	for _, x := range []struct {
		e   []api.Term
		err api.Errno
	}{
		{list(num(0)), api.OK},
		{list(num(math.MaxInt64)), api.OK},
		{list(is(true)), api.OK},
		{list(txt(times(64, "\xff"))), api.OK},
		{list(of("a")), api.OK},
		{list(of(times(16, "a"))), api.OK},
		{list(got("a-")), api.OK},
		{list(of("hasnot")), api.OK},
		{list(num(1), do(api.OpNeg)), api.OK},
		{list(num(1), do(api.OpNot)), api.OK},
		{list(num(1), do(api.OpLen)), api.OK},
		{list(num(1), is(true), do(api.OpOr)), api.OK},
		{list(of("a"), of("b"), of("c"), do(api.OpSub), do(api.OpSub)), api.OK},
		// no Op
		{list(do(-1)), api.ErrArg},
		{list(do(19)), api.ErrArg},
		{list(do(math.MinInt32)), api.ErrArg},
		{list(do(256)), api.ErrArg},
		{list(num(1), do(19)), api.ErrArg},
		// a field that the Op does not have
		{list(api.Term{Op: api.OpVal, V: num(1).V, Name: "a"}), api.ErrArg},
		{list(api.Term{Op: api.OpVal, Name: "a"}), api.ErrArg},
		{list(api.Term{Op: api.OpVar, Name: "a", V: num(0).V}), api.ErrArg},
		{list(api.Term{Op: api.OpVar, Name: "a", V: api.Value{N: 1}}), api.ErrArg},
		{list(api.Term{Op: api.OpHas, Name: "a", V: api.Value{S: "a"}}), api.ErrArg},
		{list(num(1), api.Term{Op: api.OpNeg, Name: "a"}), api.ErrArg},
		{list(num(1), api.Term{Op: api.OpLen, V: num(0).V}), api.ErrArg},
		{list(num(1), num(1), api.Term{Op: api.OpAdd, Name: "a"}), api.ErrArg},
		{list(num(1), num(1), api.Term{Op: api.OpOr, V: api.Value{S: "a"}}), api.ErrArg},
		// value.Right's error
		{list(do(api.OpVal)), api.ErrKind},
		{list(api.Term{V: api.Value{Kind: 4}}), api.ErrKind},
		{list(api.Term{V: api.Value{Kind: 4, N: -1}}), api.ErrKind},
		{list(txt(times(65, "a"))), api.ErrLong},
		{list(api.Term{V: api.Value{Kind: api.VkBool, N: 2}}), api.ErrArg},
		{list(api.Term{V: api.Value{Kind: api.VkBool, N: -1}}), api.ErrArg},
		{list(api.Term{V: api.Value{Kind: api.VkInt, S: "a"}}), api.ErrArg},
		// a number below 0
		{list(num(-1)), api.ErrArg},
		{list(num(math.MinInt64)), api.ErrArg},
		// no name
		{list(do(api.OpVar)), api.ErrName},
		{list(do(api.OpHas)), api.ErrName},
		{list(of("A")), api.ErrName},
		{list(of("1a")), api.ErrName},
		{list(of("a b")), api.ErrName},
		{list(of(times(17, "a"))), api.ErrName},
		{list(of("true")), api.ErrName},
		{list(of("false")), api.ErrName},
		{list(of("has")), api.ErrName},
		{list(of("len")), api.ErrName},
		{list(got("true")), api.ErrName},
		{list(got("false")), api.ErrName},
		{list(got("has")), api.ErrName},
		{list(got("len")), api.ErrName},
		{list(got("a_")), api.ErrName},
		// fewer values than are taken
		{list(do(api.OpNeg)), api.ErrShort},
		{list(do(api.OpLen)), api.ErrShort},
		{list(do(api.OpAdd)), api.ErrShort},
		{list(num(1), do(api.OpAdd)), api.ErrShort},
		{list(num(1), num(2), do(api.OpAdd), do(api.OpAdd)), api.ErrShort},
		{list(num(1), do(api.OpNot), do(api.OpEq), num(1), num(2)), api.ErrShort},
		// none at the end, or more than one
		{nil, api.ErrShort},
		{list(), api.ErrShort},
		{list(num(1), num(2)), api.ErrForm},
		{list(num(1), num(2), do(api.OpNeg)), api.ErrForm},
		{list(num(1), num(2), num(3), do(api.OpAdd)), api.ErrForm},
		// term by term, and of one term what is named first
		{list(do(api.OpNeg), do(19)), api.ErrShort},
		{list(do(19), do(api.OpNeg)), api.ErrArg},
		{list(num(-1), of("A")), api.ErrArg},
		{list(of("A"), num(-1)), api.ErrName},
		{list(num(1), num(2), num(-1)), api.ErrArg},
		{list(num(1), num(2), txt(times(65, "a"))), api.ErrLong},
		{list(api.Term{Op: api.OpVal, V: txt(times(65, "a")).V, Name: "a"}), api.ErrArg},
		{list(api.Term{Op: api.OpVar, V: num(1).V}), api.ErrArg},
		{list(api.Term{Op: api.OpAdd, Name: "a"}), api.ErrArg},
	} {
		isChecked(t, x.e, x.err)
		if again := wrong(x.e); again != x.err {
			t.Errorf("the model says %d of %v", again, x.e)
		}
	}
}

// P5.2: how many terms there may be.
func TestCheckLong(t *testing.T) {
	e := list(num(1))
	for range 19 {
		e = append(e, num(1), do(api.OpAdd))
	}
	isChecked(t, append(slices.Clone(e), do(api.OpNeg)), api.OK)
	isChecked(t, append(slices.Clone(e), do(api.OpNeg), do(api.OpNeg)), api.ErrLong)
	isChecked(t, slices.Repeat(list(num(1)), 40), api.ErrForm)
	isChecked(t, slices.Repeat(list(num(1)), 41), api.ErrLong)
	isChecked(t, slices.Repeat(list(do(-1)), 41), api.ErrLong)
	isChecked(t, slices.Repeat(list(do(-1)), 40), api.ErrArg)
	isChecked(t, make([]api.Term, 1<<16), api.ErrLong)
}

// goesSoDeep tells unless terms that are right otherwise are right just if they go no deeper than may be.
func goesSoDeep(t *testing.T, e []api.Term, deep int) {
	t.Helper()
	if deep > 12 {
		isChecked(t, e, api.ErrDeep)
		return
	}
	isChecked(t, e, api.OK)
	isLaid(t, e)
}

// P5.2: how many brackets and signs of one may be open at once.
func TestCheckDeep(t *testing.T) {
	deeper := func(n int, e []api.Term, ops ...int) []api.Term {
		e = slices.Clone(e)
		for range n {
			for _, op := range ops {
				if op >= api.OpMul {
					e = append(e, of("x"))
				}
				e = append(e, do(op))
			}
		}
		return e
	}
	a := list(of("a"))
	sum := list(of("a"), of("b"), do(api.OpAdd))
	for _, x := range []struct {
		e    []api.Term
		deep int
	}{
		{deeper(12, a, api.OpNeg), 12},
		{deeper(13, a, api.OpNeg), 13},
		{deeper(39, a, api.OpNot), 39},
		{deeper(12, a, api.OpLen), 12},
		{deeper(13, a, api.OpLen), 13},
		{deeper(6, a, api.OpLen, api.OpNeg), 12},
		{deeper(11, list(got("a")), api.OpNeg), 12},
		{deeper(12, list(got("a")), api.OpNeg), 13},
		{deeper(11, list(got("a")), api.OpLen), 12},
		{deeper(12, list(got("a")), api.OpLen), 13},
		// what stands in brackets within a sign of one
		{deeper(11, sum, api.OpNeg), 12},
		{deeper(12, sum, api.OpNeg), 13},
		{deeper(12, sum, api.OpLen), 12},
		{deeper(13, sum, api.OpLen), 13},
		// what stands in brackets within signs of two: (((a + x) * x + x) * x ..
		{deeper(9, a, api.OpAdd, api.OpMul), 9},
		{deeper(9, a, api.OpMul, api.OpAdd), 8},
		{deeper(12, a, api.OpEq), 11},
		{deeper(13, a, api.OpEq), 12},
		{deeper(14, a, api.OpEq), 13},
		{deeper(19, a, api.OpSub), 0},
		{deeper(19, a, api.OpAnd), 0},
		{deeper(19, a, api.OpEq), 18},
		{deeper(12, deeper(3, a, api.OpEq), api.OpNeg), 15},
	} {
		goesSoDeep(t, x.e, x.deep)
		if _, deep, _ := parsed(laid(x.e), 1000); deep != x.deep {
			t.Errorf("%s goes %d deep, not %d", laid(x.e), deep, x.deep)
		}
	}
	// to the right: a - (a - (a - ..
	for n := 1; n < 20; n++ {
		e := append(slices.Repeat(a, n+1), slices.Repeat(list(do(api.OpSub)), n)...)
		goesSoDeep(t, e, n-1)
	}
	// that there is one at the end is told ahead of it
	isChecked(t, append(deeper(13, a, api.OpNeg), num(1)), api.ErrForm)
	isChecked(t, append(deeper(13, a, api.OpNeg), do(api.OpAdd)), api.ErrShort)
}

// anyTerms are some that are right by themselves, and some that are not.
func anyTerms() []api.Term {
	return list(num(1), is(false), txt("a"), of("a"), got("b"), do(api.OpNeg), do(api.OpLen), do(api.OpMul), do(api.OpSub), do(api.OpLt), do(api.OpOr),
		num(-1), do(api.OpVal), of("has"), do(19), api.Term{Op: api.OpNot, Name: "a"})
}

// P5.2: all short lists of these terms.
func TestCheckOfAny(t *testing.T) {
	all := anyTerms()
	right := 0
	var lists func(e []api.Term, long int)
	lists = func(e []api.Term, long int) {
		code := wrong(e)
		isChecked(t, e, code)
		if code == api.OK {
			right++
		}
		if long > 0 {
			for _, x := range all {
				lists(append(e[:len(e):len(e)], x), long-1)
			}
		}
	}
	lists(nil, 4)
	if right < 100 {
		t.Errorf("%d are right", right)
	}
}

// P5.2: long lists that are right, or have too much of something.
func TestCheckOfMany(t *testing.T) {
	r := rand.New(rand.NewSource(6))
	var right, deep int
	for range 3000 {
		e := tree(r, 1+r.Intn(42))
		if r.Intn(2) == 0 {
			e = tower(r, 1+r.Intn(30))
		}
		code := wrong(e)
		isChecked(t, e, code)
		switch code {
		case api.OK:
			right++
		case api.ErrDeep:
			deep++
		}
		at := r.Intn(len(e))
		e[at] = anyTerms()[r.Intn(16)]
		isChecked(t, e, wrong(e))
	}
	if right < 500 || deep < 500 {
		t.Errorf("%d are right, %d too deep", right, deep)
	}
}
