package eval_test

import (
	"errors"
	"math"
	"math/rand"
	"slices"
	"strings"
	"testing"

	"conductor/api"
	"conductor/eval"
	"conductor/expr"
	"conductor/fault"
	"conductor/value"
)

// getter is what asks for a variable.
type getter = func(string) (api.Value, bool, error)

// Short forms of values and terms.
func num(n int64) api.Value    { return value.Int(n) }
func txt(s string) api.Value   { return value.Text(s) }
func val(v api.Value) api.Term { return api.Term{Op: api.OpVal, V: v} }
func of(name string) api.Term  { return api.Term{Op: api.OpVar, Name: name} }
func got(name string) api.Term {
	return api.Term{Op: api.OpHas, Name: name}
}
func do(op int) api.Term { return api.Term{Op: op} }

var (
	yes = value.Bool(true)
	no  = value.Bool(false)
)

// list puts terms together.
func list(e ...api.Term) []api.Term { return e }

// times gives s so often.
func times(n int, s string) string { return strings.Repeat(s, n) }

// terms gives those of a text, which must be one.
func terms(t *testing.T, s string) []api.Term {
	t.Helper()
	e, err := expr.Parse(s)
	if err != nil {
		t.Fatal(s, fault.Text(err))
	}
	return e
}

// numbers are those at the edges of what a number may be, and those whose sums and products come to these edges.
func numbers() []int64 {
	l := []int64{0, 1, 2, 3, 7, 10, 1 << 31, 1 << 32, 1<<32 + 1, 1 << 61, 1<<62 - 1, 1 << 62, 1<<62 + 1, 3037000499, 3037000500, math.MaxInt64 / 2, math.MaxInt64 / 3, math.MaxInt64 - 1, math.MaxInt64}
	for _, n := range l {
		l = append(l, -n)
	}
	return append(l, math.MinInt64)
}

// texts are those at the edges of how long a text may be, and some whose bytes stand in another order than their letters.
func texts() []string {
	return []string{"", "a", "b", "ab", "B", "\x00", "\xff", "\x7f\x80", "ä", "10", "9", times(31, "a"), times(32, "b"), times(33, "c"), times(63, "a"), times(64, "a"), times(65, "a")}
}

// others are truths, what is no value, and what no call of value makes.
func others() []api.Value {
	return []api.Value{yes, no, {Kind: api.VkBool, N: 2}, {Kind: api.VkBool, N: -1}, {Kind: api.VkBool, N: math.MinInt64}, {Kind: api.VkBool, S: "a"},
		{}, {N: 1}, {S: "a"}, {Kind: 4}, {Kind: 4, N: 1}, {Kind: -1, S: "a"}, {Kind: 256 + api.VkInt}, {Kind: math.MinInt},
		{Kind: api.VkInt, N: 1, S: "a"}, {Kind: api.VkInt, N: 1, S: "b"}, {Kind: api.VkText, N: 1, S: "a"}, {Kind: api.VkText, N: 2, S: "a"}}
}

// anyValues are all of these.
func anyValues() []api.Value {
	l := others()
	for _, n := range numbers() {
		l = append(l, num(n))
	}
	for _, s := range texts() {
		l = append(l, txt(s))
	}
	return l
}

// anyOps are all Ops, and some numbers that are none.
func anyOps() []int {
	l := []int{math.MinInt, -256, 256 + api.OpNeg, 256 + api.OpAdd, math.MaxInt}
	for op := -2; op < 22; op++ {
		l = append(l, op)
	}
	return l
}

// endAtFirst ends a test of many at the first one that fails: the others would tell the same.
func endAtFirst(t *testing.T) {
	t.Helper()
	if t.Failed() {
		t.FailNow()
	}
}

// told is what an evaluation comes to: its value, what fuel is left, and its error.
type told struct {
	v    api.Value
	left int
	err  error
}

// isTold tells unless an evaluation answers so, ever again, and leaves its terms as they are; and unless Test answers with it.
func isTold(t *testing.T, e []api.Term, get getter, fuel int, want told) {
	t.Helper()
	ahead := slices.Clone(e)
	for range 2 { // R5
		v, left, err := eval.Eval(e, get, fuel)
		if v != want.v || left != want.left || !sameError(err, want.err) {
			t.Errorf("%v with the fuel %d comes to %v, %d, %q; want %v, %d, %q", e, fuel, v, left, fault.Text(err), want.v, want.left, fault.Text(want.err))
		}
	}
	is, err := want.v.Kind == api.VkBool && want.v.N != 0, want.err
	if err == nil && want.v.Kind != api.VkBool {
		err = api.ErrKind
	}
	if got, left, x := eval.Test(e, get, fuel); got != is || left != want.left || !sameError(x, err) {
		t.Errorf("%v with the fuel %d is %t, %d, %q; want %t, %d, %q", e, fuel, got, left, fault.Text(x), is, want.left, fault.Text(err))
	}
	if !slices.Equal(e, ahead) {
		t.Errorf("of %v there is %v left", ahead, e)
	}
}

// isTellsOf tells unless Of answers so, and leaves the variables as they are.
func isTellsOf(t *testing.T, e []api.Term, vars []api.Var, fuel int, want told) {
	t.Helper()
	ahead := slices.Clone(vars)
	for range 2 { // R5
		v, left, err := eval.Of(e, vars, fuel)
		if v != want.v || left != want.left || !sameError(err, want.err) {
			t.Errorf("%v of %v with the fuel %d comes to %v, %d, %q; want %v, %d, %q", e, vars, fuel, v, left, fault.Text(err), want.v, want.left, fault.Text(want.err))
		}
	}
	if !slices.Equal(vars, ahead) {
		t.Errorf("of %v there is %v left", ahead, vars)
	}
	isTold(t, e, known(vars), fuel, want)
}

// sameError holds errors against each other, by all that can be asked of them.
func sameError(a, b error) bool {
	x, asksX := fault.Needed(a)
	y, asksY := fault.Needed(b)
	return (a == nil) == (b == nil) && fault.Code(a) == fault.Code(b) && slices.Equal(fault.Trail(a), fault.Trail(b)) && x == y && asksX == asksY
}

// known asks variables.
func known(vars []api.Var) getter {
	return func(name string) (api.Value, bool, error) {
		for _, x := range vars {
			if x.Name == name {
				return x.V, true, nil
			}
		}
		return api.Value{}, false, nil
	}
}

// some are variables of all kinds; there is none of the name none.
func some() []api.Var {
	return []api.Var{{Name: "a", V: num(7)}, {Name: "b", V: num(-2)}, {Name: "max", V: num(math.MaxInt64)}, {Name: "min", V: num(math.MinInt64)}, {Name: "s", V: txt("ab")}, {Name: "t", V: yes}, {Name: "u", V: api.Value{Kind: api.VkBool, N: 2}}, {Name: "x", V: api.Value{}}}
}

// errOutside is an error from outside that has no number.
var errOutside = errors.New("outside")

// hostile is an error from outside of which no method comes back.
type hostile struct{}

func (hostile) Error() string { panic("Error") }
func (hostile) Unwrap() error { panic("Unwrap") }
func (hostile) Is(error) bool { panic("Is") }
func (hostile) As(any) bool   { panic("As") }

// moody asks some variables, but has errors of others.
func moody(name string) (api.Value, bool, error) {
	switch name {
	case "need":
		return num(1), true, fault.Ask("lo", "hi")
	case "far":
		return num(1), true, fault.Wrap("there", fault.Wrap("here", api.ErrNone))
	case "other":
		return api.Value{}, false, errOutside
	case "dry":
		return num(1), true, fault.Wrap("well", api.ErrFuel)
	case "gone":
		return num(1), false, nil
	case "hostile":
		return num(1), true, hostile{}
	case "panics":
		panic("get")
	}
	return known(some())(name)
}

// whole makes terms of one value, so many at most, of which many come to something: of a kind, of its own or another one.
func whole(r *rand.Rand, size, kind int) []api.Term {
	if r.Intn(40) == 0 {
		kind = 1 + r.Intn(3)
	}
	if size < 2 || size == 2 && kind == api.VkText { // no Op makes a text of one value
		return list(leaf(r, kind))
	}
	if size == 2 || kind != api.VkText && r.Intn(5) == 0 {
		switch op := api.OpNeg + r.Intn(2); {
		case kind == api.VkBool:
			return append(whole(r, size-1, api.VkBool), do(api.OpNot))
		case op == api.OpNeg:
			return append(whole(r, size-1, api.VkInt), do(api.OpNeg))
		default:
			return append(whole(r, size-1, api.VkText), do(api.OpLen))
		}
	}
	op, within := api.OpAdd, kind
	switch kind {
	case api.VkInt:
		op = api.OpMul + r.Intn(5)
	case api.VkBool:
		op = api.OpLt + r.Intn(8)
		if op < api.OpAnd {
			within = []int{api.VkInt, api.VkText}[r.Intn(2)]
		}
	}
	left := 1 + r.Intn(size-2)
	return append(append(whole(r, left, within), whole(r, size-1-left, within)...), do(op))
}

// leaf makes a term that takes none.
func leaf(r *rand.Rand, kind int) api.Term {
	var l []api.Term
	switch kind {
	case api.VkInt:
		l = list(val(num(0)), val(num(1)), val(num(2)), val(num(3)), val(num(10)), of("a"), of("b"))
		if r.Intn(12) == 0 {
			l = list(val(num(1<<32)), val(num(math.MaxInt64)), of("max"), of("min"))
		}
	case api.VkBool:
		l = list(val(yes), val(no), of("t"), of("u"), got("a"), got("none"))
	default:
		l = list(val(txt("")), val(txt("a")), val(txt("ab")), val(txt(times(33, "a"))), of("s"))
	}
	if r.Intn(40) == 0 {
		l = list(of("none"), of("x"), of("need"), of("far"), of("other"), of("dry"), of("gone"), of("hostile"), of("panics"), got("need"), got("dry"), got("panics"))
	}
	return l[r.Intn(len(l))]
}
