package eval_test

import (
	"math/big"
	"strings"

	"conductor/api"
	"conductor/expr"
	"conductor/fault"
	"conductor/value"
)

// one is what One must answer.
func one(op int, a api.Value) (api.Value, api.Errno) {
	kinds := map[int]int{api.OpNeg: api.VkInt, api.OpNot: api.VkBool, api.OpLen: api.VkText}
	kind, is := kinds[op]
	switch {
	case !is:
		return api.Value{}, api.ErrArg
	case a.Kind != kind:
		return api.Value{}, api.ErrKind
	case op == api.OpNeg:
		return fit(new(big.Int).Neg(big.NewInt(a.N)))
	case op == api.OpNot:
		return value.Bool(a.N == 0), api.OK
	}
	return value.Int(int64(len([]byte(a.S)))), api.OK
}

// two is what Two must answer.
func two(op int, a, b api.Value) (api.Value, api.Errno) {
	if op < api.OpMul || op > api.OpOr {
		return api.Value{}, api.ErrArg
	}
	kinds := [2]int{a.Kind, b.Kind}
	ints, bools, texts := [2]int{1, 1}, [2]int{2, 2}, [2]int{3, 3}
	same := kinds[0] == kinds[1] && a.N == b.N && a.S == b.S
	switch {
	case op == api.OpEq || op == api.OpNe:
		return value.Bool(same != (op == api.OpNe)), api.OK
	case op == api.OpAnd && kinds == bools:
		return value.Bool(a.N != 0 && b.N != 0), api.OK
	case op == api.OpOr && kinds == bools:
		return value.Bool(a.N != 0 || b.N != 0), api.OK
	case op >= api.OpAnd:
		return api.Value{}, api.ErrKind
	case op >= api.OpLt && kinds == texts:
		return value.Bool(stands(op, strings.Compare(a.S, b.S))), api.OK
	case op == api.OpAdd && kinds == texts && len(a.S)+len(b.S) > 64:
		return api.Value{}, api.ErrLong
	case op == api.OpAdd && kinds == texts:
		return value.Text(a.S + b.S), api.OK
	case kinds != ints:
		return api.Value{}, api.ErrKind
	}
	x, y := big.NewInt(a.N), big.NewInt(b.N)
	switch op {
	case api.OpMul:
		return fit(x.Mul(x, y))
	case api.OpAdd:
		return fit(x.Add(x, y))
	case api.OpSub:
		return fit(x.Sub(x, y))
	case api.OpDiv, api.OpMod:
		if b.N == 0 {
			return api.Value{}, api.ErrZero
		}
		quotient, rest := new(big.Int).QuoRem(x, y, new(big.Int)) // towards 0, too
		if op == api.OpDiv {
			return fit(quotient)
		}
		return fit(rest)
	}
	return value.Bool(stands(op, x.Cmp(y))), api.OK
}

// stands tells whether two that stand so have what the Op asks for.
func stands(op, way int) bool {
	return map[int][3]bool{api.OpLt: {true, false, false}, api.OpLe: {true, true, false}, api.OpGt: {false, false, true}, api.OpGe: {false, true, true}}[op][way+1]
}

func fit(n *big.Int) (api.Value, api.Errno) {
	if !n.IsInt64() {
		return api.Value{}, api.ErrOver
	}
	return value.Int(n.Int64()), api.OK
}

// model evaluates in another way than the package: from the last term down. It panics with the first error.
type model struct {
	e     []api.Term
	get   getter
	left  int
	asked []string
}

// wanted is what Eval must answer, and which variables it must ask for.
func wanted(e []api.Term, get getter, fuel int) (x told, asked []string) {
	m := &model{e: e, get: get, left: max(fuel, 0)}
	if code := expr.Check(e); code != api.OK {
		return told{left: m.left, err: code}, nil
	}
	defer func() {
		if err, is := recover().(error); is {
			x, asked = told{left: m.left, err: err}, m.asked
		}
	}()
	v, _ := m.down(len(e))
	return told{v: v, left: m.left}, m.asked
}

// down gives the value whose last term stands ahead of end, and where its first one stands.
func (m *model) down(end int) (api.Value, int) {
	t := m.e[end-1]
	switch {
	case t.Op <= api.OpHas:
		m.pay()
		return m.leaf(t), end - 1
	case t.Op <= api.OpLen:
		a, first := m.down(end - 1)
		m.pay()
		return or(one(t.Op, a)), first
	}
	middle := m.first(end - 1)
	a, first := m.down(middle)
	b, _ := m.down(end - 1)
	m.pay()
	return or(two(t.Op, a, b)), first
}

// first tells where the first term of the value stands whose last one stands ahead of end.
func (m *model) first(end int) int {
	for missing := 1; missing > 0; end-- {
		missing--
		if op := m.e[end-1].Op; op >= api.OpNeg {
			missing++
			if op >= api.OpMul {
				missing++
			}
		}
	}
	return end
}

// pay takes one of the fuel.
func (m *model) pay() {
	if m.left == 0 {
		panic(api.ErrFuel)
	}
	m.left--
}

// leaf gives the value of a term that takes none.
func (m *model) leaf(t api.Term) api.Value {
	if t.Op == api.OpVal {
		return t.V
	}
	m.asked = append(m.asked, t.Name)
	v, is, err := asked(m.get, t.Name)
	if err == nil && t.Op == api.OpVar && !is {
		err = api.ErrUnset
	}
	if err != nil {
		if fault.Code(err) == api.ErrFuel { // with ErrFuel a term has not taken its one
			m.left++
		}
		panic(fault.Wrap(t.Name, err))
	}
	if t.Op == api.OpHas {
		return value.Bool(is)
	}
	return v
}

// asked is what get tells, or an error without a number, if it panics.
func asked(get getter, name string) (v api.Value, is bool, err error) {
	defer func() {
		if recover() != nil {
			v, is, err = api.Value{}, false, api.ErrOther
		}
	}()
	return get(name)
}

func or(v api.Value, err api.Errno) api.Value {
	if err != api.OK {
		panic(err)
	}
	return v
}
