package eval

import (
	"cmp"

	"conductor/api"
	"conductor/value"
)

// One tells what an Op makes of one value.
func One(op int, a api.Value) (api.Value, api.Errno) {
	switch op {
	case api.OpNeg:
		if !are(api.VkInt, a) {
			return api.Value{}, api.ErrKind
		}
		return number(minus(0, a.N))
	case api.OpNot:
		if !are(api.VkBool, a) {
			return api.Value{}, api.ErrKind
		}
		return value.Bool(!isTrue(a)), api.OK
	case api.OpLen:
		if !are(api.VkText, a) {
			return api.Value{}, api.ErrKind
		}
		return value.Int(int64(len(a.S))), api.OK
	}
	return api.Value{}, api.ErrArg
}

// Two tells what an Op makes of two values.
func Two(op int, a, b api.Value) (api.Value, api.Errno) {
	switch op {
	case api.OpAnd, api.OpOr:
		return joined(op, a, b)
	case api.OpEq, api.OpNe:
		return value.Bool((a == b) == (op == api.OpEq)), api.OK
	case api.OpLt, api.OpLe, api.OpGt, api.OpGe:
		return ordered(op, a, b)
	case api.OpAdd:
		if are(api.VkText, a, b) {
			return behind(a.S, b.S)
		}
		fallthrough // what is no two texts must be two numbers, as for all that reckon
	case api.OpMul, api.OpDiv, api.OpMod, api.OpSub:
		return reckoned(op, a, b)
	}
	return api.Value{}, api.ErrArg
}

// are tells whether all values are of that kind.
func are(kind int, values ...api.Value) bool {
	for _, v := range values {
		if v.Kind != kind {
			return false
		}
	}
	return true
}

// isTrue tells what a truth is: any number but 0 is true, as it may come from elsewhere.
func isTrue(v api.Value) bool {
	return v.N != 0
}

// joined tells whether both of two truths hold, or one.
func joined(op int, a, b api.Value) (api.Value, api.Errno) {
	if !are(api.VkBool, a, b) {
		return api.Value{}, api.ErrKind
	}
	if op == api.OpAnd {
		return value.Bool(isTrue(a) && isTrue(b)), api.OK
	}
	return value.Bool(isTrue(a) || isTrue(b)), api.OK
}

// ordered tells how two numbers, or two texts, stand.
func ordered(op int, a, b api.Value) (api.Value, api.Errno) {
	var way int
	switch {
	case are(api.VkInt, a, b):
		way = cmp.Compare(a.N, b.N)
	case are(api.VkText, a, b):
		way = cmp.Compare(a.S, b.S)
	default:
		return api.Value{}, api.ErrKind
	}
	is := way >= 0
	switch op {
	case api.OpLt:
		is = way < 0
	case api.OpLe:
		is = way <= 0
	case api.OpGt:
		is = way > 0
	}
	return value.Bool(is), api.OK
}

// behind gives the text a with b behind it.
func behind(a, b string) (api.Value, api.Errno) {
	if len(a)+len(b) > api.MaxText {
		return api.Value{}, api.ErrLong
	}
	return value.Text(a + b), api.OK
}

// reckoned gives what comes of two numbers.
func reckoned(op int, a, b api.Value) (api.Value, api.Errno) {
	if !are(api.VkInt, a, b) {
		return api.Value{}, api.ErrKind
	}
	if b.N == 0 && (op == api.OpDiv || op == api.OpMod) {
		return api.Value{}, api.ErrZero
	}
	switch op {
	case api.OpMul:
		return number(product(a.N, b.N))
	case api.OpDiv:
		return number(quotient(a.N, b.N))
	case api.OpMod:
		return value.Int(a.N % b.N), api.OK
	case api.OpAdd:
		return number(plus(a.N, b.N))
	}
	return number(minus(a.N, b.N))
}
