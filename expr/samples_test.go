package expr_test

import (
	"math/rand"
	"slices"
	"strings"
	"testing"

	"conductor/api"
	"conductor/expr"
	"conductor/fault"
	"conductor/value"
)

// Short forms of terms.
func num(n int64) api.Term    { return api.Term{Op: api.OpVal, V: value.Int(n)} }
func is(b bool) api.Term      { return api.Term{Op: api.OpVal, V: value.Bool(b)} }
func txt(s string) api.Term   { return api.Term{Op: api.OpVal, V: value.Text(s)} }
func of(name string) api.Term { return api.Term{Op: api.OpVar, Name: name} }
func got(name string) api.Term {
	return api.Term{Op: api.OpHas, Name: name}
}
func do(op int) api.Term { return api.Term{Op: op} }

// list puts terms together.
func list(e ...api.Term) []api.Term { return e }

// times gives s so often.
func times(n int, s string) string { return strings.Repeat(s, n) }

// isParsed tells unless the text has these terms.
func isParsed(t *testing.T, s string, e []api.Term) {
	t.Helper()
	for range 2 { // R5
		if terms, err := expr.Parse(s); err != nil || !slices.Equal(terms, e) {
			t.Errorf("Parse(%q) = %v, %s; want %v", s, terms, fault.Text(err), e)
		}
	}
}

// isNotParsed tells unless the text has that error, with its place (below 0: none), and no terms.
func isNotParsed(t *testing.T, s string, at int, code api.Errno) {
	t.Helper()
	terms, err := expr.Parse(s)
	want := fault.Of(code)
	if at >= 0 {
		want = fault.Wrap("at "+decimal(at), want)
	}
	if len(terms) != 0 || fault.Code(err) != code || fault.Text(err) != fault.Text(want) || !slices.Equal(fault.Trail(err), fault.Trail(want)) {
		t.Errorf("Parse(%q) = %v, %s; want %s", s, terms, fault.Text(err), fault.Text(want))
	}
	if f, wraps := err.(*fault.Fault); at < 0 && err != error(code) || at >= 0 && (!wraps || f.Err != error(code)) {
		t.Errorf("Parse(%q) has the error %#v", s, err)
	}
}

// isAsTold tells unless the text is parsed, or refused, as the model does it, and whether it was parsed.
func isAsTold(t *testing.T, s string) bool {
	t.Helper()
	e, first := wanted(s)
	if first != nil {
		isNotParsed(t, s, first.at, first.err)
		return false
	}
	isParsed(t, s, e)
	return true
}

func decimal(n int) string { return value.Print(value.Int(int64(n))) }

// isPrinted tells unless the terms have this text.
func isPrinted(t *testing.T, e []api.Term, s string) {
	t.Helper()
	for range 2 { // R5
		if text, err := expr.Print(e); text != s || err != api.OK {
			t.Errorf("Print(%v) = %q, %d; want %q", e, text, err, s)
		}
	}
}

// isNotPrinted tells unless the terms have this error, and no text.
func isNotPrinted(t *testing.T, e []api.Term, code api.Errno) {
	t.Helper()
	if text, err := expr.Print(e); text != "" || err != code {
		t.Errorf("Print(%v) = %q, %d; want the error %d", e, text, err, code)
	}
}

// isChecked tells unless Check answers so, and Print with it.
func isChecked(t *testing.T, e []api.Term, code api.Errno) {
	t.Helper()
	ahead := slices.Clone(e)
	for range 2 { // R5
		if err := expr.Check(e); err != code {
			t.Errorf("Check(%v) = %d, want %d", e, err, code)
		}
	}
	if code != api.OK {
		isNotPrinted(t, e, code)
	}
	if !slices.Equal(e, ahead) {
		t.Errorf("of %v there is %v left", ahead, e)
	}
}

// textsOf gives each text of at most that many pieces to a function.
func textsOf(long int, pieces []string, each func(string)) {
	each("")
	if long == 0 {
		return
	}
	for _, p := range pieces {
		textsOf(long-1, pieces, func(s string) { each(p + s) })
	}
}

// tree makes terms of one value, so many.
func tree(r *rand.Rand, size int) []api.Term {
	if size <= 1 {
		return list(leaf(r))
	}
	if size == 2 || r.Intn(4) == 0 {
		return append(tree(r, size-1), do([]int{api.OpNeg, api.OpNot, api.OpLen}[r.Intn(3)]))
	}
	left := 1 + r.Intn(size-2)
	return append(append(tree(r, left), tree(r, size-1-left)...), do(api.OpMul+r.Intn(13)))
}

// tower makes terms of one value, of which each sign takes what is ahead of it.
func tower(r *rand.Rand, high int) []api.Term {
	e := list(leaf(r))
	for range high {
		switch op := api.OpNeg + r.Intn(16); {
		case op < api.OpMul || r.Intn(2) == 0:
			e = append(e, do(api.OpNeg+op%3))
		case r.Intn(2) == 0:
			e = append(e, leaf(r), do(op))
		default:
			e = append(append(list(leaf(r)), e...), do(op))
		}
	}
	return e
}

func leaf(r *rand.Rand) api.Term {
	leaves := list(num(0), num(1), num(1<<62), is(true), is(false), txt(""), txt("a b"), txt(`"\`), txt("\x00"), of("a"), of("b-1"), of("haslen"), got("a"), got("truefalse"))
	return leaves[r.Intn(len(leaves))]
}

// loose writes the last value of terms with more brackets, and more blanks, than are needed, and gives the terms ahead of it.
func loose(r *rand.Rand, e []api.Term) (string, []api.Term) {
	last, rest := e[len(e)-1], e[:len(e)-1]
	blank := func() string { return times(r.Intn(6)/3, " ") }
	switch last.Op {
	case api.OpVal, api.OpVar:
		s := laid(list(last))
		if r.Intn(6) == 0 {
			s = "(" + blank() + s + blank() + ")"
		}
		return s, rest
	case api.OpHas:
		return "has" + blank() + "(" + blank() + last.Name + blank() + ")", rest
	case api.OpLen:
		within, rest := loose(r, rest)
		return "len" + blank() + "(" + blank() + within + blank() + ")", rest
	case api.OpNeg, api.OpNot:
		within, rest := loose(r, rest)
		return map[int]string{api.OpNeg: "-", api.OpNot: "!"}[last.Op] + blank() + "(" + within + ")", rest
	}
	right, rest := loose(r, rest)
	left, rest := loose(r, rest)
	for sign, op := range ops {
		if op == last.Op {
			return "(" + left + ")" + blank() + sign + blank() + "(" + right + ")", rest
		}
	}
	panic("no Op")
}
