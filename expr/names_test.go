package expr_test

import (
	"slices"
	"testing"

	"conductor/api"
	"conductor/expr"
)

// P5.3
func TestNames(t *testing.T) {
	for _, x := range []struct {
		e    []api.Term
		want []string
	}{
		{nil, nil},
		{list(), nil},
		{list(num(1), txt("a"), do(api.OpAdd)), nil},
		{list(of("a")), []string{"a"}},
		{list(got("a")), []string{"a"}},
		{list(of("b"), of("a"), do(api.OpAdd), got("c"), do(api.OpAdd), of("b"), do(api.OpAdd)), []string{"a", "b", "c"}},
		{list(of("a"), got("a"), do(api.OpAnd)), []string{"a"}},
		{list(of("b"), of("a-"), of("aa"), of("a0"), of("a")), []string{"a", "a-", "a0", "aa", "b"}},
		// of any terms
		{list(do(19), of("z"), api.Term{Op: -1, Name: "a"}, api.Term{Op: api.OpVal, Name: "b"}, api.Term{Op: api.OpNeg, Name: "c"}, api.Term{Op: 256 + api.OpVar, Name: "d"}), []string{"z"}},
		{list(of("true"), of(""), got("\xff"), of("A"), of(times(99, "b")), got("true")), []string{"", "A", times(99, "b"), "true", "\xff"}},
		{slices.Repeat(list(of("b"), got("a")), 1000), []string{"a", "b"}},
	} {
		ahead := slices.Clone(x.e)
		for range 2 { // R5
			if names := expr.Names(x.e); !slices.Equal(names, x.want) {
				t.Errorf("Names(%v) = %q, want %q", x.e, names, x.want)
			}
		}
		if !slices.Equal(x.e, ahead) {
			t.Errorf("Names(%v) leaves %v", ahead, x.e)
		}
	}
}

// P5.3, R4
func TestNamesAreNotShared(t *testing.T) {
	e := list(of("b"), of("a"), do(api.OpAdd))
	names := expr.Names(e)
	names[0], names[1] = "x", "y"
	_ = append(names[:1], "z", "z", "z")
	if again := expr.Names(e); !slices.Equal(again, []string{"a", "b"}) || !slices.Equal(e, list(of("b"), of("a"), do(api.OpAdd))) {
		t.Errorf("the names of %v are %q", e, again)
	}
}

// P5.3
func TestSame(t *testing.T) {
	rows := [][]api.Term{
		nil,
		list(num(1)),
		list(num(2)),
		list(is(true)),
		list(txt("1")),
		list(of("a")),
		list(got("a")),
		list(of("b")),
		list(num(1), num(1)),
		list(num(1), num(2)),
		list(num(2), num(1)),
		list(num(1), do(api.OpNeg)),
		list(num(1), do(api.OpNot)),
		list(of("a"), of("b"), do(api.OpAdd)),
		list(of("b"), of("a"), do(api.OpAdd)),
		// of any terms, and of all their fields
		list(do(-1)),
		list(do(19)),
		list(api.Term{Op: api.OpNeg}),
		list(api.Term{Op: api.OpNeg, Name: "a"}),
		list(api.Term{Op: api.OpNeg, V: num(0).V}),
		list(api.Term{Op: api.OpVar, V: api.Value{N: 1}, Name: "a"}),
		list(api.Term{Op: api.OpVar, V: api.Value{S: "1"}, Name: "a"}),
		list(api.Term{Op: api.OpVar, V: api.Value{Kind: 1}, Name: "a"}),
	}
	for i, a := range rows {
		for j, b := range rows {
			if same := expr.Same(slices.Clone(a), b); same != (i == j) {
				t.Errorf("Same(%v, %v) = %t", a, b, same)
			}
		}
	}
	if !expr.Same(nil, list()) || !expr.Same(list(), nil) {
		t.Error("a nil list and an empty one are not the same")
	}
}
