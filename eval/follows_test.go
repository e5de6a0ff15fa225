package eval_test

import (
	"math"
	"math/rand"
	"slices"
	"testing"

	"conductor/api"
	"conductor/eval"
	"conductor/expr"
	"conductor/fault"
	"conductor/value"
)

// P6.4: ever more fuel.
func TestFuel(t *testing.T) {
	for _, s := range []string{"a", "a + 1", "-(a * a) < 3 || !has(none)", `s + "c" == "abc" && len(s) < a`} {
		e := terms(t, s)
		v, _, err := eval.Of(e, some(), len(e))
		if err != nil {
			t.Fatal(s, fault.Text(err))
		}
		for _, fuel := range []int{len(e), len(e) + 1, len(e) + 2, 1000, 100000, math.MaxInt} {
			isTellsOf(t, e, some(), fuel, told{v: v, left: fuel - len(e)})
		}
		for fuel := range len(e) {
			isTellsOf(t, e, some(), fuel, told{err: api.ErrFuel})
		}
		for _, fuel := range []int{-1, -100, math.MinInt} {
			isTellsOf(t, e, some(), fuel, told{err: api.ErrFuel})
		}
	}
}

// P6.4: whatever it comes to.
func TestFuelOfMany(t *testing.T) {
	r := rand.New(rand.NewSource(2))
	for range 2000 {
		e := whole(r, 1+r.Intn(20), 1+r.Intn(3))
		v, left, err := eval.Of(e, some(), 1000)
		enough := 1000 - left
		if err == nil && enough != len(e) || enough > len(e) {
			t.Fatalf("%v takes %d", e, enough)
		}
		for fuel := -1; fuel < len(e)+3; fuel++ {
			want := told{v, fuel - enough, err}
			if fuel < enough {
				want = told{err: api.ErrFuel}
			}
			isTellsOf(t, e, some(), fuel, want)
		}
	}
}

// partOf gives where the part begins whose last term stands ahead of end.
func partOf(e []api.Term, end int) int {
	m := model{e: e}
	return m.first(end)
}

// P6.5
func TestStrict(t *testing.T) {
	r := rand.New(rand.NewSource(3))
	var well, ill int
	for range 5000 {
		e := whole(r, 2+r.Intn(25), 1+r.Intn(3))
		end := 1 + r.Intn(len(e))
		first := partOf(e, end)
		part := e[first:end]
		if expr.Check(e) != api.OK || expr.Check(part) != api.OK {
			t.Fatalf("%v is not right", e)
		}
		v, left, err := eval.Eval(e, moody, 100)
		own, ownLeft, ownErr := eval.Eval(part, moody, 100)
		if ownErr != nil {
			ill++
			if err == nil || v != (api.Value{}) {
				t.Errorf("%v comes to %v, though %v has the error %s", e, v, part, fault.Text(ownErr))
			}
			if reached := 100 - left; reached > first && (!sameError(err, ownErr) || left != ownLeft-first) {
				t.Errorf("%v has the error %s, and %v has %s", e, fault.Text(err), part, fault.Text(ownErr))
			}
			continue
		}
		well++
		instead := slices.Concat(e[:first], list(of("part")), e[end:])
		get := func(name string) (api.Value, bool, error) {
			if name == "part" {
				return own, true, nil
			}
			return moody(name)
		}
		if again, _, errAgain := eval.Eval(instead, get, 100); again != v || !sameError(errAgain, err) {
			t.Errorf("%v comes to %v, %s; with %v instead of %v it is %v, %s", e, v, fault.Text(err), own, part, again, fault.Text(errAgain))
		}
	}
	if well < 500 || ill < 500 {
		t.Errorf("%d parts come to something, %d have errors", well, ill)
	}
}

// P6.5: an error on either side, of each sign.
func TestStrictSigns(t *testing.T) {
	for op := api.OpMul; op <= api.OpOr; op++ {
		for _, v := range []api.Value{num(0), num(1), no, yes, txt("a")} {
			isTold(t, list(of("none"), val(v), do(op)), moody, 9, told{left: 8, err: at("none", api.ErrUnset)})
			isTold(t, list(val(v), of("none"), do(op)), moody, 9, told{left: 7, err: at("none", api.ErrUnset)})
			isTold(t, list(val(v), val(num(1)), val(num(0)), do(api.OpMod), do(op)), moody, 9, told{left: 5, err: api.ErrZero})
		}
	}
}

// ofTwo is what a text of the variables a and b comes to.
func ofTwo(t *testing.T, s string, a, b api.Value) (api.Value, error) {
	t.Helper()
	v, _, err := eval.Of(terms(t, s), []api.Var{{Name: "a", V: a}, {Name: "b", V: b}}, 40)
	return v, err
}

// P6.6
func TestLaws(t *testing.T) {
	var l []api.Value
	for _, n := range numbers() {
		l = append(l, num(n))
	}
	r := rand.New(rand.NewSource(4))
	for range 60 {
		l = append(l, num(r.Int63()>>r.Intn(63)), num(-r.Int63()>>r.Intn(63)))
	}
	for _, a := range l {
		for _, b := range l {
			turns(t, "a + b", "b + a", a, b)
			turns(t, "a * b", "b * a", a, b)
			for _, s := range []string{"a + b - b", "b + a - b", "a - b + b"} {
				back(t, s, a, b, api.ErrOver)
			}
			if b.N != 0 {
				back(t, "a / b * b + a % b", a, b, api.ErrOver)
				isRest(t, a.N, b.N)
			}
		}
	}
	if _, err := ofTwo(t, "a / b * b + a % b", num(math.MinInt64), num(-1)); fault.Code(err) != api.ErrOver {
		t.Error("the least number is divided by -1")
	}
}

// turns tells unless both texts come to the same, or both have the same error.
func turns(t *testing.T, x, y string, a, b api.Value) {
	t.Helper()
	v, err := ofTwo(t, x, a, b)
	w, other := ofTwo(t, y, a, b)
	if v != w || !sameError(err, other) {
		t.Errorf("%s is %v, %s, but %s is %v, %s (%v, %v)", x, v, fault.Text(err), y, w, fault.Text(other), a, b)
	}
}

// back tells unless the text comes to a, or has that error.
func back(t *testing.T, s string, a, b api.Value, code api.Errno) {
	t.Helper()
	if v, err := ofTwo(t, s, a, b); v != a && fault.Code(err) != code {
		t.Errorf("%s is %v, %s (%v, %v)", s, v, fault.Text(err), a, b)
	}
}

// isRest tells unless what is left of a is nearer to 0 than b, and on a's side.
func isRest(t *testing.T, a, b int64) {
	t.Helper()
	v, code := eval.Two(api.OpMod, num(a), num(b))
	n := v.N
	if code != api.OK || n > 0 && a < 0 || n < 0 && a > 0 || n > 0 && n >= b && -n <= b || n < 0 && n <= b && -n >= b {
		t.Errorf("%d %% %d is %d, %d", a, b, n, code)
	}
}

// P6.7
func TestNames(t *testing.T) {
	r := rand.New(rand.NewSource(5))
	for range 3000 {
		e := whole(r, 1+r.Intn(20), 1+r.Intn(3))
		v, left, err := eval.Of(e, some(), 100)
		names := expr.Names(e)
		var own, other []api.Var
		for _, x := range some() {
			if slices.Contains(names, x.Name) {
				own = append(own, x)
				other = append(other, x)
				continue
			}
			other = append(other, api.Var{Name: x.Name, V: txt("other")})
		}
		for _, name := range []string{"", "aa", "more", "-", "len"} {
			other = value.Set(other, api.Var{Name: name, V: num(9)})
		}
		isTellsOf(t, e, own, 100, told{v, left, err})
		isTellsOf(t, e, other, 100, told{v, left, err})
	}
}

// P1, P6.1 to P6.7: whatever comes.
func FuzzEval(f *testing.F) {
	for _, s := range []string{"", "a + 2 * b", "!(x == 1) && has(y)", `len("a" + b) < 3 || true`, "1 / 0", "need", "has(dry)", "panics"} {
		f.Add(s, []byte{1, 2, 3}, int64(1), "a", 9)
	}
	f.Fuzz(func(t *testing.T, s string, b []byte, n int64, text string, fuel int) {
		l := append(anyValues(), num(n), txt(text), api.Value{Kind: fuel, N: n, S: text})
		for i := 0; i+2 < len(b); i += 3 {
			op, x, y := int(b[i])-4, l[int(b[i+1])%len(l)], l[int(b[i+2])%len(l)]
			want, err := one(op, x)
			comesTo(t, op, vals(x), want, err)
			want, err = two(op, x, y)
			comesTo(t, op, vals(x, y), want, err)
		}
		e, err := expr.Parse(s)
		if err != nil {
			e = nil
			for _, c := range b {
				e = append(e, []api.Term{val(num(n)), val(txt(text)), of(s), got(s), of("a"), of("s"), do(int(c)), do(api.OpAdd), do(api.OpEq)}[int(c)%9])
			}
		}
		isAsModelled(t, e, fuel)
	})
}
