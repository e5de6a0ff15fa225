package expr_test

import (
	"math/rand"
	"slices"
	"testing"

	"conductor/api"
	"conductor/expr"
)

// goesBack tells unless right terms are parsed again of their text, if that is not too long.
func goesBack(t *testing.T, e []api.Term) bool {
	t.Helper()
	s, err := expr.Print(e)
	if err == api.ErrLong {
		return false
	}
	isPrinted(t, e, s)
	isParsed(t, s, e)
	return true
}

// P5.3, P5.4
func TestThereAndBack(t *testing.T) {
	r := rand.New(rand.NewSource(7))
	back := 0
	for range 5000 {
		e := tree(r, 1+r.Intn(30))
		if wrong(e) != api.OK {
			continue
		}
		isLaid(t, e)
		if goesBack(t, e) {
			back++
		}
	}
	if back < 2000 {
		t.Errorf("%d go there and back", back)
	}
}

// goesAgain tells unless what was parsed of a text is right, and the same when it is printed and parsed again, if its text is not too long.
func goesAgain(t *testing.T, s string) bool {
	t.Helper()
	e, err := expr.Parse(s)
	if err != nil {
		return false
	}
	if code := expr.Check(e); code != api.OK {
		t.Errorf("%q is parsed as %v, which has the error %d", s, e, code)
	}
	return goesBack(t, e)
}

// P5.5
func TestAgain(t *testing.T) {
	again := 0
	textsOf(6, []string{"a", "(", ")", "-", "<", " +", "len"}, func(s string) {
		if goesAgain(t, s) {
			again++
		}
	})
	r := rand.New(rand.NewSource(8))
	for range 20000 {
		if s, _ := loose(r, tree(r, 1+r.Intn(20))); goesAgain(t, s) {
			again++
		}
	}
	if again < 5000 {
		t.Errorf("%d go there again", again)
	}
	// too long, when it is printed with its blanks
	e, err := expr.Parse(times(12, "abcdefg+") + times(6, "a+") + "abcdefgh")
	if err != nil || expr.Check(e) != api.OK {
		t.Fatal(e, err)
	}
	isNotPrinted(t, e, api.ErrLong)
}

// P1, P5.1 to P5.5: whatever comes.
func FuzzExpr(f *testing.F) {
	for _, s := range []string{"", "a + 2 * b", "!(x==1)&&has( y )", `len("\0a" + b) < 3 || true`, "1 +", "a < b < c", "((((((((((((-1", "007", "99999999999999999999"} {
		f.Add(s, []byte{1, 2, 3}, int64(1))
	}
	f.Fuzz(func(t *testing.T, s string, b []byte, n int64) {
		isAsTold(t, s)
		goesAgain(t, s)
		var e []api.Term
		for _, c := range b {
			all := append(anyTerms(), num(n), txt(s), of(s), got(s), do(int(n)), api.Term{Op: int(c), V: num(n).V}, api.Term{Op: int(c), Name: s})
			e = append(e, all[int(c)%len(all)])
		}
		code := wrong(e)
		isChecked(t, e, code)
		if code == api.OK {
			isLaid(t, e)
			goesBack(t, e)
		}
		expr.Names(e)
		if !expr.Same(e, slices.Clone(e)) {
			t.Errorf("%v is another one than itself", e)
		}
	})
}
