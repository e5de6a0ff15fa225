package fault_test

import (
	"errors"
	"slices"
	"strconv"
	"strings"
	"testing"

	"conductor/api"
	"conductor/fault"
)

// P2.1
func TestOfIsTheCode(t *testing.T) {
	if err := fault.Of(api.OK); err != nil {
		t.Errorf("Of(OK) = %v", err)
	}
	for _, code := range numbers() {
		if err := fault.Of(code); err != error(code) {
			t.Errorf("Of(%d) = %#v", code, err)
		}
	}
}

// P2.1
func TestAskIsTheNeed(t *testing.T) {
	for _, n := range []api.Need{{}, {Lo: "a", Hi: "b"}, {Lo: "a", Hi: "a"}, {Lo: "b", Hi: "a"}, {Lo: "a"}, {Hi: "\xff\x00"}} {
		if err := fault.Ask(n.Lo, n.Hi); err != error(n) {
			t.Errorf("Ask(%q, %q) = %#v", n.Lo, n.Hi, err)
		}
	}
}

// P2.1
func TestWrapIsAFaultOfBoth(t *testing.T) {
	for _, x := range samples() {
		if x.err == nil {
			continue
		}
		for _, place := range []string{"", "node 3", "\xff: "} {
			f, is := fault.Wrap(place, x.err).(*fault.Fault)
			if !is || f == nil {
				t.Fatalf("%s: Wrap is no Fault", x.name)
			}
			if f.Place != place || !same(f.Err, x.err) || !same(f.Unwrap(), x.err) {
				t.Errorf("%s: Wrap(%q) has the place %q, and wraps another one", x.name, place, f.Place)
			}
		}
	}
}

// same holds errors against each other, those of a list by their type and length.
func same(a, b error) bool {
	l, is := a.(several)
	if !is {
		return a == b
	}
	m, is := b.(several)
	return is && len(l) == len(m) && (len(l) == 0 || &l[0] == &m[0])
}

// P2.1, R4
func TestEachWrapIsANewOne(t *testing.T) {
	inner := fault.Of(api.ErrForm)
	a, b := fault.Wrap("x", inner), fault.Wrap("x", inner)
	a.(*fault.Fault).Place = "y"
	a.(*fault.Fault).Err = api.ErrLong
	if fault.Text(a) != "y: error 3" || fault.Text(b) != "x: error 8" {
		t.Errorf("texts %q and %q", fault.Text(a), fault.Text(b))
	}
}

// P2.1
func TestErrorOfAFault(t *testing.T) {
	var none *fault.Fault
	if none.Error() != "" || none.Unwrap() != nil {
		t.Errorf("a nil Fault tells %q, and wraps %v", none.Error(), none.Unwrap())
	}
	zero := &fault.Fault{}
	if zero.Error() != ": error 20" || zero.Unwrap() != nil {
		t.Errorf("a Fault of nothing tells %q, and wraps %v", zero.Error(), zero.Unwrap())
	}
	for _, x := range samples() {
		if x.err == nil {
			continue
		}
		f := &fault.Fault{Place: "p", Err: x.err}
		if f.Error() != "p: "+x.text || f.Error() != fault.Text(f) {
			t.Errorf("%s: Error = %q, want %q", x.name, f.Error(), "p: "+x.text)
		}
	}
}

// P2.2
func TestWhatIsTold(t *testing.T) {
	for _, x := range samples() {
		x.tells(t)
		x.tells(t) // R5
	}
	for _, code := range numbers() {
		sample{"of", fault.Of(code), code, nil, nil, "error " + strconv.Itoa(int(code))}.tells(t)
	}
}

// P2.2, by the ways of the library, too
func TestFoundByTheLibrary(t *testing.T) {
	err := fault.Wrap("a", outside{fault.Wrap("b", fault.Of(api.ErrForm))})
	var f *fault.Fault
	if !errors.Is(err, api.ErrForm) || errors.Is(err, api.ErrLong) || !errors.As(err, &f) || f.Place != "a" {
		t.Error("errors.Is and errors.As do not find what is wrapped")
	}
	var need api.Need
	if !errors.As(fault.Wrap("a", fault.Ask("x", "y")), &need) || need != (api.Need{Lo: "x", Hi: "y"}) {
		t.Errorf("errors.As finds the need %q", need)
	}
}

// P2.2, R4
func TestTrailIsNewMemory(t *testing.T) {
	err := fault.Wrap("a", fault.Wrap("b", fault.Of(api.ErrForm)))
	first := fault.Trail(err)
	first[0], first[1] = "x", "y"
	_ = append(first[:1], "z")
	if again := fault.Trail(err); !slices.Equal(again, []string{"a", "b"}) || fault.Text(err) != "a: b: error 8" {
		t.Errorf("Trail = %q, Text = %q", again, fault.Text(err))
	}
}

// P2.2
func TestFirst(t *testing.T) {
	a, b := fault.Wrap("a", fault.Of(api.ErrForm)), fault.Of(api.ErrLong)
	var none *fault.Fault
	for _, x := range []struct {
		errs []error
		want error
	}{
		{nil, nil},
		{[]error{}, nil},
		{[]error{nil}, nil},
		{[]error{nil, nil, nil}, nil},
		{[]error{a}, a},
		{[]error{a, b}, a},
		{[]error{b, a}, b},
		{[]error{nil, nil, b, nil, a}, b},
		{[]error{nil, api.OK, a}, api.OK},
		{[]error{none, a}, none},
	} {
		if got := fault.First(x.errs...); got != x.want {
			t.Errorf("First(%v) = %v, want %v", x.errs, got, x.want)
		}
	}
	errs := []error{nil, b}
	if fault.First(errs...); errs[0] != nil || errs[1] != b {
		t.Error("First changed what it was handed")
	}
}

// P2.3
func TestWrappingAddsAPlace(t *testing.T) {
	for _, x := range samples() {
		if x.err == nil {
			continue
		}
		for _, place := range []string{"", "deploy", "\xff: "} {
			more := x
			more.name = place + " around " + x.name
			more.err = fault.Wrap(place, x.err)
			more.trail = slices.Insert(slices.Clone(x.trail), 0, place)
			more.text = place + ": " + x.text
			more.tells(t)
			x.tells(t)
		}
	}
}

// P2.3: over however many others, up to the greatest depth of which something is promised.
func TestThroughManyOthers(t *testing.T) {
	const depth = 1 << 16
	var places []string
	err, other := fault.Of(api.ErrDanger), fault.Ask("lo", "hi")
	for i := range depth - 1 {
		place := strconv.Itoa(i)
		places = append(places, place)
		err, other = fault.Wrap(place, err), outside{other}
	}
	slices.Reverse(places)
	sample{"many", err, api.ErrDanger, nil, places, strings.Join(places, ": ") + ": error 101"}.tells(t)
	sample{"many from outside", other, api.ErrOther, &api.Need{Lo: "lo", Hi: "hi"}, nil, "need"}.tells(t)
	sample{"many ahead of a Fault", fault.Wrap("a", several{other, fault.Wrap("b", err)}), api.ErrDanger, &api.Need{Lo: "lo", Hi: "hi"}, append([]string{"a", "b"}, places...), "a: b: " + strings.Join(places, ": ") + ": need"}.tells(t)
}

// P2.4
func TestNothingStaysNothing(t *testing.T) {
	none := fault.Wrap("a", fault.Wrap("b", fault.First(nil, fault.Of(api.OK), fault.Wrap("c", nil))))
	if none != nil {
		t.Fatalf("of nothing there came %#v", none)
	}
	sample{"nothing", none, api.OK, nil, nil, ""}.tells(t)
	if !fault.Is(none, api.OK) || fault.Is(none, api.ErrOther) {
		t.Error("nothing has another Code than OK")
	}
}

// P1: methods of errors from outside may panic, and calls of fault may not. What stands outside of them is told.
func TestNoCallPanics(t *testing.T) {
	var nobody *broken
	err := several{fault.Wrap("a", fault.Of(api.ErrForm)), nobody, fault.Wrap("b", fault.Ask("x", "y"))}
	if code := fault.Code(err); code != api.ErrForm || !fault.Is(err, api.ErrForm) {
		t.Errorf("Code = %d, want %d", code, api.ErrForm)
	}
	if trail := fault.Trail(err); len(trail) == 0 || trail[0] != "a" {
		t.Errorf("Trail = %q, want a first", trail)
	}
	if text := fault.Text(fault.Wrap("o", nobody)); text != "o: error 20" {
		t.Errorf("Text = %q", text)
	}
	if fault.First(nil, nobody) != error(nobody) {
		t.Error("First is another one")
	}
}
