package fault_test

import (
	"errors"
	"fmt"
	"slices"
	"testing"

	"conductor/api"
	"conductor/fault"
)

// outside is an error that no call of fault made, and that may wrap another one.
type outside struct{ err error }

func (o outside) Error() string { return "outside" }
func (o outside) Unwrap() error { return o.err }

// several is one that wraps more than one, and that is not to be held against itself by ==.
type several []error

func (s several) Error() string   { return "several" }
func (s several) Unwrap() []error { return s }

// broken is one whose methods panic.
type broken struct{ err error }

func (b *broken) Error() string { panic("Error is not to be called") }
func (b *broken) Unwrap() error { return b.err }

// claims is one that wraps nothing, but answers errors.As by itself.
type claims struct{ code api.Errno }

func (c claims) Error() string { return "claims" }
func (c claims) As(target any) bool {
	switch x := target.(type) {
	case *api.Errno:
		*x = c.code
		return true
	case **fault.Fault:
		*x = &fault.Fault{Place: "claimed"}
		return true
	}
	return false
}

// sample is an error, and all that is told of it.
type sample struct {
	name  string
	err   error
	code  api.Errno
	need  *api.Need
	trail []string
	text  string
}

// numbers are codes of api, and such as api does not name.
func numbers() []api.Errno {
	return []api.Errno{api.ErrArg, api.ErrForm, api.ErrOver, api.ErrRest, api.ErrOther, api.ErrName, api.ErrConflict, api.ErrNum, 12345, -1, -1 << 63, 1<<63 - 1}
}

func samples() []sample {
	form, long := fault.Of(api.ErrForm), fault.Of(api.ErrLong)
	ask := fault.Ask("a", "b")
	ab := &api.Need{Lo: "a", Hi: "b"}
	var noFault *fault.Fault
	var noBroken *broken
	need, number := api.Need{Lo: "p"}, api.ErrForm
	return []sample{
		{"nil", nil, api.OK, nil, nil, ""},
		{"a number", form, api.ErrForm, nil, nil, "error 8"},
		{"a great number", api.Errno(12345), 12345, nil, nil, "error 12345"},
		{"a number below 0", api.Errno(-7), -7, nil, nil, "error -7"},
		{"OK that is made an error", api.OK, api.OK, nil, nil, "error 0"},
		{"ErrOther itself", api.ErrOther, api.ErrOther, nil, nil, "error 20"},
		{"a need", ask, api.ErrOther, ab, nil, "need"},
		{"an empty need", fault.Ask("", ""), api.ErrOther, &api.Need{}, nil, "need"},
		{"neither number nor need", errors.New("error 8"), api.ErrOther, nil, nil, "error 20"},
		{"the chapter's example", fault.Wrap("deploy", fault.Wrap("node 3", form)), api.ErrForm, nil, []string{"deploy", "node 3"}, "deploy: node 3: error 8"},
		{"a need with a place", fault.Wrap("read", ask), api.ErrOther, ab, []string{"read"}, "read: need"},
		{"neither, with a place", fault.Wrap("read", errors.New("x")), api.ErrOther, nil, []string{"read"}, "read: error 20"},
		{"OK with a place", fault.Wrap("x", api.OK), api.OK, nil, []string{"x"}, "x: error 0"},
		{"a place that is empty", fault.Wrap("", form), api.ErrForm, nil, []string{""}, ": error 8"},
		{"places that are alike", fault.Wrap("x", fault.Wrap("x", form)), api.ErrForm, nil, []string{"x", "x"}, "x: x: error 8"},
		{"places of any bytes", fault.Wrap(": ", fault.Wrap("\xff\x00", form)), api.ErrForm, nil, []string{": ", "\xff\x00"}, ": : \xff\x00: error 8"},
		{"outside around all", fmt.Errorf("1: %w", outside{fault.Wrap("a", form)}), api.ErrForm, nil, []string{"a"}, "a: error 8"},
		{"outside between", fault.Wrap("a", outside{fmt.Errorf("%w", fault.Wrap("b", outside{form}))}), api.ErrForm, nil, []string{"a", "b"}, "a: b: error 8"},
		{"outside around a need", outside{fault.Wrap("a", outside{ask})}, api.ErrOther, ab, []string{"a"}, "a: need"},
		{"outside around nothing", outside{}, api.ErrOther, nil, nil, "error 20"},
		{"a Fault of nothing", &fault.Fault{}, api.ErrOther, nil, []string{""}, ": error 20"},
		{"a Fault of a place alone", &fault.Fault{Place: "a"}, api.ErrOther, nil, []string{"a"}, "a: error 20"},
		{"a Fault that is nil", noFault, api.ErrOther, nil, nil, "error 20"},
		{"a nil one with a place", fault.Wrap("a", noFault), api.ErrOther, nil, []string{"a"}, "a: error 20"},
		{"pointers at what counts", fault.Wrap("a", errors.Join(&need, &number)), api.ErrOther, nil, []string{"a"}, "a: error 20"},
		{"joined", errors.Join(fault.Wrap("a", fault.Wrap("b", form)), nil, fault.Wrap("c", long)), api.ErrForm, nil, []string{"a", "b", "c"}, "a: b: c: error 8"},
		{"joined, with a place", fault.Wrap("o", outside{several{errors.New("x"), fault.Wrap("a", long), form}}), api.ErrLong, nil, []string{"o", "a"}, "o: a: error 3"},
		{"joined within what is joined", several{several{fault.Wrap("a", errors.Join(outside{fault.Wrap("b", form)})), long}, fault.Wrap("c", ask)}, api.ErrForm, ab, []string{"a", "b", "c"}, "a: b: c: need"},
		{"joined behind a nil one", several{nil, noFault, fault.Wrap("a", noFault), fault.Wrap("b", form)}, api.ErrForm, nil, []string{"a", "b"}, "a: b: error 8"},
		{"a number and a need", fmt.Errorf("%w %w", form, ask), api.ErrForm, ab, nil, "need"},
		{"one that answers by itself", fault.Wrap("a", claims{api.ErrZero}), api.ErrZero, nil, []string{"a"}, "a: error 62"},
		{"one that answers by itself, ahead of a Fault", several{claims{api.ErrZero}, fault.Wrap("b", form)}, api.ErrZero, nil, []string{"b"}, "b: error 62"},
		{"several of none", several{}, api.ErrOther, nil, nil, "error 20"},
		{"one that panics", noBroken, api.ErrOther, nil, nil, "error 20"},
		{"one that panics, with places", fault.Wrap("a", outside{fault.Wrap("b", noBroken)}), api.ErrOther, nil, []string{"a", "b"}, "a: b: error 20"},
		{"one whose text panics", fault.Wrap("a", &broken{fault.Wrap("b", form)}), api.ErrForm, nil, []string{"a", "b"}, "a: b: error 8"},
	}
}

// tells checks all that is told of an error.
func (x sample) tells(t *testing.T) {
	t.Helper()
	if code := fault.Code(x.err); code != x.code {
		t.Errorf("%s: Code = %d, want %d", x.name, code, x.code)
	}
	for _, code := range append(numbers(), x.code, api.OK, api.ErrLong) {
		if is := fault.Is(x.err, code); is != (code == x.code) {
			t.Errorf("%s: Is(%d) = %t, of the Code %d", x.name, code, is, x.code)
		}
	}
	need, asked := fault.Needed(x.err)
	if asked != (x.need != nil) || asked && need != *x.need || !asked && need != (api.Need{}) {
		t.Errorf("%s: Needed = %q, %t, want %v", x.name, need, asked, x.need)
	}
	if trail := fault.Trail(x.err); !slices.Equal(trail, x.trail) {
		t.Errorf("%s: Trail = %q, want %q", x.name, trail, x.trail)
	}
	if text := fault.Text(x.err); text != x.text {
		t.Errorf("%s: Text = %q, want %q", x.name, text, x.text)
	}
}
