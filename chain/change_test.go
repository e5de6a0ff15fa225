package chain_test

import (
	"testing"

	"conductor/api"
	"conductor/chain"
)

// P7.3
func TestPut(t *testing.T) {
	l := list(has(2, "x"), gone(5))
	for _, x := range []struct {
		l   []api.Version
		v   api.Version
		err api.Errno
	}{
		{nil, has(1, "x"), api.OK},
		{list(), gone(1), api.OK},
		{nil, has(last, ""), api.OK},
		{nil, api.Version{At: 1, Gone: true, Data: []byte{}}, api.OK},
		{l, has(6, "x"), api.OK},
		{l, has(7, "yy"), api.OK},
		{l, gone(6), api.OK},
		{l, api.Version{At: 6}, api.OK},
		{l, has(last, "x"), api.OK},
		{list(has(last-1, "x")), gone(last), api.OK},
		// not above the last one
		{l, has(5, "x"), api.ErrOrder},
		{l, gone(5), api.ErrOrder},
		{l, has(4, "x"), api.ErrOrder},
		{l, has(2, "x"), api.ErrOrder},
		{l, has(1, "x"), api.ErrOrder},
		{list(has(last, "x")), has(last, "x"), api.ErrOrder},
		{list(has(last, "x")), has(1, "x"), api.ErrOrder},
		// what is no chain by itself
		{nil, api.Version{}, api.ErrArg},
		{nil, has(0, "x"), api.ErrArg},
		{nil, gone(0), api.ErrArg},
		{nil, goneWith(1, "x"), api.ErrArg},
		{l, goneWith(6, "x"), api.ErrArg},
		// behind what is no chain
		{list(has(0, "x")), has(1, "x"), api.ErrArg},
		{list(has(1, "x"), has(1, "x")), has(2, "x"), api.ErrArg},
		{list(has(2, "x"), has(1, "x")), has(3, "x"), api.ErrArg},
		{list(goneWith(1, "x")), has(2, "x"), api.ErrArg},
		{list(has(1, "x"), goneWith(2, "x"), has(3, "x")), has(4, "x"), api.ErrArg},
		// both: ErrArg is named first
		{l, has(0, "x"), api.ErrArg},
		{l, goneWith(5, "x"), api.ErrArg},
		{l, goneWith(1, "x"), api.ErrArg},
		{list(has(2, "x"), has(2, "x")), has(2, "x"), api.ErrArg},
		{list(has(2, "x"), has(1, "x")), has(1, "x"), api.ErrArg},
		{list(goneWith(3, "x")), has(1, "x"), api.ErrArg},
		{list(has(0, "x")), has(0, "x"), api.ErrArg},
	} {
		for range 2 { // R5
			isPut(t, x.l, x.v, x.err)
		}
	}
}

// isPut tells whether v is put behind l, and nothing else has changed; or nothing, with an error.
func isPut(t *testing.T, l []api.Version, v api.Version, err api.Errno) {
	t.Helper()
	ahead := whole(l)
	var want []api.Version
	if err == api.OK {
		want = append(whole(l), v)
	}
	got, code := chain.Put(l, v)
	if code != err || !same(got, want) {
		t.Errorf("Put(%v, %v) = %v, %d, want %v, %d", l, v, got, code, want, err)
	}
	if !same(l, ahead) {
		t.Errorf("Put(%v, %v) leaves %v", ahead, v, l)
	}
}

// P7.3
func TestPutOfMany(t *testing.T) {
	for _, l := range lists()[:1+20+400] {
		for _, v := range versions() {
			err := api.OK
			if !right(l) || !right(list(v)) {
				err = api.ErrArg
			} else if !right(append(whole(l), v)) {
				err = api.ErrOrder
			}
			isPut(t, l, v, err)
		}
	}
	for _, l := range chains() {
		for _, at := range times() {
			err := api.OK
			if at == 0 {
				err = api.ErrArg
			} else if len(l) > 0 && at <= l[len(l)-1].At {
				err = api.ErrOrder
			}
			isPut(t, l, has(at, "z"), err)
			isPut(t, l, gone(at), err)
		}
	}
}

// isTrimmed tells whether want is left of l, and l as it was.
func isTrimmed(t *testing.T, l []api.Version, low uint64, want []api.Version) {
	t.Helper()
	ahead := whole(l)
	if got := chain.Trim(l, low); !same(got, want) {
		t.Errorf("Trim(%v, %d) = %v, want %v", l, low, got, want)
	}
	if !same(l, ahead) {
		t.Errorf("Trim(%v, %d) leaves %v", ahead, low, l)
	}
}

// P7.4
func TestTrim(t *testing.T) {
	isTrimmed(t, nil, 0, nil)
	isTrimmed(t, nil, last, nil)
	isTrimmed(t, list(), 1, nil)
	isTrimmed(t, list(has(2, "x"), gone(5)), 5, nil) // the chapter's example
	l := list(has(2, "x"), gone(5), has(7, "yy"), has(8, ""))
	for low, want := range [][]api.Version{l, l, l, l, l, l[2:], l[2:], l[2:], l[3:], l[3:]} {
		isTrimmed(t, l, uint64(low), want)
	}
	isTrimmed(t, l, last, l[3:])
	isTrimmed(t, list(has(1, "x"), gone(last)), last-1, list(has(1, "x"), gone(last)))
	isTrimmed(t, list(has(1, "x"), gone(last)), last, nil)
	isTrimmed(t, list(has(1, "x"), has(last, "y")), last, list(has(last, "y")))
	// one that is Gone stays, as long as it is above low
	isTrimmed(t, list(gone(3), gone(4)), 2, list(gone(3), gone(4)))
	isTrimmed(t, list(gone(3), gone(4)), 3, list(gone(4)))
	isTrimmed(t, list(gone(3), gone(4)), 4, nil)
}

// P7.4
func TestTrimOfMany(t *testing.T) {
	for _, l := range chains() {
		for _, low := range times() {
			isTrimmed(t, l, low, trimmed(l, low))
		}
	}
}
