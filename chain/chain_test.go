package chain_test

import (
	"math"
	"testing"

	"conductor/api"
	"conductor/chain"
)

// P7.1
func TestRight(t *testing.T) {
	for _, x := range []struct {
		l    []api.Version
		want bool
	}{
		{nil, true},
		{list(), true},
		{list(has(1, "x")), true},
		{list(has(1, "")), true},
		{list(gone(1)), true},
		{list(api.Version{At: 1}), true},
		{list(api.Version{At: 1, Gone: true, Data: []byte{}}), true},
		{list(has(last, "x")), true},
		{list(has(1, "x"), has(2, "x")), true},
		{list(gone(1), gone(2), gone(3)), true},
		{list(has(2, "x"), gone(5), has(7, "yy")), true},
		{list(has(last-1, "x"), gone(last)), true},
		{list(has(1<<63-1, "x"), has(1<<63, "x")), true},
		// a time below 1
		{list(has(0, "x")), false},
		{list(api.Version{}), false},
		{list(gone(0)), false},
		{list(has(0, "x"), has(1, "x")), false},
		{list(has(1, "x"), has(0, "x")), false},
		// not rising, or not strictly
		{list(has(1, "x"), has(1, "x")), false},
		{list(has(1, "x"), gone(1)), false},
		{list(has(2, "x"), has(1, "x")), false},
		{list(has(1, "x"), has(3, "x"), has(2, "x")), false},
		{list(has(1, "x"), has(3, "x"), has(3, "x")), false},
		{list(has(2, "x"), has(1, "x"), has(3, "x")), false},
		{list(has(last, "x"), has(last, "x")), false},
		{list(has(last, "x"), has(1, "x")), false},
		{list(has(1<<63, "x"), has(1<<63-1, "x")), false},
		// Gone, and Data
		{list(goneWith(1, "x")), false},
		{list(goneWith(1, "\x00")), false},
		{list(has(1, "x"), goneWith(2, "x"), has(3, "x")), false},
		{list(has(1, "x"), has(2, "x"), goneWith(3, "x")), false},
	} {
		if got := chain.Right(x.l); got != x.want {
			t.Errorf("Right(%v) = %t", x.l, got)
		}
	}
	for _, l := range lists() {
		if got := chain.Right(l); got != right(l) {
			t.Errorf("Right(%v) = %t", l, got)
		}
	}
}

// P7.1
func TestSame(t *testing.T) {
	for _, x := range []struct {
		a, b []api.Version
		want bool
	}{
		{nil, nil, true},
		{nil, list(), true},
		{list(has(1, "x")), list(has(1, "x")), true},
		{list(api.Version{At: 1}), list(api.Version{At: 1, Data: []byte{}}), true},
		{list(gone(1)), list(api.Version{At: 1, Gone: true, Data: []byte{}}), true},
		{list(has(2, "x"), gone(5)), list(has(2, "x"), gone(5)), true},
		{nil, list(has(1, "x")), false},
		{nil, list(api.Version{}), false},
		{list(has(1, "x")), list(has(2, "x")), false},
		{list(has(1, "x")), list(has(1, "y")), false},
		{list(has(1, "x")), list(has(1, "xx")), false},
		{list(has(1, "")), list(gone(1)), false},
		{list(has(1, "x"), has(2, "x")), list(has(1, "x")), false},
		{list(has(1, "x"), has(2, "x")), list(has(2, "x")), false},
		{list(has(1, "x"), has(2, "x")), list(has(1, "x"), has(2, "y")), false},
		{list(has(1, "x"), has(2, "x")), list(has(1, "x"), has(3, "x")), false},
		{list(has(1, "x"), has(2, "x")), list(has(1, "y"), has(2, "x")), false},
		// of others
		{list(has(2, "x"), has(1, "y")), list(has(2, "x"), has(1, "y")), true},
		{list(has(2, "x"), has(1, "y")), list(has(1, "y"), has(2, "x")), false},
		{list(goneWith(0, "x")), list(goneWith(0, "x")), true},
		{list(goneWith(1, "x")), list(goneWith(1, "y")), false},
		{list(goneWith(1, "x")), list(gone(1)), false},
		{list(goneWith(1, "x")), list(has(1, "x")), false},
	} {
		if chain.Same(x.a, x.b) != x.want || chain.Same(x.b, x.a) != x.want {
			t.Errorf("Same(%v, %v) is not %t", x.a, x.b, x.want)
		}
	}
	all := lists()[:1+20+400]
	for _, a := range all {
		if !chain.Same(a, a) || !chain.Same(a, whole(a)) {
			t.Errorf("%v is not the same as itself", a)
		}
		for _, b := range all {
			if got := chain.Same(a, b); got != same(a, b) {
				t.Errorf("Same(%v, %v) = %t", a, b, got)
			}
		}
	}
}

// P7.1
func TestSize(t *testing.T) {
	for _, x := range []struct {
		l    []api.Version
		want int
	}{
		{nil, 0},
		{list(), 0},
		{list(gone(1)), 0},
		{list(has(1, "")), 0},
		{list(has(1, "x")), 1},
		{list(has(1, "x"), has(2, "x")), 2},
		{list(has(2, "x"), gone(5), has(7, "yy")), 3},
		{list(has(1, "\x00\x00\x00")), 3},
		{list(api.Version{At: 1, Data: make([]byte, 4096, 5000)}, has(2, "x")), 4097},
		// of others
		{list(goneWith(1, "xyz")), 3},
		{list(has(2, "x"), goneWith(0, "yy"), has(2, "zzz")), 6},
	} {
		if got := chain.Size(x.l); got != x.want {
			t.Errorf("Size(%v) = %d, want %d", x.l, got, x.want)
		}
	}
}

// isFound asks of a time by Find and by Get.
func isFound(t *testing.T, l []api.Version, at uint64) {
	t.Helper()
	want, is := api.Version{}, false
	if i := found(l, at); i >= 0 {
		want, is = l[i], true
	}
	if v, got := chain.Find(l, at); got != is || !same(list(v), list(want)) {
		t.Errorf("Find(%v, %d) = %v, %t", l, at, v, got)
	}
	there := is && !want.Gone
	b, got := chain.Get(l, at)
	if got != there || there && string(b) != string(want.Data) || !there && len(b) > 0 {
		t.Errorf("Get(%v, %d) = %q, %t", l, at, b, got)
	}
}

// P7.2
func TestFind(t *testing.T) {
	l := list(has(2, "x"), gone(5), has(7, ""), has(8, "yy"))
	for at, want := range []struct {
		v  api.Version
		is bool
	}{{}, {}, {has(2, "x"), true}, {has(2, "x"), true}, {has(2, "x"), true}, {gone(5), true}, {gone(5), true}, {has(7, ""), true}, {has(8, "yy"), true}, {has(8, "yy"), true}} {
		for range 2 { // R5
			if v, is := chain.Find(l, uint64(at)); is != want.is || !same(list(v), list(want.v)) {
				t.Errorf("Find at %d = %v, %t", at, v, is)
			}
		}
	}
	if v, is := chain.Find(nil, 5); is || !same(list(v), list(api.Version{})) {
		t.Errorf("of none %v, %t is found", v, is)
	}
}

// P7.2: the chapter's example, and what is there, but empty.
func TestGet(t *testing.T) {
	l := list(has(2, "x"), gone(5), has(7, ""), api.Version{At: 8}, gone(last))
	for at, want := range map[uint64]string{0: "-", 1: "-", 2: "+x", 3: "+x", 4: "+x", 5: "-", 6: "-", 7: "+", 8: "+", 9: "+", last - 1: "+", last: "-"} {
		if got := asked(l, at); got != want {
			t.Errorf("Get at %d: %s, want %s", at, got, want)
		}
	}
	if got := asked(nil, last); got != "-" {
		t.Errorf("of none there is %s", got)
	}
}

// P7.2
func TestFindOfMany(t *testing.T) {
	for _, l := range chains() {
		for _, at := range times() {
			isFound(t, l, at)
		}
	}
}

// P7.2: of each length, at each place.
func TestFindOfLong(t *testing.T) {
	var l []api.Version
	for n := range uint64(130) {
		for at := range 3*n + 4 {
			isFound(t, l, at)
		}
		v := has(3*n+2, string(rune('a'+n)))
		if n%4 == 3 {
			v = gone(3*n + 2)
		}
		l = append(l, v)
	}
}

// P7.2: a chain as long as a store lets it be is asked by halves, so that each asking is short.
func TestFindByHalves(t *testing.T) {
	l := make([]api.Version, api.MaxRoom)
	for i := range l {
		l[i].At = uint64(2*i + 1)
	}
	for i := range l {
		at := uint64(2*i + 1)
		if v, is := chain.Find(l, at); !is || v.At != at {
			t.Fatalf("at %d is found %v, %t", at, v, is)
		}
		if v, is := chain.Find(l, at+1); !is || v.At != at {
			t.Fatalf("at %d is found %v, %t", at+1, v, is)
		}
	}
}

// P7.2
func TestLast(t *testing.T) {
	for _, x := range []struct {
		l    []api.Version
		want uint64
	}{
		{nil, 0},
		{list(), 0},
		{list(has(1, "x")), 1},
		{list(gone(3)), 3},
		{list(has(2, "x"), gone(5)), 5},
		{list(has(2, "x"), gone(5), has(7, "yy")), 7},
		{list(has(2, "x"), gone(last)), last},
	} {
		if got := chain.Last(x.l); got != x.want {
			t.Errorf("Last(%v) = %d, want %d", x.l, got, x.want)
		}
	}
}

// P7.1, P1: of what is no chain the calls do not panic; and what is in order nowhere, or backward, ends.
func TestOthers(t *testing.T) {
	all := lists()
	var back, up []api.Version
	for i := range uint64(100) {
		back = append(back, has(100-i, "x"))
		up = append(up, goneWith(i*i%7, "x"))
	}
	all = append(all, back, up, make([]api.Version, 1000))
	for _, l := range all {
		for _, at := range []uint64{0, 1, 2, 50, math.MaxInt64, last - 1, last} {
			chain.Find(l, at)
			chain.Get(l, at)
			chain.Trim(l, at)
		}
		chain.Last(l)
		chain.Size(l)
		chain.Same(l, all[7])
	}
}
