package ssi_test

import (
	"math"
	"testing"

	"conductor/api"
	"conductor/span"
	"conductor/ssi"
)

// P10.1
func TestRight(t *testing.T) {
	two := at("ac")
	touching := list(to("a", "b"), to("b", "c"))
	for _, x := range []struct {
		r    api.Record
		want bool
	}{
		{api.Record{First: 1, Last: 1}, true},
		{api.Record{First: 1, Last: 1, Began: 1}, true},
		{api.Record{First: 1, Last: 2}, true},
		{api.Record{First: 2, Last: 2, Began: 2}, true},
		{api.Record{First: last, Last: last, Began: last, Out: last}, true},
		{api.Record{First: 1, Last: last}, true},
		{api.Record{First: 2, Last: 2, Out: 1}, true},
		{api.Record{First: 2, Last: 2, Out: 9}, true}, // of Out nothing is asked
		{api.Record{First: 2, Last: 3, Began: 3}, true},
		{api.Record{First: 1, Last: 1, Reads: two, Writes: two}, true},
		{api.Record{First: 1, Last: 1, Reads: list(to("", "")), Writes: list(to("b", ""))}, true},
		{api.Record{First: 1, Last: 1, Reads: list(), Writes: list()}, true},
		// wrong times
		{api.Record{}, false},
		{api.Record{Last: 1}, false},
		{api.Record{First: 1}, false},
		{api.Record{First: 2, Last: 1}, false},
		{api.Record{First: last, Last: last - 1}, false},
		{api.Record{First: 1, Last: 1, Began: 2}, false},
		{api.Record{First: 1, Last: last - 1, Began: last}, false},
		// lists that are not normal
		{api.Record{First: 1, Last: 1, Reads: touching}, false},
		{api.Record{First: 1, Last: 1, Writes: touching}, false},
		{api.Record{First: 1, Last: 1, Reads: list(to("b", "a")), Writes: two}, false},
		{api.Record{First: 1, Last: 1, Reads: two, Writes: list(to("b", "b"))}, false},
		{api.Record{First: 1, Last: 1, Reads: list(span.Point("b"), span.Point("a"))}, false},
		{api.Record{First: 1, Last: 1, Writes: list(to("a", ""), to("b", "c"))}, false},
	} {
		for range 2 { // R5
			if got := ssi.Right(x.r); got != x.want {
				t.Errorf("Right(%+v) = %t", x.r, got)
			}
		}
	}
	for seed := range 4000 {
		c := chance(seed)
		r := c.any()
		want := r.First > 0 && r.Last >= r.First && r.Last >= r.Began && span.Normal(r.Reads) && span.Normal(r.Writes)
		if got := ssi.Right(r); got != want {
			t.Errorf("Right(%+v) = %t", r, got)
		}
	}
}

// P10.3
func TestJoin(t *testing.T) {
	a := api.Record{First: 1, Last: 2, Began: 1, Out: 3, Reads: at("a"), Writes: at("a")}
	b := api.Record{First: 3, Last: 4, Began: 2, Reads: at("c"), Writes: at("b")}
	for _, x := range []struct {
		a, b  api.Record
		marks int
		want  api.Record
	}{
		{a, b, 2, api.Record{First: 1, Last: 4, Began: 2, Out: 3, Reads: at("ac"), Writes: at("ab")}},
		{a, b, math.MaxInt, api.Record{First: 1, Last: 4, Began: 2, Out: 3, Reads: at("ac"), Writes: at("ab")}},
		{a, b, 1, api.Record{First: 1, Last: 4, Began: 2, Out: 3, Reads: list(to("a", "c\x00")), Writes: list(to("a", "b\x00"))}},
		{a, b, 0, api.Record{First: 1, Last: 4, Began: 2, Out: 3, Reads: list(to("a", "c\x00")), Writes: list(to("a", "b\x00"))}},
		{a, b, math.MinInt, api.Record{First: 1, Last: 4, Began: 2, Out: 3, Reads: list(to("a", "c\x00")), Writes: list(to("a", "b\x00"))}},
		{a, a, 1, a},
		{a, api.Record{}, 9, api.Record{Last: 2, Began: 1, Out: 3, Reads: at("a"), Writes: at("a")}},
		{api.Record{}, api.Record{}, 9, api.Record{}},
		// of the Outs the lesser one that is not 0
		{out(2, a), out(3, a), 9, out(2, a)},
		{out(last, a), out(last-1, a), 9, out(last-1, a)},
		{out(0, a), out(last, a), 9, out(last, a)},
		{out(0, a), out(0, a), 9, out(0, a)},
		// times of which each comes from another one
		{api.Record{First: 5, Last: 7, Began: 1}, api.Record{First: 4, Last: 6, Began: 3}, 1, api.Record{First: 4, Last: 7, Began: 3}},
		{api.Record{First: last, Last: 0}, api.Record{First: 0, Last: last, Began: last}, 1, api.Record{First: 0, Last: last, Began: last}},
		// reads and writes stay apart, and each is fit by itself
		{done(1, 1, "ac", "b"), done(1, 1, "e", ""), 2, api.Record{First: 1, Last: 1, Began: 1, Reads: list(to("a", "c\x00"), span.Point("e")), Writes: at("b")}},
		{done(1, 1, "b", "ac"), done(1, 1, "", "e"), 2, api.Record{First: 1, Last: 1, Began: 1, Reads: at("b"), Writes: list(to("a", "c\x00"), span.Point("e"))}},
		// lists that are not normal
		{api.Record{Reads: list(to("c", "d"), to("a", "b"), to("z", "y"))}, api.Record{Reads: list(to("b", "c"))}, 9, api.Record{Reads: list(to("a", "d"))}},
		{api.Record{Writes: list(to("b", "a"))}, api.Record{Writes: list(to("c", "c"))}, 0, api.Record{}},
	} {
		for range 2 { // R5
			isRecords(t, "Join", records(ssi.Join(x.a, x.b, x.marks)), records(x.want), x.a, x.b, x.marks)
			isRecords(t, "Join", records(ssi.Join(x.b, x.a, x.marks)), records(x.want), x.b, x.a, x.marks)
		}
	}
	for seed := range 4000 {
		c := chance(seed)
		a, b, marks := c.any(), c.any(), c.of(6)-1
		isRecords(t, "Join", records(ssi.Join(a, b, marks)), records(joined(a, b, marks)), a, b, marks)
	}
}

// P10.3: what is right stays so when it is joined.
func TestJoinedRight(t *testing.T) {
	for seed := range 2000 {
		c := chance(seed)
		l := c.history(8, "abcdef")
		for _, n := range []int{0, 1, 2, 5} {
			for _, r := range ssi.Fit(l, n, 1+c.of(4)) {
				if !ssi.Right(r) {
					t.Fatalf("%+v of %+v", r, l)
				}
			}
		}
	}
}

// P10.3
func TestForget(t *testing.T) {
	a, b, c := done(1, 0, "a", "b"), done(2, 0, "b", ""), over(1, 5, done(3, 0, "", "a"))
	far, wrong := done(last, 0, "", ""), api.Record{First: 7, Began: 8, Reads: list(to("b", "a"))}
	for _, x := range []struct {
		l    []api.Record
		low  uint64
		want []api.Record
	}{
		{nil, 0, nil},
		{records(), 5, nil},
		{records(a, b, c), 0, records(a, b, c)},
		{records(a, b, c), 1, records(b, c)},
		{records(a, b, c), 2, records(c)}, // by its Last, not by its First
		{records(a, b, c), 4, records(c)},
		{records(a, b, c), 5, nil},
		{records(a, b, c), last, nil},
		{records(c, b, a), 1, records(c, b)},
		{records(b, c, b, a, b), 1, records(b, c, b, b)},
		{records(far, a), last - 1, records(far)},
		{records(far, a), last, nil},
		{records(wrong, a, wrong), 0, records(a)}, // its Last is 0
		{records(over(9, 2, wrong)), 1, records(over(9, 2, wrong))},
	} {
		for range 2 { // R5
			isRecords(t, "Forget", ssi.Forget(x.l, x.low), x.want, x.l, x.low)
		}
	}
	for seed := range 2000 {
		c := chance(seed)
		l, low := c.anyOf(6), c.any().Last
		var want []api.Record
		for _, r := range l {
			if r.Last > low {
				want = append(want, r)
			}
		}
		isRecords(t, "Forget", ssi.Forget(l, low), want, l, low)
	}
}

// P10.3
func TestFit(t *testing.T) {
	a, b, c := done(1, 0, "a", "b"), done(2, 1, "c", "d"), done(3, 2, "e", "f")
	ab := api.Record{First: 1, Last: 2, Began: 1, Reads: at("ac"), Writes: at("bd")}
	abc := api.Record{First: 1, Last: 3, Began: 2, Reads: at("ace"), Writes: at("bdf")}
	few := api.Record{First: 1, Last: 3, Began: 2, Reads: list(to("a", "c\x00"), span.Point("e")), Writes: list(to("b", "d\x00"), span.Point("f"))}
	wrong := api.Record{Reads: list(to("b", "a")), Writes: list(to("b", "c"), to("a", "b"))}
	for _, x := range []struct {
		l        []api.Record
		n, marks int
		want     []api.Record
	}{
		{nil, 0, 0, nil},
		{nil, -1, 9, nil},
		{records(), math.MinInt, math.MinInt, nil},
		{records(a, b, c), 4, 9, records(a, b, c)},
		{records(a, b, c), 3, 9, records(a, b, c)},
		{records(a, b, c), math.MaxInt, 9, records(a, b, c)},
		{records(a, b, c), 2, 9, records(ab, c)},
		{records(a, b, c), 1, 9, records(abc)},
		{records(a, b, c), 0, 9, records(abc)},
		{records(a, b, c), -1, 9, records(abc)},
		{records(a, b, c), math.MinInt, math.MaxInt, records(abc)},
		{records(a, b, c), 1, 2, records(few)},
		// what is not joined stays as it is, with more marks than there may be, right or not
		{records(ab), 0, 1, records(ab)},
		{records(a, b, ab), 2, 1, records(ssi.Join(a, b, 1), ab)},
		{records(wrong), 0, 9, records(wrong)},
		{records(a, b, wrong), 2, 9, records(ab, wrong)},
		{records(wrong, wrong), 1, 9, records(api.Record{Writes: list(to("a", "c"))})},
		// what is fit early covers more: all of c lies between a and e then
		{records(done(1, 0, "ac", ""), done(1, 0, "e", ""), api.Record{First: 1, Last: 1, Reads: list(to("c", "e"))}), 1, 2,
			records(api.Record{First: 1, Last: 1, Reads: list(to("a", "e\x00"))})},
	} {
		for range 2 { // R5
			isRecords(t, "Fit", ssi.Fit(x.l, x.n, x.marks), x.want, x.l, x.n, x.marks)
		}
	}
	for seed := range 4000 {
		c := chance(seed)
		l, n, marks := c.anyOf(7), c.of(9)-1, c.of(6)-1
		isRecords(t, "Fit", ssi.Fit(l, n, marks), fitted(l, n, marks), l, n, marks)
		l = c.history(7, "abcdefgh")
		isRecords(t, "Fit", ssi.Fit(l, n, marks), fitted(l, n, marks), l, n, marks)
	}
}

// P10.3
func TestSame(t *testing.T) {
	a := api.Record{First: 1, Last: 2, Began: 1, Out: 3, Reads: at("a"), Writes: at("b")}
	other := []func(r *api.Record){
		func(r *api.Record) { r.First = 2 },
		func(r *api.Record) { r.Last = 3 },
		func(r *api.Record) { r.Began = 0 },
		func(r *api.Record) { r.Out = 0 },
		func(r *api.Record) { r.Reads = nil },
		func(r *api.Record) { r.Reads = at("ab") },
		func(r *api.Record) { r.Reads = list(to("a", "a\x01")) },
		func(r *api.Record) { r.Writes = nil },
		func(r *api.Record) { r.Writes = at("a") },
		func(r *api.Record) { r.Reads, r.Writes = r.Writes, r.Reads },
	}
	if !ssi.Same(nil, nil) || !ssi.Same(nil, records()) || !ssi.Same(records(a), records(a)) || !ssi.Same(records(a, a), records(a, a)) {
		t.Error("what is the same")
	}
	if !ssi.Same(records(api.Record{Reads: list()}), records(api.Record{Writes: list()})) {
		t.Error("a list that is empty, and one that is nil") // R7
	}
	if ssi.Same(nil, records(a)) || ssi.Same(records(a), nil) || ssi.Same(records(a, a), records(a)) || ssi.Same(records(a), records(a, api.Record{})) {
		t.Error("one that is missing")
	}
	for i, change := range other {
		b := a
		change(&b)
		if ssi.Same(records(a), records(b)) || ssi.Same(records(b, a), records(a, a)) || ssi.Same(records(a, a), records(a, b)) {
			t.Errorf("%d: %+v is the same as %+v", i, a, b)
		}
		if ssi.Same(records(a, b), records(b, a)) {
			t.Errorf("%d: in another order", i)
		}
		if !ssi.Same(records(a, b), records(a, b)) {
			t.Errorf("%d: %+v is not the same", i, b)
		}
	}
	in, turned := api.Record{Reads: list(to("a", "b"), to("c", "d"))}, api.Record{Reads: list(to("c", "d"), to("a", "b"))}
	if ssi.Same(records(in), records(turned)) {
		t.Error("stretches in another order") // span.Same looks at them one by one
	}
	for seed := range 4000 {
		c := chance(seed)
		a, b := c.anyOf(2), c.anyOf(2)
		if ssi.Same(a, b) != isSame(a, b) || !ssi.Same(a, append(records(), a...)) {
			t.Errorf("Same(%+v, %+v) = %t", a, b, !isSame(a, b))
		}
	}
}
