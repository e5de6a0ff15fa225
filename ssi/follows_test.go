package ssi_test

import (
	"slices"
	"testing"

	"conductor/api"
	"conductor/span"
	"conductor/ssi"
)

// soon lays times that Judge tells in order: 0 is none, which is later than any.
func soon(n uint64) uint64 {
	return n - 1
}

// neverLess tells whether what is judged OK with more is so with less, with a time that is not below.
func neverLess(t *testing.T, more []api.Record, most api.Record, less []api.Record, least api.Record) {
	t.Helper()
	n, err := ssi.Judge(more, most)
	if err != api.OK {
		return
	}
	if other, err := ssi.Judge(less, least); err != api.OK || soon(other) < soon(n) {
		t.Fatalf("Judge(%+v, %+v) = %d, %d; with more, Judge(%+v, %+v) = %d", less, least, other, err, more, most, n)
	}
}

// coarse gives a list of records, of which some beside one another are joined, and some have fewer stretches.
func (c *chance) coarse(l []api.Record) []api.Record {
	var all []api.Record
	for _, r := range l {
		if len(all) > 0 && c.of(2) == 0 {
			i := c.of(len(all)) // any two may be joined
			all[i] = ssi.Join(all[i], r, 1+c.of(3))
			continue
		}
		if c.of(3) == 0 {
			r.Reads = span.Fit(r.Reads, 1)
		}
		if c.of(3) == 0 {
			r.Writes = span.Fit(r.Writes, 1)
		}
		all = append(all, r)
	}
	return all
}

// P10.4
func TestNeverLess(t *testing.T) {
	for seed := range 30000 {
		c := chance(seed)
		l, one := c.history(7, "abcdef"), c.one(5, "abcdef")
		for range 4 {
			more := c.coarse(l)
			neverLess(t, more, one, l, one)
			neverLess(t, c.coarse(more), one, more, one)
			fit := one
			fit.Reads, fit.Writes = span.Fit(one.Reads, 1), span.Fit(one.Writes, 1)
			neverLess(t, more, fit, l, one)
		}
		for n := range 5 {
			neverLess(t, ssi.Fit(l, n, 1+c.of(3)), one, l, one)
		}
	}
}

// P10.4: all of three small records, of which two are joined.
func TestNeverLessOfThree(t *testing.T) {
	all := slices.DeleteFunc(fewRecords(), func(r api.Record) bool {
		return !ssi.Right(r) || r.First < r.Last || r.Last < 3 && r.Out > 1
	})
	for _, a := range all {
		for _, b := range all {
			both := ssi.Join(a, b, 1)
			for _, other := range all {
				for _, one := range records(who(0, "a", "b"), who(1, "a", "b"), who(1, "a", "")) {
					neverLess(t, records(both, other), one, records(a, b, other), one)
				}
			}
		}
	}
}

// P10.5
func TestForgotten(t *testing.T) {
	gone := 0
	for seed := range 20000 {
		c := chance(seed)
		l, one := c.history(8, "abcd"), c.one(6, "abcd")
		if c.of(2) == 0 {
			l = c.coarse(l)
		}
		left := ssi.Forget(l, one.Began)
		gone += len(l) - len(left)
		for _, r := range left {
			if !isBeside(r, one) {
				t.Fatalf("%+v of %+v is beside %+v", r, l, one)
			}
		}
		n, err := ssi.Judge(l, one)
		if other, code := ssi.Judge(left, one); other != n || code != err {
			t.Fatalf("Judge(%+v, %+v) = %d, %d, but %d, %d with those that are beside it", l, one, n, err, other, code)
		}
	}
	if gone < 1000 {
		t.Errorf("%d are not beside", gone)
	}
}

// P10.6
func TestMore(t *testing.T) {
	for seed := range 30000 {
		c := chance(seed)
		l, one := c.history(7, "abcdef"), c.one(5, "abcdef")
		more := one
		more.Reads, more.Writes = span.Join(one.Reads, c.keys("abcdef")), span.Join(one.Writes, c.keys("abcdef"))
		neverLess(t, l, more, l, one)
		for i := range l { // and who is beside one that does
			wide := slices.Clone(l)
			wide[i].Reads, wide[i].Writes = span.Join(l[i].Reads, c.keys("abcdef")), span.Join(l[i].Writes, c.keys("abcdef"))
			neverLess(t, wide, one, l, one)
		}
		if len(l) > 0 {
			neverLess(t, l, one, l[1:], one)
			neverLess(t, l, one, l[:len(l)-1], one)
		}
	}
}

// P10.7
func TestAlone(t *testing.T) {
	for seed := range 20000 {
		c := chance(seed)
		l, one := c.history(7, "abc"), c.one(9, "abc")
		n, err := ssi.Judge(l, one)
		if len(ssi.Forget(l, one.Began)) == 0 && (n != 0 || err != api.OK) {
			t.Fatalf("nobody of %+v is beside %+v: %d, %d", l, one, n, err)
		}
		if len(after(l, one)) == 0 && (n != 0 || err != api.OK) {
			t.Fatalf("%+v reads ahead of nobody of %+v: %d, %d", one, l, n, err)
		}
		if err != api.OK && !slices.ContainsFunc(l, func(r api.Record) bool { return isBeside(r, one) }) {
			t.Fatalf("Judge(%+v, %+v) = %d", l, one, err)
		}
		one.Reads = nil
		if n, err := ssi.Judge(l, one); n != 0 || err != api.OK {
			t.Fatalf("%+v reads nothing: Judge of %+v = %d, %d", one, l, n, err)
		}
	}
}

// points gives the points of so many rising keys, each of three bytes and more.
func points(n int, more string) []api.Span {
	var l []api.Span
	for i := range n {
		l = append(l, span.Point(string([]byte{byte(i >> 16), byte(i >> 8), byte(i)})+more))
	}
	return l
}

// Lists may be as long as there is room, and each call ends soon.
func TestLongLists(t *testing.T) {
	x := who(0, "a", "b")
	b, c := at("b"), at("c")
	var l []api.Record
	for i := range uint64(api.MaxRoom) {
		l = append(l, api.Record{First: i + 1, Last: i + 1, Began: i, Reads: b, Writes: c})
	}
	l = append(l, done(api.MaxRoom+1, 0, "", "a"))
	if n, err := ssi.Judge(l, x); n != api.MaxRoom+1 || err != api.OK {
		t.Errorf("Judge = %d, %d", n, err)
	}
	l[7].Writes = at("a")
	if n, err := ssi.Judge(l, x); n != 0 || err != api.ErrDanger {
		t.Errorf("Judge = %d, %d", n, err)
	}
	one := ssi.Fit(l, 1, 9)
	want := api.Record{First: 1, Last: api.MaxRoom + 1, Began: api.MaxRoom - 1, Reads: at("b"), Writes: at("ac")}
	isRecords(t, "Fit", one, records(want))
	if two := ssi.Forget(l, api.MaxRoom-1); !ssi.Same(two, l[api.MaxRoom-1:]) {
		t.Errorf("Forget = %+v", two)
	}
	long := api.Record{First: 1, Last: 1, Reads: points(api.MaxRoom, "a"), Writes: points(api.MaxRoom, "b")}
	if n, err := ssi.Judge(records(long, long), api.Record{Reads: long.Reads, Writes: long.Writes}); n != 0 || err != api.OK {
		t.Errorf("Judge = %d, %d", n, err)
	}
	if n, err := ssi.Judge(records(long, long), api.Record{Reads: long.Writes, Writes: long.Writes}); n != 1 || err != api.OK {
		t.Errorf("Judge = %d, %d", n, err)
	}
	r := ssi.Join(long, api.Record{Reads: long.Writes, Writes: long.Reads}, api.MaxRoom)
	if !ssi.Right(long) || len(r.Reads) != api.MaxRoom || !span.Same(r.Reads, r.Writes) {
		t.Errorf("joined: %d and %d", len(r.Reads), len(r.Writes))
	}
}
