package span_test

import (
	"slices"
	"testing"

	"conductor/api"
	"conductor/span"
)

// P9.4
func TestAddedIn(t *testing.T) {
	for seed := range 4000 {
		c := chance(seed)
		a, b := c.some(12), c.some(12)
		for _, key := range probesOf(endsOf(a, b)) {
			if span.In(span.Join(a, b), key) != (isIn(a, key) || isIn(b, key)) {
				t.Fatalf("%q in the joined %q and %q: %t", key, a, b, !isIn(both(a, b), key))
			}
			for _, s := range b {
				if span.In(span.Add(a, s), key) != (isIn(a, key) || span.Has(s, key)) {
					t.Fatalf("%q in %q with %q: %t", key, a, s, !isIn(both(a, list(s)), key))
				}
			}
		}
	}
}

// P9.5: lists in which the same lies come to the same normal one, one by one, in any order, or at once.
func TestOneList(t *testing.T) {
	for seed := range 4000 {
		c := chance(seed)
		l := c.some(16)
		want := normalOf(l, endsOf(l))
		var up, down []api.Span
		for i := range l {
			up = span.Add(up, l[i])
			down = span.Add(down, l[len(l)-1-i])
		}
		isList(t, "up, Add", up, want, l)
		isList(t, "down, Add", down, want, l)
		isList(t, "Add", span.Add(up, to("b", "a")), want, l)
		isList(t, "Join", span.Join(l, l), want, l)
		cut := c.of(len(l) + 1)
		isList(t, "Join", span.Join(l[cut:], l[:cut]), want, l)
		isList(t, "Join", span.Join(span.Join(l[:cut], nil), span.Join(nil, l[cut:])), want, l)
	}
}

// P9.5: two normal lists in which the same lies are the same.
func TestNormalIsOne(t *testing.T) {
	seen := map[string][]api.Span{}
	n := 0
	for _, l := range listsOf(3, spansOf("", "a", "a\x00", "b", "c")...) {
		if !span.Normal(l) {
			continue
		}
		n++
		in := ""
		for _, key := range probes {
			in += map[bool]string{false: ".", true: "x"}[span.In(l, key)]
		}
		if other, is := seen[in]; is {
			t.Errorf("in %q and %q lies the same", l, other)
		}
		seen[in] = l
	}
	if n != 32 { // each of the five stretches from one text to the next one is in, or not
		t.Errorf("%d normal lists", n)
	}
}

// P9.6
func TestMeeting(t *testing.T) {
	met := 0
	for seed := range 6000 {
		c := chance(seed)
		a, b := c.some(6), c.some(6)
		isMet(t, a, b, endsOf(a, b))
		if !span.Meet(a, b) {
			continue
		}
		met++
		for _, s := range a {
			for _, other := range b {
				lo := max(s.Lo, other.Lo)
				if span.Meets(s, other) && !(span.In(a, lo) && span.In(b, lo)) {
					t.Fatalf("%q meets %q, but %q is not in both", s, other, lo)
				}
			}
		}
	}
	if met < 1000 || met > 5000 {
		t.Errorf("%d have met", met)
	}
}

// P9.7
func TestCovered(t *testing.T) {
	for seed := range 3000 {
		c := chance(seed)
		l := c.some(16)
		for _, n := range append(counts, 6, 7, 8) {
			fit := span.Fit(l, n)
			if len(fit) > max(n, 1) {
				t.Fatalf("Fit(%q, %d) = %q", l, n, fit)
			}
			for _, key := range probesOf(endsOf(l)) {
				if isIn(l, key) && !span.In(fit, key) {
					t.Fatalf("%q is not in Fit(%q, %d) = %q", key, l, n, fit)
				}
			}
		}
	}
}

// points gives the points of so many rising keys, each of three bytes and more.
func points(n int, more string) []api.Span {
	var l []api.Span
	for i := range n {
		l = append(l, span.Point(string([]byte{byte(i >> 16), byte(i >> 8), byte(i)})+more))
	}
	return l
}

// Lists may be as long as there are marks, in any order, and each call ends soon.
func TestLongLists(t *testing.T) {
	a, b := points(api.MaxRoom, "a"), points(api.MaxRoom, "b")
	if !span.Normal(a) || !span.Normal(b) || span.Meet(a, b) || span.Meet(b, a) || !span.Meet(a, a) {
		t.Error("of a and b")
	}
	down := slices.Clone(b)
	slices.Reverse(down)
	last := down[0]
	if span.Meet(a, down) || !span.Meet(span.Add(a, last), down) || !span.Meet(down, list(last)) {
		t.Error("of a and b backward")
	}
	if l := span.Join(a, down); len(l) != 2*api.MaxRoom || !span.Normal(l) {
		t.Errorf("%d are joined", len(l))
	}
	if !slices.Equal(span.Join(a, a), a) || !slices.Equal(span.Join(down, nil), b) {
		t.Error("joined")
	}
	if l := span.Fit(down, 2); len(l) != 2 || l[0] != to(b[0].Lo, b[len(b)-2].Hi) || l[1] != last {
		t.Errorf("fit to %q", l)
	}
	if l := span.Add(a, to("\x00", "")); len(l) != 1 || l[0] != to("\x00", "") {
		t.Errorf("all within one: %q", l[:2])
	}
	if span.In(a, last.Lo) || !span.In(b, last.Lo) || !span.Same(b, span.Fit(b, api.MaxRoom)) {
		t.Error("In, or Same")
	}
}
