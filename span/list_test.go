package span_test

import (
	"testing"

	"conductor/api"
	"conductor/span"
)

// P9.2
func TestNormal(t *testing.T) {
	for _, x := range []struct {
		l    []api.Span
		want bool
	}{
		{nil, true},
		{list(), true},
		{list(to("", "")), true},
		{list(to("a", "b")), true},
		{list(to("a", "b"), to("b\x00", "c")), true},
		{list(to("a", "b"), to("c", "d"), to("e", "")), true},
		{list(span.Point("a"), span.Point("b")), true},
		{list(span.Point("a"), span.Point("a\x00\x00")), true},
		{list(to("", "a"), to("b", "")), true},
		// not right
		{list(to("b", "a")), false},
		{list(to("b", "b")), false},
		{list(to("b", "a"), to("c", "d")), false},
		{list(to("a", "b"), to("d", "c")), false},
		{list(to("a", "b"), to("c", "c")), false},
		// one ends where the next one begins, or behind that
		{list(to("a", "b"), to("b", "c")), false},
		{list(span.Point("a"), span.Point("a\x00")), false},
		{list(to("a", "c"), to("b", "d")), false},
		{list(to("a", "b"), to("a", "b")), false},
		{list(to("a", "z"), to("b", "c")), false},
		{list(to("a", "b"), to("c", "d"), to("d", "e")), false},
		// not in order
		{list(to("c", "d"), to("a", "b")), false},
		{list(to("a", "b"), to("e", "f"), to("c", "d")), false},
		// nothing is behind the end
		{list(to("a", ""), to("b", "c")), false},
		{list(to("a", ""), to("b", "")), false},
		{list(to("", ""), to("", "")), false},
		{list(to("c", ""), to("a", "b")), false},
		{list(to("a", "b"), to("c", ""), to("d", "e")), false},
	} {
		for range 2 { // R5
			if got := span.Normal(x.l); got != x.want {
				t.Errorf("Normal(%q) = %t", x.l, got)
			}
		}
	}
	for _, l := range listsOf(3, spansOf("", "a", "a\x00", "b")...) {
		if got := span.Normal(l); got != isNormal(l) {
			t.Errorf("Normal(%q) = %t", l, got)
		}
	}
}

// P9.2: the chapter's example among them.
func TestAdd(t *testing.T) {
	l := list(to("b", "d"), to("f", "h"))
	for _, x := range []struct {
		l    []api.Span
		s    api.Span
		want []api.Span
	}{
		{list(to("b", "d")), to("c", "f"), list(to("b", "f"))},
		{nil, to("a", "b"), list(to("a", "b"))},
		{list(), to("", ""), list(to("", ""))},
		{nil, span.Point(""), list(to("", "\x00"))},
		// ahead, between, behind
		{l, to("a", "a\x00"), list(to("a", "a\x00"), to("b", "d"), to("f", "h"))},
		{l, to("e", "e\x00"), list(to("b", "d"), to("e", "e\x00"), to("f", "h"))},
		{l, to("h\x00", "i"), list(to("b", "d"), to("f", "h"), to("h\x00", "i"))},
		{l, to("x", ""), list(to("b", "d"), to("f", "h"), to("x", ""))},
		// touching
		{l, to("a", "b"), list(to("a", "d"), to("f", "h"))},
		{l, to("d", "e"), list(to("b", "e"), to("f", "h"))},
		{l, to("e", "f"), list(to("b", "d"), to("e", "h"))},
		{l, to("d", "f"), list(to("b", "h"))},
		{l, to("h", "i"), list(to("b", "d"), to("f", "i"))},
		{l, to("h", ""), list(to("b", "d"), to("f", ""))},
		// within, and over
		{l, to("b", "d"), l},
		{l, to("c", "c\x00"), l},
		{l, to("b", "c"), l},
		{l, to("c", "d"), l},
		{l, to("c", "g"), list(to("b", "h"))},
		{l, to("a", "z"), list(to("a", "z"))},
		{l, to("", ""), list(to("", ""))},
		{l, to("c", ""), list(to("b", ""))},
		{l, to("e", ""), list(to("b", "d"), to("e", ""))},
		{l, to("", "g"), list(to("", "h"))},
		{list(to("b", "")), to("c", "d"), list(to("b", ""))},
		{list(to("b", "")), to("a", "c"), list(to("a", ""))},
		{list(to("b", "")), to("a", "b"), list(to("a", ""))},
		{list(to("b", "")), to("b", "c"), list(to("b", ""))},
		{list(to("b", "c")), to("b", ""), list(to("b", ""))},
		// what is not right has nothing
		{nil, to("b", "a"), nil},
		{nil, to("b", "b"), nil},
		{l, to("z", "a"), l},
		{l, to("e", "e"), l},
		{l, to("d", "d"), l},
		{list(to("z", "a")), to("b", "c"), list(to("b", "c"))},
		{list(to("d", "b"), to("b", "b")), to("c", "c"), nil},
		{list(to("a", "b"), to("z", "c"), to("c", "d")), to("y", "x"), list(to("a", "b"), to("c", "d"))},
		// lists that are not normal
		{list(to("c", "d"), to("a", "b")), to("e", "f"), list(to("a", "b"), to("c", "d"), to("e", "f"))},
		{list(to("a", "c"), to("b", "d")), to("x", "y"), list(to("a", "d"), to("x", "y"))},
		{list(to("a", "b"), to("b", "c")), to("x", "y"), list(to("a", "c"), to("x", "y"))},
		{list(to("a", "b"), to("a", "b")), to("a", "b"), list(to("a", "b"))},
		{list(to("a", ""), to("b", "c")), to("x", "y"), list(to("a", ""))},
		{list(to("b", "c"), to("a", "")), to("x", "y"), list(to("a", ""))},
		{list(to("f", "h"), to("b", "d")), to("d", "f"), list(to("b", "h"))},
	} {
		for range 2 { // R5
			isList(t, "Add", span.Add(x.l, x.s), x.want, x.l, x.s)
			isList(t, "Join", span.Join(x.l, list(x.s)), x.want, x.l, x.s)
			isList(t, "Join", span.Join(list(x.s), x.l), x.want, x.l, x.s)
		}
	}
}

// P9.2
func TestAddToAllOfAFew(t *testing.T) {
	texts := []string{"", "a", "a\x00", "b"}
	spans := spansOf(texts...)
	for _, l := range listsOf(3, spans...) {
		for _, s := range spans {
			isList(t, "Add", span.Add(l, s), normalOf(both(l, list(s)), texts), l, s)
		}
	}
}

// P9.2
func TestJoin(t *testing.T) {
	for _, x := range []struct {
		a, b, want []api.Span
	}{
		{nil, nil, nil},
		{nil, list(), nil},
		{list(to("a", "b")), nil, list(to("a", "b"))},
		{list(to("c", "d"), to("a", "b")), nil, list(to("a", "b"), to("c", "d"))},
		{list(to("a", "b"), to("e", "f")), list(to("c", "d"), to("g", "h")), list(to("a", "b"), to("c", "d"), to("e", "f"), to("g", "h"))},
		{list(to("a", "b"), to("c", "d")), list(to("b", "c"), to("d", "e")), list(to("a", "e"))},
		{list(to("a", "c"), to("e", "g")), list(to("b", "f")), list(to("a", "g"))},
		{list(to("a", "z")), list(to("b", "c"), to("d", "e")), list(to("a", "z"))},
		{list(to("b", "c"), to("d", "")), list(to("a", "b")), list(to("a", "c"), to("d", ""))},
		{list(to("", "")), list(to("a", "b"), to("c", "")), list(to("", ""))},
		{list(span.Point("a"), span.Point("c")), list(span.Point("b"), span.Point("a\x00")), list(to("a", "a\x00\x00"), span.Point("b"), span.Point("c"))},
		{list(to("b", "a")), list(to("d", "c"), to("e", "e")), nil},
		{list(to("b", "a"), to("c", "d")), list(to("z", "y"), to("d", "e")), list(to("c", "e"))},
		{list(to("x", "y"), to("a", "c")), list(to("y", "z"), to("b", "d")), list(to("a", "d"), to("x", "z"))},
	} {
		isList(t, "Join", span.Join(x.a, x.b), x.want, x.a, x.b)
		isList(t, "Join", span.Join(x.b, x.a), x.want, x.b, x.a)
	}
	texts := []string{"", "a", "a\x00", "b"}
	all := listsOf(2, spansOf(texts...)...)
	for _, a := range all {
		for _, b := range all {
			isList(t, "Join", span.Join(a, b), normalOf(both(a, b), texts), a, b)
		}
	}
}

// P9.2
func TestIn(t *testing.T) {
	l := list(to("b", "d"), to("f", "h"), to("x", ""))
	for key, want := range map[string]bool{"": false, "a": false, "b": true, "c\xff": true, "d": false, "e": false, "f": true, "g": true, "h": false, "w\xff": false, "x": true, "\xff\xff": true} {
		if got := span.In(l, key); got != want {
			t.Errorf("In(%q, %q) = %t", l, key, got)
		}
	}
	if span.In(nil, "") || span.In(list(), "a") || !span.In(list(to("", "")), "") {
		t.Error("In of none, or of all")
	}
	for _, l := range listsOf(2, spansOf(ends...)...) {
		for _, key := range probes {
			if got := span.In(l, key); got != isIn(l, key) {
				t.Fatalf("In(%q, %q) = %t", l, key, got)
			}
		}
	}
}

// P9.2
func TestMeet(t *testing.T) {
	l := list(to("b", "d"), to("f", "h"), to("k", "m"))
	for _, x := range []struct {
		a, b []api.Span
		want bool
	}{
		{nil, nil, false},
		{nil, list(), false},
		{l, nil, false},
		{l, list(), false},
		{nil, list(to("", "")), false},
		{l, l, true},
		{l, list(to("", "")), true},
		{l, list(span.Point("b")), true},
		{l, list(span.Point("g")), true},
		{l, list(span.Point("l\xff")), true},
		{l, list(to("a", "b"), to("d", "f"), to("l", "z")), true},
		{l, list(to("a", "b"), to("g", "g\x00"), to("h", "k")), true},
		{l, list(to("", "b"), to("d", "f"), to("h", "k"), to("m", "")), false},
		{l, list(to("d", "f"), to("h", "k")), false},
		{l, list(to("a", "b")), false},
		{l, list(to("m", "")), false},
		{l, list(to("e", "e\x00")), false},
		{l, list(to("c", "c")), false},
		{l, list(to("z", "a"), to("e", "f")), false},
		{list(to("b", "")), list(to("a", "b"), to("z", "")), true},
		{list(to("b", "")), list(to("", "a"), to("a\x00", "b")), false},
		// lists that are not normal
		{list(to("k", "m"), to("b", "d")), list(to("x", "y"), to("c", "e")), true},
		{list(to("k", "m"), to("b", "d")), list(to("x", "y"), to("d", "e")), false},
		{list(to("a", ""), to("b", "c")), list(to("y", "z")), true},
		{list(to("a", "z"), to("b", "c")), list(to("y", "z")), true},
		{list(to("a", "b"), to("b", "c")), list(to("b", "b\x00")), true},
		{list(to("a", "b"), to("z", "b"), to("c", "d")), list(to("b", "c")), false},
		{list(to("z", "a")), list(to("z", "a")), false},
	} {
		for range 2 { // R5
			if span.Meet(x.a, x.b) != x.want || span.Meet(x.b, x.a) != x.want {
				t.Errorf("Meet(%q, %q) is not %t", x.a, x.b, x.want)
			}
		}
	}
	texts := []string{"", "a", "a\x00", "b"}
	all := listsOf(2, spansOf(texts...)...)
	for _, a := range all {
		for _, b := range all {
			isMet(t, a, b, texts)
		}
	}
}

// isMet tells whether two lists meet just if one of these texts, among which are all of their ends, lies in both: P9.6.
func isMet(t *testing.T, a, b []api.Span, texts []string) {
	t.Helper()
	want := false
	for _, s := range texts {
		want = want || isIn(a, s) && isIn(b, s)
	}
	if got := span.Meet(a, b); got != want {
		t.Fatalf("Meet(%q, %q) = %t", a, b, got)
	}
	one := false
	for _, s := range a {
		for _, other := range b {
			one = one || span.Meets(s, other)
		}
	}
	if one != want {
		t.Fatalf("of %q and %q, one meets one: %t", a, b, one)
	}
}

// P9.2
func TestSame(t *testing.T) {
	for _, x := range []struct {
		a, b []api.Span
		want bool
	}{
		{nil, nil, true},
		{nil, list(), true},
		{list(to("a", "b")), list(to("a", "b")), true},
		{list(to("a", "b"), to("c", "")), list(to("a", "b"), to("c", "")), true},
		{list(to("a", "b")), nil, false},
		{list(to("", "")), nil, false},
		{list(to("a", "b")), list(to("a", "c")), false},
		{list(to("a", "b")), list(to("", "b")), false},
		{list(to("a", "b")), list(to("a", "")), false},
		{list(to("a", "b"), to("c", "d")), list(to("a", "b")), false},
		{list(to("a", "b"), to("c", "d")), list(to("c", "d")), false},
		{list(to("a", "b"), to("c", "d")), list(to("a", "b"), to("c", "e")), false},
		{list(to("a", "b"), to("c", "d")), list(to("a", "x"), to("c", "d")), false},
		// one by one, whatever lies in them
		{list(to("b", "a")), list(to("b", "a")), true},
		{list(to("c", "d"), to("a", "b")), list(to("c", "d"), to("a", "b")), true},
		{list(to("c", "d"), to("a", "b")), list(to("a", "b"), to("c", "d")), false},
		{list(to("a", "b"), to("b", "c")), list(to("a", "c")), false},
		{list(to("b", "a")), list(to("b", "b")), false},
		{list(to("b", "a")), nil, false},
	} {
		for range 2 { // R5
			if span.Same(x.a, x.b) != x.want || span.Same(x.b, x.a) != x.want {
				t.Errorf("Same(%q, %q) is not %t", x.a, x.b, x.want)
			}
		}
	}
	all := listsOf(2, spansOf("", "a", "b")...)
	for i, a := range all {
		for j, b := range all {
			if got := span.Same(a, b); got != (i == j) {
				t.Errorf("Same(%q, %q) = %t", a, b, got)
			}
		}
	}
}
