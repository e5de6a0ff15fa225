package span_test

import (
	"strings"
	"testing"

	"conductor/api"
	"conductor/span"
)

// P9.1
func TestPoint(t *testing.T) {
	long := strings.Repeat("k", 1<<16)
	for key, want := range map[string]api.Span{
		"":         to("", "\x00"),
		"a":        to("a", "a\x00"),
		"ab":       to("ab", "ab\x00"),
		"\x00":     to("\x00", "\x00\x00"),
		"a\x00":    to("a\x00", "a\x00\x00"),
		"\xff":     to("\xff", "\xff\x00"),
		"\xff\xff": to("\xff\xff", "\xff\xff\x00"),
		"ä":        to("ä", "ä\x00"),
		long:       to(long, long+"\x00"),
	} {
		s := span.Point(key)
		if s != want || !span.Right(s) {
			t.Errorf("Point(%q) = %q", key, s)
		}
		for _, other := range probesOf(append([]string{key}, ends...)) {
			if span.Has(s, other) != (other == key) {
				t.Errorf("in the point of %q: %q", key, other)
			}
		}
	}
}

// P9.1
func TestRight(t *testing.T) {
	for _, x := range []struct {
		s    api.Span
		want bool
	}{
		{to("", ""), true},
		{to("a", ""), true},
		{to("\xff", ""), true},
		{to("", "\x00"), true},
		{to("", "a"), true},
		{to("a", "a\x00"), true},
		{to("a", "b"), true},
		{to("a", "aa"), true},
		{to("ab", "b"), true},
		{to("\x7f", "\x80"), true},
		{to("a", "a"), false},
		{to("\x00", "\x00"), false},
		{to("b", "a"), false},
		{to("a\x00", "a"), false},
		{to("b", "ab"), false},
		{to("\x80", "\x7f"), false},
	} {
		for range 2 { // R5
			if got := span.Right(x.s); got != x.want {
				t.Errorf("Right(%q) = %t", x.s, got)
			}
		}
	}
	for _, s := range spansOf(ends...) { // just where something lies in it
		is := false
		for _, key := range probes {
			is = is || isIn(list(s), key)
		}
		if span.Right(s) != is {
			t.Errorf("Right(%q) = %t", s, !is)
		}
	}
}

// P9.1
func TestHas(t *testing.T) {
	for _, x := range []struct {
		s    api.Span
		key  string
		want bool
	}{
		{to("b", "d"), "b", true},
		{to("b", "d"), "b\x00", true},
		{to("b", "d"), "c", true},
		{to("b", "d"), "c\xff\xff", true},
		{to("b", "d"), "d", false},
		{to("b", "d"), "d\x00", false},
		{to("b", "d"), "a\xff", false},
		{to("b", "d"), "", false},
		{to("b", ""), "b", true},
		{to("b", ""), "\xff\xff", true},
		{to("b", ""), "a", false},
		{to("", "b"), "", true},
		{to("", "b"), "a", true},
		{to("", "b"), "b", false},
		{to("", ""), "", true},
		{to("", ""), "\xff", true},
		// what is not right has nothing
		{to("b", "b"), "b", false},
		{to("d", "b"), "b", false},
		{to("d", "b"), "c", false},
		{to("d", "b"), "d", false},
		{to("d", "b"), "e", false},
		{to("d", "b"), "a", false},
	} {
		if got := span.Has(x.s, x.key); got != x.want {
			t.Errorf("Has(%q, %q) = %t", x.s, x.key, got)
		}
	}
	for _, s := range spansOf(ends...) {
		for _, key := range probes {
			if got := span.Has(s, key); got != isIn(list(s), key) {
				t.Errorf("Has(%q, %q) = %t", s, key, got)
			}
		}
	}
}

// P9.1
func TestMeets(t *testing.T) {
	for _, x := range []struct {
		a, b api.Span
		want bool
	}{
		{to("b", "d"), to("b", "d"), true},
		{to("b", "d"), to("c", "e"), true},
		{to("b", "d"), to("c", "c\x00"), true},
		{to("b", "d"), to("a", "b\x00"), true},
		{to("b", "d"), to("a", "z"), true},
		{to("b", "d"), to("c", ""), true},
		{to("b", "d"), to("", ""), true},
		{to("b", "d"), span.Point("b"), true},
		{to("b", ""), to("c", ""), true},
		{to("", "\x00"), to("", ""), true},
		// one ends where the other one begins, or ahead of it
		{to("b", "d"), to("d", "e"), false},
		{to("b", "d"), to("d", ""), false},
		{to("b", "d"), to("e", "f"), false},
		{to("b", "d"), to("a", "b"), false},
		{to("b", "d"), to("", "b"), false},
		{to("b", "d"), span.Point("d"), false},
		{to("b", "d"), span.Point("a\xff"), false},
		{span.Point("a"), span.Point("a\x00"), false},
		// what is not right meets nothing
		{to("d", "b"), to("d", "b"), false},
		{to("d", "b"), to("a", "z"), false},
		{to("d", "b"), to("", ""), false},
		{to("d", "b"), to("b", "d"), false},
		{to("c", "c"), to("c", "c"), false},
		{to("c", "c"), to("b", "d"), false},
		{to("c", "c"), to("", ""), false},
		{to("z", "a"), to("b", "d"), false},
	} {
		if span.Meets(x.a, x.b) != x.want || span.Meets(x.b, x.a) != x.want {
			t.Errorf("Meets(%q, %q) is not %t", x.a, x.b, x.want)
		}
	}
	all := spansOf(ends...)
	for _, a := range all {
		for _, b := range all {
			want := false
			for _, key := range probes {
				want = want || isIn(list(a), key) && isIn(list(b), key)
			}
			if got := span.Meets(a, b); got != want {
				t.Errorf("Meets(%q, %q) = %t", a, b, got)
			}
		}
	}
}
