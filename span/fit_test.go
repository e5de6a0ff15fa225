package span_test

import (
	"math"
	"testing"

	"conductor/api"
	"conductor/span"
)

var counts = []int{math.MinInt, -2, -1, 0, 1, 2, 3, 4, 5, math.MaxInt}

// P9.3: the chapter's example among them.
func TestFit(t *testing.T) {
	points := list(span.Point("a"), span.Point("c"), span.Point("e"))
	one := list(to("a", "e\x00"))
	l := list(to("a", "b"), to("c", "d"), to("e", "f"), to("g", "h"), to("i", ""))
	for _, x := range []struct {
		l    []api.Span
		n    int
		want []api.Span
	}{
		{points, 2, list(to("a", "c\x00"), span.Point("e"))},
		{points, 3, points},
		{points, 4, points},
		{points, math.MaxInt, points},
		{points, 1, one},
		{points, 0, one},
		{points, -1, one},
		{points, math.MinInt, one},
		{l, 5, l},
		{l, 4, list(to("a", "d"), to("e", "f"), to("g", "h"), to("i", ""))},
		{l, 3, list(to("a", "f"), to("g", "h"), to("i", ""))},
		{l, 2, list(to("a", "h"), to("i", ""))},
		{l, 1, list(to("a", ""))},
		{l, 0, list(to("a", ""))},
		{nil, 0, nil},
		{nil, 1, nil},
		{list(), -1, nil},
		{nil, math.MinInt, nil},
		{list(to("a", "b")), 0, list(to("a", "b"))},
		{list(to("", "")), 0, list(to("", ""))},
		// lists that are not normal
		{list(to("e", "f"), to("a", "b"), to("c", "d")), 2, list(to("a", "d"), to("e", "f"))},
		{list(to("e", "f"), to("a", "b"), to("c", "d")), 9, list(to("a", "b"), to("c", "d"), to("e", "f"))},
		{list(to("a", "b"), to("b", "c"), to("d", "e")), 2, list(to("a", "c"), to("d", "e"))},
		{list(to("a", "b"), to("a", "b"), to("a", "b")), 2, list(to("a", "b"))},
		{list(to("z", "a"), to("b", "c"), to("e", "e")), 1, list(to("b", "c"))},
		{list(to("z", "a"), to("b", "c"), to("", "a")), 1, list(to("", "c"))},
		{list(to("b", "a")), 1, nil},
		{list(to("b", "a")), 0, nil},
	} {
		for range 2 { // R5
			isList(t, "Fit", span.Fit(x.l, x.n), x.want, x.l, x.n)
		}
	}
}

// P9.3
func TestFitOfAllOfAFew(t *testing.T) {
	texts := []string{"", "a", "a\x00", "b"}
	for _, l := range listsOf(3, spansOf(texts...)...) {
		want := normalOf(l, texts)
		for _, n := range counts {
			isList(t, "Fit", span.Fit(l, n), fitted(want, n), l, n)
		}
	}
}

// P9.3
func TestFitOfMany(t *testing.T) {
	for seed := range 3000 {
		c := chance(seed)
		l := c.some(20)
		want := normalOf(l, endsOf(l))
		for n := range 12 {
			isList(t, "Fit", span.Fit(l, n), fitted(want, n), l, n)
		}
	}
}
