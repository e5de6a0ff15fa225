package order_test

import (
	"testing"

	"conductor/api"
	"conductor/order"
)

// P12.1: a ended ahead of b's beginning.
func TestEdgeOfEvents(t *testing.T) {
	for _, x := range []struct {
		end, start int
		want       bool
	}{
		{1, 2, true},
		{2, 2, false},
		{3, 2, false},
		{1, 100, true},
		{-2, -1, true},
		{-1, -1, false},
		{-1, 0, true},
		{0, -1, false},
		{least, greatest, true},
		{greatest, least, false},
		{least, least, false},
		{greatest, greatest, false},
		{greatest - 1, greatest, true},
		{least, least + 1, true},
	} {
		for _, other := range []int{least, 0, 5, greatest} { // a's Start, and b's End, tell nothing
			a, b := went(other, x.end), went(x.start, other)
			if got := order.Edge(a, b); got != x.want {
				t.Errorf("Edge(%+v, %+v) = %t", a, b, got)
			}
			if a.At, b.Began = last, 0; order.Edge(a, b) != x.want { // nor do a's At, and b's Began
				t.Errorf("Edge(%+v, %+v) is not %t", a, b, x.want)
			}
			if a.At, b.Began = 0, last; order.Edge(a, b) != x.want {
				t.Errorf("Edge(%+v, %+v) is not %t", a, b, x.want)
			}
		}
	}
}

// P12.1: a read ahead of b.
func TestEdgeOfReads(t *testing.T) {
	for _, x := range []struct {
		began, at     uint64
		reads, writes []api.Span
		want          bool
	}{
		{0, 1, at("x"), at("x"), true},
		{0, 0, at("x"), at("x"), false},
		{1, 0, at("x"), at("x"), false},
		{1, 1, at("x"), at("x"), false},
		{1, 2, at("x"), at("x"), true},
		{0, last, at("x"), at("x"), true},
		{last - 1, last, at("x"), at("x"), true},
		{last, last, at("x"), at("x"), false},
		{last, 0, at("x"), at("x"), false},
		{0, 1, at("x"), at("y"), false},
		{0, 1, at("x"), nil, false},
		{0, 1, nil, at("x"), false},
		{0, 1, nil, nil, false},
		{0, 1, spans(), spans(), false},
		{0, 1, at("ace"), at("bde"), true},
		{0, 1, at("ace"), at("bdf"), false},
		{0, 1, spans(to("", "")), at("x"), true},
		{0, 1, spans(to("a", "c")), at("c"), false},
		{0, 1, spans(to("a", "c\x00")), at("c"), true},
		{0, 1, spans(to("a", "c")), spans(to("b\xff", "d")), true},
		{0, 1, spans(to("d", "")), at("abc"), false},
		// lists that are not normal
		{0, 1, at("eca"), at("xb"), false},
		{0, 1, at("eca"), at("xe"), true},
		{0, 1, spans(to("c", "a")), spans(to("", "")), false},
		{0, 1, spans(to("b", "b")), at("b"), false},
	} {
		a := api.Done{Id: 1, Began: x.began, At: last, Start: 1, End: 9, Reads: x.reads, Writes: at("q")}
		b := api.Done{Id: 2, Began: 0, At: x.at, Start: 2, End: 8, Reads: at("q"), Writes: x.writes}
		for range 2 { // R5
			if got := order.Edge(a, b); got != x.want {
				t.Errorf("Edge(%+v, %+v) = %t", a, b, got)
			}
		}
		b.Id, b.Reads, a.Writes = 1, nil, nil // who they are, what b read, and what a wrote tells nothing
		if order.Edge(a, b) != x.want {
			t.Errorf("Edge(%+v, %+v) is not %t", a, b, x.want)
		}
		if a.End, b.Start = 1, 2; !order.Edge(a, b) { // either of both is enough
			t.Errorf("Edge(%+v, %+v) is false", a, b)
		}
	}
}

// P12.1: of one and itself, too.
func TestEdgeOfItself(t *testing.T) {
	for _, x := range []struct {
		d    api.Done
		want bool
	}{
		{api.Done{}, false},
		{went(1, 2), false},
		{went(2, 2), false},
		{went(2, 1), true},
		{wrote(read(went(1, 2), 0, "x"), 1, "x"), true},
		{wrote(read(went(1, 2), 0, "x"), 1, "y"), false},
		{wrote(read(went(1, 2), 1, "x"), 1, "x"), false},
	} {
		if order.Edge(x.d, x.d) != x.want {
			t.Errorf("Edge of %+v and itself is not %t", x.d, x.want)
		}
	}
}

// P12.1: whatever they are.
func TestEdgeOfMany(t *testing.T) {
	edges := 0
	for seed := range 100000 {
		c := chance(seed)
		a, b := c.any(), c.any()
		got := order.Edge(a, b)
		if got != mustLead(a, b) {
			t.Fatalf("Edge(%+v, %+v) = %t", a, b, got)
		}
		if got && a.End >= b.Start {
			edges++
		}
	}
	if edges < 2000 {
		t.Errorf("%d edges by what was read", edges)
	}
}
