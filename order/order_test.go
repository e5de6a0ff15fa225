package order_test

import (
	"slices"
	"strconv"
	"testing"

	"conductor/api"
	"conductor/order"
	"conductor/span"
)

// P12.2: the chapter's example among them.
func TestOrder(t *testing.T) {
	for _, x := range []struct {
		l    []api.Done
		want []int
	}{
		{list(read(went(1, 4), 0, "x"), wrote(went(2, 3), 1, "x")), places(0, 1)},
		{list(wrote(went(2, 3), 1, "x"), read(went(1, 4), 0, "x")), places(1, 0)},
		{nil, nil},
		{list(), nil},
		{list(api.Done{}), places(0)},
		{list(api.Done{}, api.Done{}, api.Done{}), places(0, 1, 2)},
		// one behind the other
		{list(went(1, 2), went(3, 4), went(5, 6)), places(0, 1, 2)},
		{list(went(5, 6), went(3, 4), went(1, 2)), places(2, 1, 0)},
		{list(went(3, 4), went(5, 6), went(1, 2)), places(2, 0, 1)},
		// beside one another: the least End, and of equal ones the first
		{list(went(1, 6), went(2, 5), went(3, 4)), places(2, 1, 0)},
		{list(went(3, 4), went(1, 6), went(2, 5)), places(0, 2, 1)},
		{list(went(1, 5), went(2, 5), went(3, 5)), places(0, 1, 2)},
		{list(went(3, 5), went(2, 5), went(1, 4), went(1, 5)), places(2, 0, 1, 3)},
		{list(went(1, greatest), went(least, least), went(0, 0)), places(1, 2, 0)},
		// who begins by the event by which another one ends is beside it
		{list(went(2, 4), went(1, 2)), places(1, 0)},
		{list(wrote(went(1, 2), 1, "x"), read(went(2, 4), 0, "x")), places(1, 0)},
		// of what was read, with greater Ends ahead
		{list(wrote(went(1, 4), 1, "x"), read(went(2, 5), 0, "x"), went(3, 6)), places(1, 0, 2)},
		{list(wrote(went(1, 4), 1, "x"), read(went(2, 5), 1, "x"), went(3, 6)), places(0, 1, 2)},
		{list(wrote(went(1, 4), 1, "x"), wrote(read(went(2, 5), 0, "x"), 2, "y"), read(went(3, 6), 0, "y")), places(2, 1, 0)},
		{list(wrote(went(1, 4), 1, "x"), wrote(read(went(2, 5), 0, "x"), 2, "y"), read(went(3, 6), 2, "y")), places(1, 0, 2)},
		// who becomes free is asked with all that were free ahead
		{list(wrote(went(1, 10), 1, "x"), went(1, 12), read(went(1, 11), 0, "x"), went(1, 13)), places(2, 0, 1, 3)},
		{list(wrote(went(1, 13), 1, "x"), went(1, 12), read(went(1, 11), 0, "x"), went(1, 10)), places(3, 2, 1, 0)},
		{list(wrote(went(1, 10), 1, "x"), read(went(1, 13), 0, "x"), went(1, 11), went(1, 12)), places(2, 3, 1, 0)},
		// one is not ahead of itself
		{list(wrote(read(went(1, 2), 0, "x"), 1, "x")), places(0)},
		{list(went(9, 1)), places(0)},
		{list(wrote(read(went(9, 1), 0, "x"), 1, "x"), went(1, 1)), places(1, 0)},
		{list(wrote(read(went(1, 9), 0, "x"), 1, "x"), went(1, 8)), places(1, 0)},
		// one that is there twice stands in two places
		{list(wrote(went(1, 9), 1, "x"), wrote(went(1, 9), 1, "x")), places(0, 1)},
		{list(api.Done{Id: 5, Start: 1, End: 9}, api.Done{Id: 5, Start: 1, End: 8}), places(1, 0)},
	} {
		for range 2 { // R5
			isOrder(t, x.l, x.want, true)
		}
		isLaid(t, x.l)
	}
}

// P12.2: where there is none at some step, there is nothing.
func TestOrderOfRings(t *testing.T) {
	one := wrote(read(went(1, 9), 0, "x"), 1, "x")
	for _, l := range [][]api.Done{
		list(one, one),
		list(went(9, 1), went(9, 1)),
		list(wrote(read(went(1, 3), 0, "x"), 1, "y"), wrote(read(went(2, 4), 0, "y"), 2, "x")),
		list(wrote(read(went(2, 4), 0, "y"), 2, "x"), wrote(read(went(1, 3), 0, "x"), 1, "y")),
		list(wrote(read(went(1, 7), 0, "x"), 1, "y"), wrote(read(went(2, 8), 0, "y"), 2, "z"), wrote(read(went(3, 9), 0, "z"), 3, "x")),
		// by events and by what was read
		list(wrote(went(1, 2), 9, "x"), read(went(3, 4), 0, "x")),
		list(went(4, 2), went(3, 3)),
		// who stands ahead of the ring, between, or behind, is told neither
		list(went(0, 0), went(0, 0), one, one),
		list(one, one, went(10, 11)),
		list(went(0, 0), one, went(2, 5), one, went(10, 11)),
		list(read(went(1, 9), 0, "x"), one, one),
	} {
		for range 2 { // R5
			isOrder(t, l, nil, false)
		}
		if !inRing(l) {
			t.Errorf("there is no ring in %+v", l)
		}
		isLaid(t, l)
	}
}

// kinds are some of those that may stand in a list of a few.
func kinds() []api.Done {
	var all []api.Done
	for _, events := range [][2]int{{1, 1}, {1, 2}, {2, 3}, {3, 3}, {3, 2}} {
		d := went(events[0], events[1])
		all = append(all, d, read(d, 0, "x"), wrote(d, 1, "x"), wrote(read(d, 0, "x"), 1, "y"), wrote(read(d, 1, "y"), 2, "x"), wrote(read(d, 1, "xy"), 2, "xy"))
	}
	return all
}

// P12.2, P12.3, P12.4: all lists of three of these, with all their orders.
func TestOrderOfAllOfAFew(t *testing.T) {
	all := kinds()
	rings := 0
	for i := range len(all) * len(all) * len(all) {
		n := len(all)
		l := list(all[i%n], all[i/n%n], all[i/n/n])
		for most := range 4 {
			if i/n/n > 0 && most < 3 || i/n%n > 0 && most < 2 {
				continue // the shorter ones come once
			}
			l := l[:most]
			is := isLaid(t, l)
			some := false
			for _, o := range ordersOf(most) {
				right := order.Right(l, o)
				if right != isRight(l, o) {
					t.Fatalf("Right(%+v, %v) = %t", l, o, right)
				}
				some = some || right
			}
			if is != some || is == inRing(l) {
				t.Fatalf("%+v is laid: %t, has a right order: %t, and a ring: %t", l, is, some, inRing(l))
			}
			if !is {
				rings++
			}
		}
	}
	if rings < 1000 || rings > len(all)*len(all)*len(all)-1000 {
		t.Errorf("%d lists have rings", rings)
	}
}

// P12.2, P12.4, P12.6: whatever they are, and those that could be, in any order.
func TestOrderOfMany(t *testing.T) {
	laid, rings := 0, 0
	for seed := range 20000 {
		c := chance(seed)
		for _, l := range [][]api.Done{c.anyOf(6), c.beside(9, 6), c.beside(14, 16), c.history(12, 2+c.of(6))} {
			for _, l := range [][]api.Done{l, c.shuffled(l)} {
				if is := isLaid(t, l); is && len(l) > 2 {
					laid++
				} else if !is {
					rings++
				}
			}
		}
	}
	if laid < 20000 || rings < 20000 {
		t.Errorf("%d are laid, %d are not", laid, rings)
	}
}

// P12.2: many that are left in the rows, in all ways in which others go out of them.
func TestOrderOfLongerOnes(t *testing.T) {
	laid := 0
	for seed := range 60 {
		c := chance(seed)
		l := c.history(100, 2+c.of(20))
		for i := range l { // most of them are in rings else
			if c.of(4) > 0 {
				l[i].Reads = nil
			}
		}
		for _, l := range [][]api.Done{l, c.shuffled(l)} {
			if isLaid(t, l) {
				laid++
			}
		}
	}
	if laid < 20 || laid > 100 {
		t.Errorf("%d are laid", laid)
	}
}

// chained gives so many, all beside one another, each of which read what the next one wrote.
func chained(n int) []api.Done {
	var l []api.Done
	for i := range n {
		d := went(1, n+i)
		d.At, d.Reads, d.Writes = 1, spans(span.Point(strconv.Itoa(i+1))), spans(span.Point(strconv.Itoa(i)))
		l = append(l, d)
	}
	return l
}

// Lists may be long, in any order, and each call ends soon.
func TestLongLists(t *testing.T) {
	var l []api.Done
	for i := range 100000 { // a few are live at once, always
		l = append(l, wrote(read(api.Done{Start: 5 * i, End: 5*i + 30}, uint64(i), "a"), uint64(i+1), "b"))
	}
	down := slices.Clone(l)
	slices.Reverse(down)
	for _, l := range [][]api.Done{l, down} {
		o, is := order.Order(l)
		if !is || len(o) != len(l) || !order.Right(l, o) {
			t.Fatalf("%d of %d are laid: %t", len(o), len(l), is)
		}
		for i, place := range o {
			if l[place].Start != 5*i {
				t.Fatalf("at %d is %+v", i, l[place])
			}
		}
		slices.Reverse(o)
		if order.Right(l, o) {
			t.Error("backward it is right")
		}
	}
	forth := chained(1500)
	back := slices.Clone(forth)
	slices.Reverse(back)
	for i := range back { // the one that must stand first has the greatest End
		back[i].End = i + 1
	}
	for _, l := range [][]api.Done{forth, back} {
		o, is := order.Order(l)
		if !is || !order.Right(l, o) {
			t.Fatalf("the chain is laid: %t", is)
		}
		slices.Reverse(o)
		if order.Right(l, o) {
			t.Error("the chain backward is right")
		}
	}
}
