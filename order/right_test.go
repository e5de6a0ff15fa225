package order_test

import (
	"slices"
	"testing"

	"conductor/api"
	"conductor/order"
)

// P12.3
func TestRight(t *testing.T) {
	free := list(went(1, 9), went(1, 9), went(1, 9))
	behind := list(went(1, 2), went(3, 4), went(5, 6))
	reads := list(read(went(1, 4), 0, "x"), wrote(went(2, 3), 1, "x"))
	own := wrote(read(went(1, 9), 0, "x"), 1, "x")
	for _, x := range []struct {
		l     []api.Done
		order []int
		want  bool
	}{
		{nil, nil, true},
		{list(), places(), true},
		{nil, places(0), false},
		{nil, places(-1), false},
		{free[:1], places(0), true},
		{free[:1], nil, false},
		{free[:1], places(1), false},
		{free[:1], places(-1), false},
		{free[:1], places(least), false},
		{free[:1], places(greatest), false},
		{free[:1], places(0, 0), false},
		{free[:1], places(0, 1), false},
		// each just once, and nothing else
		{free, places(0, 1, 2), true},
		{free, places(2, 1, 0), true},
		{free, places(1, 2, 0), true},
		{free, nil, false},
		{free, places(0, 1), false},
		{free, places(1, 2), false},
		{free, places(0, 1, 2, 0), false},
		{free, places(0, 1, 2, 3), false},
		{free, places(-1, 0, 1, 2), false},
		{free, places(0, 1, 1), false},
		{free, places(0, 0, 1), false},
		{free, places(0, 0, 0), false},
		{free, places(0, 1, 3), false},
		{free, places(1, 2, 3), false},
		{free, places(3, 1, 2), false},
		{free, places(0, 1, -1), false},
		{free, places(-1, 1, 2), false},
		{free, places(0, least, 2), false},
		{free, places(0, 1, greatest), false},
		// none stands ahead of one that must stand ahead of it
		{behind, places(0, 1, 2), true},
		{behind, places(0, 2, 1), false},
		{behind, places(1, 0, 2), false},
		{behind, places(1, 2, 0), false},
		{behind, places(2, 0, 1), false},
		{behind, places(2, 1, 0), false},
		{reads, places(0, 1), true},
		{reads, places(1, 0), false},
		// but itself
		{list(own), places(0), true},
		{list(went(2, 1)), places(0), true},
		{list(own, own), places(0, 1), false},
		{list(own, own), places(1, 0), false},
		{list(own, went(1, 5)), places(0, 1), true},
		{list(own, went(1, 5)), places(1, 0), true},
	} {
		for range 2 { // R5
			if got := order.Right(x.l, x.order); got != x.want {
				t.Errorf("Right(%+v, %v) = %t", x.l, x.order, got)
			}
		}
		if isRight(x.l, x.order) != x.want {
			t.Errorf("%v of %+v: the chapter says otherwise", x.order, x.l)
		}
	}
}

// P12.3: an order that is not the one that Order tells may be right, too.
func TestRightOfOthers(t *testing.T) {
	others, wrong := 0, 0
	for seed := range 3000 {
		c := chance(seed)
		l := c.history(5, 3)
		told, is := order.Order(l)
		for _, o := range ordersOf(len(l)) {
			right := order.Right(l, o)
			if right != isRight(l, o) {
				t.Fatalf("Right(%+v, %v) = %t", l, o, right)
			}
			if right && !is {
				t.Fatalf("%+v has the order %v, and is not laid", l, o)
			}
			if right && !slices.Equal(o, told) {
				others++
			} else if !right {
				wrong++
			}
		}
	}
	if others < 1000 || wrong < 1000 {
		t.Errorf("%d others are right, %d are wrong", others, wrong)
	}
}

// P12.3: whatever the order has.
func TestRightOfMany(t *testing.T) {
	right := 0
	for seed := range 60000 {
		c := chance(seed)
		l := c.anyOf(4)
		if c.of(2) == 0 {
			l = c.history(6, 4)
		}
		o, _ := order.Order(l)
		for range c.of(3) {
			if len(o) == 0 || c.of(9) == 0 {
				o = append(o, c.of(len(l)+2)-1)
				continue
			}
			i, j := c.of(len(o)), c.of(len(o))
			switch c.of(3) {
			case 0:
				o[i] = c.of(len(l)+2) - 1
			case 1:
				o = slices.Delete(o, i, i+1)
			default:
				o[i], o[j] = o[j], o[i]
			}
		}
		got := order.Right(l, o)
		if got != isRight(l, o) {
			t.Fatalf("Right(%+v, %v) = %t", l, o, got)
		}
		if got {
			right++
		}
	}
	if right < 10000 || right > 50000 {
		t.Errorf("%d are right", right)
	}
}
