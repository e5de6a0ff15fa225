package order_test

import (
	"math"
	"slices"
	"testing"

	"conductor/api"
	"conductor/order"
	"conductor/span"
)

const (
	least    = math.MinInt
	greatest = math.MaxInt
	last     = math.MaxUint64
)

func to(lo, hi string) api.Span {
	return api.Span{Lo: lo, Hi: hi}
}

func spans(l ...api.Span) []api.Span {
	return l
}

// at gives the points of these keys, each of one letter.
func at(letters string) []api.Span {
	var l []api.Span
	for i := range len(letters) {
		l = append(l, span.Point(letters[i:i+1]))
	}
	return l
}

// went is one that began and ended by these events, and did nothing.
func went(start, end int) api.Done {
	return api.Done{Start: start, End: end}
}

// read is the same, but that it read these letters as of then.
func read(d api.Done, began uint64, letters string) api.Done {
	d.Began, d.Reads = began, at(letters)
	return d
}

// wrote is the same, but that it wrote these letters then.
func wrote(d api.Done, n uint64, letters string) api.Done {
	d.At, d.Writes = n, at(letters)
	return d
}

func list(l ...api.Done) []api.Done {
	return l
}

func places(l ...int) []int {
	return l
}

// The following are what the chapter says, in another way.

func isIn(l []api.Span, key string) bool {
	for _, s := range l {
		if s.Lo <= key && (len(s.Hi) == 0 || s.Hi > key) {
			return true
		}
	}
	return false
}

// meet asks each text at which a stretch begins: if some lie in both lists, such a one does.
func meet(a, b []api.Span) bool {
	for _, l := range [][]api.Span{a, b} {
		for _, s := range l {
			if isIn(a, s.Lo) && isIn(b, s.Lo) {
				return true
			}
		}
	}
	return false
}

func mustLead(a, b api.Done) bool {
	if b.Start > a.End {
		return true
	}
	return a.Began < b.At && meet(a.Reads, b.Writes)
}

// leads gives all that mustLead tells of a list: of each place, those that must stand ahead of it, itself not among them.
func leads(l []api.Done) [][]int {
	all := make([][]int, len(l))
	for i, b := range l {
		for j, a := range l {
			if j != i && mustLead(a, b) {
				all[i] = append(all[i], j)
			}
		}
	}
	return all
}

// laid lays a list step by step, as P12.2 says it.
func laid(l []api.Done) ([]int, bool) {
	all := leads(l)
	var out []int
	for range l {
		best := -1
		for i, ahead := range all {
			left := slices.ContainsFunc(ahead, func(j int) bool { return !slices.Contains(out, j) })
			if !slices.Contains(out, i) && !left && (best < 0 || l[i].End < l[best].End) {
				best = i
			}
		}
		if best < 0 {
			return nil, false
		}
		out = append(out, best)
	}
	return out, true
}

// isRight looks at all pairs, as P12.3 says it.
func isRight(l []api.Done, order []int) bool {
	sorted := slices.Sorted(slices.Values(order))
	if len(sorted) != len(l) {
		return false
	}
	for i, place := range sorted {
		if i != place {
			return false
		}
	}
	for i, early := range order {
		for _, late := range order[i+1:] {
			if mustLead(l[late], l[early]) {
				return false
			}
		}
	}
	return true
}

// inRing tells whether some of these, whichever, each have another one of them ahead. It tries all that there are.
func inRing(l []api.Done) bool {
	all := leads(l)
	for some := 1; some < 1<<len(l); some++ {
		ring := true
		for i, ahead := range all {
			ring = ring && (some>>i&1 == 0 || slices.ContainsFunc(ahead, func(j int) bool { return some>>j&1 == 1 }))
		}
		if ring {
			return true
		}
	}
	return false
}

// ordersOf gives all orders of n places.
func ordersOf(n int) [][]int {
	if n == 0 {
		return [][]int{nil}
	}
	var all [][]int
	for _, shorter := range ordersOf(n - 1) {
		for i := range n {
			all = append(all, slices.Insert(slices.Clone(shorter), i, n-1))
		}
	}
	return all
}

// isOrder tells whether a list is laid so; with no order there is nothing (R2).
func isOrder(t *testing.T, l []api.Done, want []int, is bool) {
	t.Helper()
	got, ok := order.Order(l)
	if ok != is || !slices.Equal(got, want) || !ok && got != nil {
		t.Fatalf("Order(%+v) = %v, %t, want %v, %t", l, got, ok, want, is)
	}
}

// isLaid tells whether a list is laid as the chapter says, with all that follows: P12.4, P12.6.
func isLaid(t *testing.T, l []api.Done) bool {
	t.Helper()
	want, is := laid(l)
	isOrder(t, l, want, is)
	if !is {
		return false
	}
	got, _ := order.Order(l)
	if !order.Right(l, got) || !isRight(l, got) {
		t.Fatalf("Order(%+v) = %v, which is not right", l, got)
	}
	for i, early := range got {
		for _, late := range got[i+1:] {
			if l[late].End < l[early].Start {
				t.Fatalf("Order(%+v) = %v, but %d ended ahead of %d", l, got, late, early)
			}
		}
	}
	return true
}

// chance gives numbers that are the same each time.
type chance uint64

func (c *chance) of(n int) int {
	*c = *c*6364136223846793005 + 1442695040888963407
	return int(uint64(*c>>33) % uint64(n))
}

// keys gives a few stretches, right or not.
func (c *chance) keys(most int) []api.Span {
	texts := []string{"", "\x00", "a", "a\x00", "b", "c", "d", "e", "\xff"}
	var l []api.Span
	for range c.of(most + 1) {
		s := span.Point(texts[c.of(len(texts))])
		if c.of(3) == 0 {
			s.Hi = texts[c.of(len(texts))]
		}
		l = append(l, s)
	}
	return l
}

// any gives one of any kind, whether it could be or not.
func (c *chance) any() api.Done {
	events := []int{least, -1, 0, 1, 2, 3, 4, 5, 6, greatest}
	times := []uint64{0, 1, 2, 3, 4, last - 1, last}
	event := func() int { return events[c.of(len(events))] }
	time := func() uint64 { return times[c.of(len(times))] }
	return api.Done{Id: event(), Began: time(), At: time(), Start: event(), End: event(), Reads: c.keys(2), Writes: c.keys(2)}
}

func (c *chance) anyOf(most int) []api.Done {
	var l []api.Done
	for range c.of(most + 1) {
		l = append(l, c.any())
	}
	return l
}

// beside gives up to so many that are all beside one another, so that what they read alone tells their order.
func (c *chance) beside(most, letters int) []api.Done {
	var l []api.Done
	for range c.of(most + 1) {
		key := func() string { return "abcdefghijklmnop"[c.of(letters):][:1] }
		l = append(l, wrote(read(went(1, 100+c.of(5)), uint64(c.of(3)), key()), uint64(c.of(4)), key()))
	}
	return l
}

// history gives up to so many, each of which begins and ends by events of its own, with few live at once; who writes does so at a time of its own.
func (c *chance) history(most, live int) []api.Done {
	var all, now []api.Done
	event, time := 0, uint64(0)
	for range 2 * most {
		event++
		if len(now) == 0 || len(now) < live && c.of(2) == 0 {
			now = append(now, api.Done{Id: event, Began: time, Start: event, Reads: c.keys(2)})
			continue
		}
		i := c.of(len(now))
		d := now[i]
		now = slices.Delete(now, i, i+1)
		if c.of(3) > 0 {
			time++
			d.Writes = at("abcde"[c.of(5):][:1])
		}
		d.At, d.End = time, event
		all = append(all, d)
	}
	return all
}

// shuffled gives the same in another order.
func (c *chance) shuffled(l []api.Done) []api.Done {
	l = slices.Clone(l)
	for i := range l {
		j := c.of(i + 1)
		l[i], l[j] = l[j], l[i]
	}
	return l
}
