package ssi_test

import (
	"slices"
	"testing"

	"conductor/api"
	"conductor/span"
	"conductor/ssi"
)

// These try what the whole is for: that all that commit could have gone one behind the other.

// went is one that is live, or that committed, with all that it read and wrote, however few marks there are.
type went struct {
	start, end    int
	began, at     uint64
	reads, writes []api.Span
	marks         []api.Span
}

// mustLead tells whether a must stand ahead of b.
func mustLead(a, b went) bool {
	return a.end < b.start || b.at > a.began && meet(a.reads, b.writes)
}

// inRing tells whether some of these can't be laid one behind the other.
func inRing(l []went) bool {
	l = slices.Clone(l)
	for len(l) > 0 {
		first := slices.IndexFunc(l, func(b went) bool {
			return !slices.ContainsFunc(l, func(a went) bool { return a.start != b.start && mustLead(a, b) })
		})
		if first < 0 {
			return true
		}
		l = slices.Delete(l, first, first+1)
	}
	return false
}

// machine is what goes on: some are live, others committed, each at a time.
type machine struct {
	chance
	n, marks int
	judge    bool
	now      uint64
	tick     int
	live     []went
	all      []went
	records  []api.Record
	refused  int
}

func (m *machine) begin() {
	m.tick++
	m.live = append(m.live, went{start: m.tick, began: m.now})
}

// commits ends the one at i, unless another one wrote the same key first, or it is in danger.
func (m *machine) commits(i int) {
	w := m.live[i]
	m.live = slices.Delete(m.live, i, i+1)
	defer m.forget()
	if slices.ContainsFunc(m.all, func(other went) bool { return other.at > w.began && meet(other.writes, w.writes) }) {
		return
	}
	r := api.Record{Began: w.began, Reads: w.marks, Writes: span.Fit(w.writes, m.marks)}
	n, err := ssi.Judge(m.records, r)
	if err != api.OK && m.judge {
		m.refused++
		return
	}
	if len(w.writes) > 0 {
		m.now++
	}
	m.tick++
	w.at, w.end = m.now, m.tick
	r.First, r.Last, r.Out = max(m.now, 1), max(m.now, 1), n
	m.all = append(m.all, w)
	m.records = append(m.records, r)
}

func (m *machine) forget() {
	low := m.now
	for _, w := range m.live {
		low = min(low, w.began)
	}
	m.records = ssi.Fit(ssi.Forget(m.records, low), m.n, m.marks)
}

// step does one of a few things, at random.
func (m *machine) step() {
	if len(m.live) == 0 || len(m.live) < 5 && m.of(4) == 0 {
		m.begin()
		return
	}
	i := m.of(len(m.live))
	w := &m.live[i]
	key := "abcdef"[m.of(6):]
	switch m.of(5) {
	case 0, 1:
		s := span.Point(key[:1])
		if m.of(5) == 0 {
			s = to(key[:1], "c")
		}
		w.reads = span.Add(w.reads, s)
		w.marks = span.Fit(span.Add(w.marks, s), m.marks)
	case 2:
		w.writes = span.Add(w.writes, span.Point(key[:1]))
	default:
		m.commits(i)
	}
}

func (m *machine) run(steps int) *machine {
	for range steps {
		m.step()
	}
	for len(m.live) > 0 {
		m.commits(m.of(len(m.live)))
	}
	return m
}

func TestSerial(t *testing.T) {
	refused, rings, committed := 0, 0, 0
	for seed := range 6000 {
		c := chance(seed)
		n, marks := 1<<c.of(6), 1<<c.of(4)
		m := (&machine{chance: c, n: n, marks: marks, judge: true}).run(60)
		if inRing(m.all) {
			t.Fatalf("%d: %d records of %d marks: what committed can't stand in any order: %v", seed, n, marks, m.all)
		}
		refused += m.refused
		committed += len(m.all)
		if inRing((&machine{chance: c, n: n, marks: marks}).run(60).all) {
			rings++
		}
	}
	if refused == 0 || committed < 10*refused || rings < 600 {
		t.Errorf("%d are refused, %d commit; %d are in rings if all may", refused, committed, rings)
	}
}

// ordersOf gives all orders of so many, each of which comes twice: it begins, and commits.
func ordersOf(left []int) [][]int {
	var all [][]int
	for i := range left {
		if left[i] == 0 {
			continue
		}
		rest := slices.Clone(left)
		rest[i]--
		for _, order := range ordersOf(rest) {
			all = append(all, append([]int{i}, order...))
		}
	}
	if all == nil {
		return [][]int{nil}
	}
	return all
}

// inOrder has these begin and commit in an order: each reads a letter, if any, and writes a letter, if any.
func (m *machine) inOrder(each [3][2]string, order []int) *machine {
	var starts [3]int
	for _, i := range order {
		if starts[i] > 0 {
			m.commits(slices.IndexFunc(m.live, func(w went) bool { return w.start == starts[i] }))
			continue
		}
		m.begin()
		w := &m.live[len(m.live)-1]
		starts[i] = w.start
		w.reads, w.marks, w.writes = at(each[i][0]), at(each[i][0]), at(each[i][1])
	}
	return m
}

// All orders of all three that read a letter, and write one, or none.
func TestSerialOfAllOfThree(t *testing.T) {
	orders := ordersOf([]int{2, 2, 2})
	if len(orders) != 90 {
		t.Fatalf("%d orders", len(orders))
	}
	var kinds [][2]string
	for _, read := range []string{"a", "b", "c"} {
		for _, write := range []string{"", "a", "b", "c"} {
			kinds = append(kinds, [2]string{read, write})
		}
	}
	refused, rings := 0, 0
	for i := range len(kinds) * len(kinds) * len(kinds) {
		each := [3][2]string{kinds[i%12], kinds[i/12%12], kinds[i/144]}
		for _, order := range orders {
			m := (&machine{n: 9, marks: 9, judge: true}).inOrder(each, order)
			if inRing(m.all) {
				t.Fatalf("%v in the order %v: %v", each, order, m.all)
			}
			if m.refused == 0 {
				continue
			}
			refused++
			if inRing((&machine{n: 9, marks: 9}).inOrder(each, order).all) {
				rings++
			}
		}
	}
	if rings == 0 || refused < rings {
		t.Errorf("in %d one is refused, in %d of these there is a ring if all may", refused, rings)
	}
}
