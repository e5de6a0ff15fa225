package txn_test

import (
	"maps"
	"slices"
	"strconv"
	"strings"
	"testing"

	"conductor/api"
	"conductor/span"
	"conductor/txn"
)

// past is what one transaction did, with all that it was told.
type past struct {
	id, began, ended int
	saw              string // what all keys had when it began
	ops              []op   // what it was told
	told             []string
	commits          bool
	wrote            map[string]int // how often it wrote each key
}

// watch has a base with all that was done to it, step by step.
type watch struct {
	t                   *testing.T
	lim                 api.Limits
	b                   *txn.Base
	steps               int
	pasts               map[int]*past
	danger, clash, full int
}

func watched(t *testing.T, lim api.Limits) *watch {
	return &watch{t: t, lim: lim, b: made(t, lim), pasts: map[int]*past{}}
}

// seen is what all keys have for a transaction, which is asked of a clone, as whoever asks reads.
func (w *watch) seen(id int) string {
	c := w.b.Clone()
	l, err := c.Scan(id, "", "")
	if err != api.OK {
		w.t.Fatalf("Scan(%d) = %d", id, err)
	}
	for key := range w.pasts[id].wrote {
		l = slices.DeleteFunc(l, func(p api.Pair) bool { return p.Key == key })
	}
	return pairs(l)
}

// does does one op, and looks at what follows from the promises.
func (w *watch) does(o op) string {
	w.steps++
	id, kind, key, _ := o.parts()
	p, all, others := w.pasts[id], pairs(w.b.All()), w.others(id)
	told := o.done(w.b)
	switch {
	case kind == "+" && told != "E5":
		id, _ = strconv.Atoi(told)
		w.pasts[id] = &past{id: id, began: w.steps, saw: all, wrote: map[string]int{}}
	case p == nil || strings.HasPrefix(told, "E") && kind != "!":
	case kind == "=" || kind == "-":
		p.wrote[key]++
		fallthrough
	case kind == "?" || kind == ":":
		p.ops, p.told = append(p.ops, o), append(p.told, told)
	case p.ended == 0:
		p.ended, p.commits = w.steps, strings.HasPrefix(told, "@")
	}
	if kind != "!" || strings.HasPrefix(told, "E") { // P11.8
		if pairs(w.b.All()) != all {
			w.t.Fatalf("behind %q, which is told %s, there is %q, and was %q", o, told, pairs(w.b.All()), all)
		}
	}
	if kind == "!" {
		w.conflict(id, told)
	}
	if w.others(id) != others { // P11.5, P11.8
		w.t.Fatalf("behind %q, others read %q, and read %q ahead", o, w.others(id), others)
	}
	w.stays()
	w.isWithin()
	return told
}

// others is what all but one read.
func (w *watch) others(but int) string {
	var l []string
	for _, id := range w.b.Live() {
		if id != but && w.pasts[id] != nil {
			c := w.b.Clone()
			all, _ := c.Scan(id, "", "")
			l = append(l, strconv.Itoa(id)+": "+pairs(all))
		}
	}
	return strings.Join(l, "; ")
}

// stays tells whether all that are live read what there was when they began. (P11.5)
func (w *watch) stays() {
	for _, id := range w.b.Live() {
		p := w.pasts[id]
		var l []string
		for _, pair := range strings.Fields(p.saw) {
			if key, _, _ := strings.Cut(pair, "="); p.wrote[key] == 0 {
				l = append(l, pair)
			}
		}
		if got := w.seen(id); got != strings.Join(l, " ") {
			w.t.Fatalf("%d reads %q, and there was %q as it began", id, got, p.saw)
		}
	}
}

// conflict tells whether who has one did overlap with another one that committed. (P11.7)
func (w *watch) conflict(id int, told string) {
	if told == "E5" {
		w.full++
	}
	if told != "E100" && told != "E101" {
		return
	}
	if told == "E100" {
		w.clash++
	} else {
		w.danger++
	}
	for _, other := range w.pasts {
		if other.commits && other.ended > w.pasts[id].began {
			return
		}
	}
	w.t.Fatalf("%d is told %s, and is alone", id, told)
}

// isWithin tells whether nothing is above its limit. (P11.10)
func (w *watch) isWithin() {
	n := w.b.Count()
	is := n.Keys <= w.lim.Keys && n.Versions <= w.lim.Versions && n.Bytes <= w.lim.Bytes && w.b.Now() <= w.lim.Last
	is = is && len(w.b.Live()) <= w.lim.Live && len(w.b.Records()) <= w.lim.Records
	for _, r := range w.b.Records() {
		is = is && len(r.Reads) <= w.lim.Marks && len(r.Writes) <= w.lim.Marks
	}
	for _, d := range w.b.History() {
		is = is && len(d.Reads) <= w.lim.Marks && len(d.Writes) <= w.lim.Marks && span.Normal(d.Reads) && span.Normal(d.Writes)
	}
	if !is {
		w.t.Fatalf("of %+v, there is %s", w.lim, state(w.b))
	}
}

// committed are all that did, in no order.
func (w *watch) committed() []*past {
	return slices.DeleteFunc(slices.Collect(maps.Values(w.pasts)), func(p *past) bool { return !p.commits })
}

// firstWins tells whether no two that were live together wrote one key, and committed. Who lets a key go that has nothing does not write it. (P11.6)
func (w *watch) firstWins() {
	points := map[int][]api.Span{}
	for _, d := range w.b.History() {
		points[d.Id] = d.Writes
	}
	for _, a := range w.committed() {
		for _, b := range w.committed() {
			if a == b || a.ended < b.began || b.ended < a.began {
				continue
			}
			for key := range a.wrote {
				if b.wrote[key] > 0 && span.In(points[a.id], key) && span.In(points[b.id], key) && w.lim.Marks > 9 {
					w.t.Fatalf("%d and %d both wrote %q", a.id, b.id, key)
				}
			}
		}
	}
}

// serial tells whether all that committed could have gone one behind the other, in an order in which nobody who ended ahead of another one's beginning stands behind it: alone, on a plain map, each is told the same, and all of them leave what there is.
func (w *watch) serial() {
	m := modelled(wide)
	for _, d := range laid(w.t, w.b.History()) {
		p := w.pasts[d.Id]
		id, _ := m.Begin()
		for i, o := range p.ops {
			_, kind, key, rest := o.parts()
			alone := op(strconv.Itoa(id) + kind + key)
			if kind == "=" || kind == ":" {
				alone += op("," + rest)
			}
			if got := alone.done(m); got != p.told[i] {
				w.t.Fatalf("of %+v, in the order of %+v, %q of %d is told %s alone, and %s beside others", w.lim, w.b.History(), o, d.Id, got, p.told[i])
			}
		}
		m.Commit(id)
	}
	if pairs(m.All()) != pairs(w.b.All()) {
		w.t.Fatalf("one behind the other, they leave %q, and %q beside one another", pairs(m.All()), pairs(w.b.All()))
	}
}

func mustLead(a, b api.Done) bool {
	return a.End < b.Start || b.At > a.Began && span.Meet(a.Reads, b.Writes)
}

// laid lays those that committed in such an order.
func laid(t *testing.T, l []api.Done) []api.Done {
	t.Helper()
	var order []api.Done
	for left := slices.Clone(l); len(left) > 0; {
		first := slices.IndexFunc(left, func(b api.Done) bool {
			return !slices.ContainsFunc(left, func(a api.Done) bool { return a.Id != b.Id && mustLead(a, b) })
		})
		if first < 0 {
			t.Fatalf("these can't stand in any order: %+v", left)
		}
		order = append(order, left[first])
		left = slices.Delete(left, first, first+1)
	}
	return order
}

// ends has all that are live commit.
func (w *watch) ends() {
	for _, id := range w.b.Live() {
		w.does(op(strconv.Itoa(id) + "!"))
	}
	w.firstWins()
	w.serial()
}

// P11.5, P11.6, P11.7, P11.8, P11.10, in the midst of very many that come and go.
func TestFollows(t *testing.T) {
	clash, danger, full, committed := 0, 0, 0, 0
	for seed := range 500 {
		c := chance(seed)
		lim := c.limits()
		if seed%3 == 0 {
			lim = few(10+c.of(9), 1+c.of(9))
		}
		w := watched(t, lim)
		for range 80 {
			w.does(c.op(w.b.Live(), "abcdef"))
		}
		w.ends()
		clash, danger, full = clash+w.clash, danger+w.danger, full+w.full
		committed += len(w.committed())
	}
	if clash < 100 || danger < 100 || full < 100 || committed < 2000 {
		t.Errorf("%d have a clash, %d are in danger, for %d there is no room; %d commit", clash, danger, full, committed)
	}
}

// P11.1 to P11.4: all answers, and all that is told, as the model tells it.
func TestLikeModel(t *testing.T) {
	for seed := range 600 {
		c := chance(seed)
		lim := c.limits()
		ran(t, lim, c.ops(lim, 80, "abcdef"[:2+c.of(5)]))
	}
}

// ordersOf gives all orders of so many, each of which comes so often.
func ordersOf(left []int) [][]int {
	var all [][]int
	for i := range left {
		if left[i] == 0 {
			continue
		}
		rest := slices.Clone(left)
		rest[i]--
		for _, order := range ordersOf(rest) {
			all = append(all, append([]int{i}, order...))
		}
	}
	if all == nil {
		return [][]int{nil}
	}
	return all
}

// Two that do a few things, in each order in which they can come: as the model tells it, and with all that follows.
func TestAllOrdersOfTwo(t *testing.T) {
	orders := ordersOf([]int{4, 4})
	kinds := [][]string{{"?a", "=b,1"}, {"?b", "=a,2"}, {"?a", "=a,3"}, {"=a,4", "?b"}, {"-a", "=b,5"}, {":,", "=a,6"}, {"-a", "-b"}, {"?a", "?b"}, {"=a,7", "-a"}}
	danger := 0
	for _, x := range kinds {
		for _, y := range kinds {
			for _, start := range []string{"", "+ 1=a,0 1!"} {
				for _, order := range orders {
					w := watched(t, few(20, 20))
					l := ops(start)
					ids, next, live := [2]string{}, [2]int{}, 1+len(l)/3
					for _, i := range order {
						if ids[i] == "" {
							ids[i] = strconv.Itoa(live)
							live++
							l = append(l, "+")
							continue
						}
						l = append(l, op(ids[i]+append([][]string{x, y}[i], "!")[next[i]]))
						next[i]++
					}
					ran(t, w.lim, l)
					for _, o := range l {
						w.does(o)
					}
					w.ends()
					danger += w.danger
				}
			}
		}
	}
	if danger == 0 {
		t.Error("nobody is in danger")
	}
}

// Three that read a letter, and write one, or none, in each order in which they can begin and commit: what commits could have gone one behind the other.
func TestAllOrdersOfThree(t *testing.T) {
	var kinds [][2]string
	for _, read := range []string{"a", "b", "c"} {
		for _, write := range []string{"", "a", "b", "c"} {
			kinds = append(kinds, [2]string{read, write})
		}
	}
	danger := 0
	for i := range len(kinds) * len(kinds) * len(kinds) {
		each := [3][2]string{kinds[i%12], kinds[i/12%12], kinds[i/144]}
		for _, order := range ordersOf([]int{2, 2, 2}) {
			b := made(t, few(9, 1+i%3))
			ids := [3]int{}
			for _, j := range order {
				if ids[j] > 0 {
					if _, err := b.Commit(ids[j]); err == api.ErrDanger {
						danger++
					}
					continue
				}
				ids[j], _ = b.Begin()
				b.Read(ids[j], each[j][0])
				if each[j][1] != "" {
					b.Write(ids[j], api.Write{Key: each[j][1]})
				}
			}
			laid(t, b.History())
		}
	}
	if danger == 0 {
		t.Error("nobody is in danger")
	}
}

// P11.9: but for sizes, all is told the same without Collect.
func TestCollectingIsNotSeen(t *testing.T) {
	went, full := 0, 0
	for seed := range 600 {
		c := chance(seed)
		lim := c.limits()
		lim.Versions, lim.Bytes = lim.Versions/2+1, lim.Bytes/2+1
		one, other := made(t, lim), made(t, lim)
		for range 120 {
			o := c.op(one.Live(), "abc")
			if c.of(5) == 0 {
				went += one.Collect()
			}
			if o == "*" {
				continue
			}
			got, want := o.done(one), o.done(other)
			if got != want || unsized(one) != unsized(other) {
				t.Fatalf("%q is told %s with collecting, and %s without; there is\n%s, and\n%s", o, got, want, state(one), state(other))
			}
			if got == "E5" && o != "+" {
				full++
			}
		}
	}
	if went < 100 || full < 100 {
		t.Errorf("%d versions went, and %d found no room", went, full)
	}
}

// P11.7: who is alone has no conflict, whatever others did ahead, behind, or without a commit beside it.
func TestAlone(t *testing.T) {
	for seed := range 300 {
		c := chance(seed)
		b := made(t, few(1+c.of(3), 1+c.of(3)))
		for range c.of(9) {
			b.Begin() // they live on, so that all stays known
			for range c.of(6) {
				id, _ := b.Begin()
				for range c.of(5) {
					ops(strings.ReplaceAll("#?a #=b,1 #:a,c #-c #=a,2 #?b #-b", "#", strconv.Itoa(id)))[c.of(7)].done(b)
				}
				if c.of(4) == 0 {
					b.Abort(id)
				} else if _, err := b.Commit(id); err != api.OK {
					t.Fatalf("%d: %d", id, err)
				}
			}
		}
	}
}
