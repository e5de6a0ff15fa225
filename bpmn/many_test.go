package bpmn_test

import (
	"slices"
	"strconv"
	"strings"
	"testing"

	"conductor/api"
	"conductor/bpmn"
	"conductor/fault"
)

// ofKind gives what is told without the numbers of nodes, flows and bytes.
func ofKind(text string) string {
	var words []string
	for _, word := range strings.Split(text, ": ") {
		if !strings.HasPrefix(word, "error") {
			word, _, _ = strings.Cut(word, " ")
		}
		words = append(words, word)
	}
	return strings.Join(words, ": ")
}

// P13.1: whatever they are.
func TestCheckOfMany(t *testing.T) {
	texts := map[string]int{}
	for seed := range 40000 {
		c := chance(seed)
		d := c.any()
		want := wrong(d)
		isTold(t, d, want)
		texts[ofKind(want)]++
	}
	for _, kind := range []string{
		"", "error 30", "error 131",
		"node: error 1", "node: error 30", "node: error 130", "node: error 3", "node: at: error 6", "node: at: error 8", "node: at: error 9", "node: at: error 30", "node: at: error 50", "node: error 131", "node: error 132",
		"flow: error 1", "flow: error 131", "flow: error 132", "flow: error 130", "flow: error 3", "flow: at: error 6", "flow: at: error 8",
	} {
		if texts[kind] < 10 {
			t.Errorf("%q is told %d times", kind, texts[kind])
		}
	}
}

// P13.1: each one that is right by chance is right however its nodes and flows are laid, as long as each stands behind those that it must.
func TestCheckOfManyOrders(t *testing.T) {
	for seed := range 1000 {
		c := chance(seed)
		d := c.right()
		for range 3 {
			isTold(t, d, "")
			d = c.laid(d)
		}
	}
}

// P13.1: all processes of three nodes of some kinds, with all flows that there may be among them.
func TestCheckOfAllOfAFew(t *testing.T) {
	some := []int{api.NkStart, api.NkEnd, api.NkTask, api.NkXor, api.NkAny, api.NkSignal, api.NkSub, api.NkOnError}
	right := 0
	for i := range len(some) * len(some) * len(some) {
		d := api.Def{Name: "p"}
		for number, kind := range []int{some[i%8], some[i/8%8], some[i/64]} {
			n := made(kind, "n"+strconv.Itoa(number))
			if kind == api.NkOnError {
				n.At = number - 1
			}
			d.Nodes = append(d.Nodes, n)
		}
		for flows := range 1 << 9 {
			d.Flows = d.Flows[:0]
			for j := range 9 {
				if flows>>j&1 == 1 {
					d.Flows = append(d.Flows, api.Flow{From: j / 3, To: j % 3})
				}
			}
			want := wrong(d)
			if err := bpmn.Check(d); fault.Text(err) != want {
				t.Fatalf("Check(%+v) = %q, want %q", d, fault.Text(err), want)
			}
			if want == "" {
				right++
			}
		}
	}
	if right < 20 || right > 10000 {
		t.Errorf("%d are right", right)
	}
}

// P13.3: what is reached in steps is reached onward; one step is a flow of the node, or of a bound at it; nothing is reached across a border.
func TestReached(t *testing.T) {
	over := 0
	for seed := range 600 {
		c := chance(seed)
		d := c.right()
		g := graphOf(t, d)
		one := func(from, to int) bool {
			return slices.ContainsFunc(append([]int{from}, g.Bounds(from)...), func(n int) bool {
				return slices.ContainsFunc(g.Outs(n), func(f int) bool { return d.Flows[f].To == to })
			})
		}
		for a := range d.Nodes {
			for b := range d.Nodes {
				is := g.Reach(a, b)
				if is && d.Nodes[a].Up != d.Nodes[b].Up || !is && one(a, b) {
					t.Fatalf("Reach(%d, %d) of %+v = %t", a, b, d, is)
				}
				first := one(a, b)
				for between := range d.Nodes {
					if is && g.Reach(b, between) && !g.Reach(a, between) {
						t.Fatalf("Reach(%d, %d) of %+v is false, over %d", a, between, d, b)
					}
					first = first || one(a, between) && g.Reach(between, b)
				}
				if is != first {
					t.Fatalf("Reach(%d, %d) of %+v = %t, but there is a first step: %t", a, b, d, is, first)
				}
				if is && !one(a, b) {
					over++
				}
			}
		}
	}
	if over < 10000 {
		t.Errorf("%d are reached over others", over)
	}
}

// P13.4: one start, flows that both ends tell, and a way in.
func TestWhole(t *testing.T) {
	for seed := range 2000 {
		c := chance(seed)
		d := c.any()
		g, err := bpmn.New(d)
		if err != nil {
			continue
		}
		if count(d.Nodes, startsIn(-1)) != 1 || !startsIn(-1)(d.Nodes[g.Start(-1)]) {
			t.Fatalf("%+v starts at %d", d, g.Start(-1))
		}
		outs, ins := 0, 0
		for i, n := range d.Nodes {
			outs, ins = outs+len(g.Outs(i)), ins+len(g.Ins(i))
			if len(g.Ins(i)) == 0 != (n.Kind == api.NkStart || holdsAny(n.Kind, "b")) {
				t.Fatalf("to the node %d of %+v go %v", i, d, g.Ins(i))
			}
			if n.Kind == api.NkSub && g.Start(i) < 0 {
				t.Fatalf("the node %d of %+v has no start", i, d)
			}
		}
		for i, f := range d.Flows {
			if !slices.Contains(g.Outs(f.From), i) || !slices.Contains(g.Ins(f.To), i) {
				t.Fatalf("the flow %d of %+v is not told", i, d)
			}
		}
		if outs != len(d.Flows) || ins != len(d.Flows) {
			t.Fatalf("of the flows of %+v %d are told from a node, %d to one", d, outs, ins)
		}
	}
}
