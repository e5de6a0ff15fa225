package bpmn_test

import (
	"math"
	"slices"
	"testing"

	"conductor/api"
	"conductor/bpmn"
	"conductor/expr"
	"conductor/fault"
)

// strange are numbers of no node, and of no flow, of any process.
var strange = []int{math.MinInt, -1 << 32, -2, -1, 80, 81, 255, 1 << 32, math.MaxInt}

// P13.2: the chapter's example, and all kinds.
func TestGraph(t *testing.T) {
	d := all()
	g := graphOf(t, d)
	if !bpmn.Same(g.Def(), d) {
		t.Errorf("Def = %+v", g.Def())
	}
	number := func(name string) int { return numberOf(d, name) }
	numbers := func(names ...string) []int {
		var l []int
		for _, name := range names {
			l = append(l, number(name))
		}
		return l
	}
	flows := func(texts ...string) []int {
		var l []int
		for _, text := range texts {
			l = append(l, slices.Index(d.Flows, flowOf(d, text)))
		}
		return l
	}
	for _, x := range []struct {
		name              string
		ins, outs, bounds []int
	}{
		{"s", nil, flows("s>x"), nil},
		{"x", flows("s>x", "broke>x"), flows("x>t?a>1", "x>u*"), nil},
		{"t", flows("x>t?a>1"), flows("t>o"), numbers("late", "heard")},
		{"u", flows("x>u*"), flows("u>o"), numbers("came", "broke")},
		{"us", nil, flows("us>uc"), nil},
		{"ua", flows("uc>ua"), flows("ua>ut", "ua>uq"), nil},
		{"uq", flows("ua>uq"), nil, nil},
		{"y", flows("o>y?b"), flows("y>w", "y>m", "y>g"), nil},
		{"j", flows("o>j*", "w>j", "m>j", "g>j", "f>j"), flows("j>e"), nil},
		{"late", nil, flows("late>h"), nil},
		{"h", flows("late>h"), nil, nil},
		{"z", flows("came>z", "heard>z"), nil, nil},
	} {
		i := number(x.name)
		if !slices.Equal(g.Ins(i), x.ins) || !slices.Equal(g.Outs(i), x.outs) || !slices.Equal(g.Bounds(i), x.bounds) || g.Number(x.name) != i {
			t.Errorf("%s is %d: %v, %v, %v", x.name, g.Number(x.name), g.Ins(i), g.Outs(i), g.Bounds(i))
		}
	}
	if g.Start(-1) != number("s") || g.Start(number("u")) != number("us") {
		t.Errorf("Start = %d, %d", g.Start(-1), g.Start(number("u")))
	}
	for _, name := range []string{"", "p", "q", "S", "s ", "tt", "late\x00"} {
		if g.Number(name) != -1 {
			t.Errorf("Number(%q) = %d", name, g.Number(name))
		}
	}
}

// P13.2: a bound that stands at another node, with other names and numbers of flows, in any order.
func TestGraphInOrder(t *testing.T) {
	d := drawn("sub:u u/end:ue task:t onerror:x@u ontimer:a@t onsignal:b@u onmessage:c@t end:e start:s u/start:us ontimer:d@u", "c>e u>t t>e us>ue d>e b>t x>t a>t s>u")
	g := graphOf(t, d)
	if l := g.Bounds(0); !slices.Equal(l, []int{3, 5, 10}) {
		t.Errorf("Bounds(0) = %v", l)
	}
	if l := g.Bounds(2); !slices.Equal(l, []int{4, 6}) {
		t.Errorf("Bounds(2) = %v", l)
	}
	if l := g.Ins(2); !slices.Equal(l, []int{1, 5, 6, 7}) {
		t.Errorf("Ins(2) = %v", l)
	}
	if l := g.Ins(7); !slices.Equal(l, []int{0, 2, 4}) {
		t.Errorf("Ins(7) = %v", l)
	}
	if g.Start(-1) != 8 || g.Start(0) != 9 {
		t.Errorf("Start = %d, %d", g.Start(-1), g.Start(0))
	}
}

// P13.2: terms stand where there is such an expression, and nowhere else.
func TestTerms(t *testing.T) {
	d := changed(all(), func(d *api.Def) {
		for i := range d.Nodes {
			n := &d.Nodes[i]
			if n.Kind == api.NkOnError {
				n.Text = "code"
			}
			if holdsAny(n.Kind, "x") {
				n.Text = n.Name + " * 2"
			}
			if holdsAny(n.Kind, "k") {
				n.Key = n.Name + ` + "k"`
			}
		}
	})
	g := graphOf(t, d)
	terms := 0
	for i, n := range d.Nodes {
		var text, key []api.Term
		if holdsAny(n.Kind, "x") {
			text, _ = expr.Parse(n.Text)
		}
		if holdsAny(n.Kind, "k") {
			key, _ = expr.Parse(n.Key)
		}
		if !expr.Same(g.Text(i), text) || !expr.Same(g.Key(i), key) || text == nil && g.Text(i) != nil || key == nil && g.Key(i) != nil {
			t.Errorf("%s has %v and %v", n.Name, g.Text(i), g.Key(i))
		}
		terms += len(text) + len(key)
	}
	for i, f := range d.Flows {
		var want []api.Term
		if f.If != "" {
			want, _ = expr.Parse(f.If)
		}
		if !expr.Same(g.If(i), want) || want == nil && g.If(i) != nil {
			t.Errorf("the flow %d has %v", i, g.If(i))
		}
		terms += len(want)
	}
	if terms < 20 {
		t.Errorf("%d terms", terms)
	}
}

// P13.2: of no node, and of no flow.
func TestGraphOfNoNode(t *testing.T) {
	for _, d := range []api.Def{line(), all(), crowd(40, 80), crowd(40, 40)} {
		g := graphOf(t, d)
		for _, i := range append([]int{len(d.Nodes), len(d.Nodes) + 1, 40, 63, 64, 65}, strange...) {
			if i >= 0 && i < len(d.Nodes) {
				continue
			}
			if g.Outs(i) != nil || g.Ins(i) != nil || g.Bounds(i) != nil || g.Text(i) != nil || g.Key(i) != nil {
				t.Errorf("the node %d has something", i)
			}
			if i != -1 && g.Start(i) != -1 {
				t.Errorf("Start(%d) = %d", i, g.Start(i))
			}
			for _, other := range []int{i, 0, len(d.Nodes) - 1, -1} {
				if g.Reach(i, other) || g.Reach(other, i) {
					t.Errorf("Reach of %d and %d", i, other)
				}
			}
		}
		for _, i := range append([]int{len(d.Flows)}, strange...) {
			if (i < 0 || i >= len(d.Flows)) && g.If(i) != nil {
				t.Errorf("If(%d) = %v", i, g.If(i))
			}
		}
		for i, n := range d.Nodes { // who is no subprocess has no start
			if n.Kind != api.NkSub && g.Start(i) != -1 {
				t.Errorf("Start(%d) = %d", i, g.Start(i))
			}
		}
	}
}

// P13.2, R6: of a Graph that no call made.
func TestGraphThatNoCallMade(t *testing.T) {
	refused, _ := bpmn.New(api.Def{})
	for _, g := range []*bpmn.Graph{nil, {}, new(bpmn.Graph), refused} {
		if d := g.Def(); d.Name != "" || d.Nodes != nil || d.Flows != nil {
			t.Errorf("Def = %+v", d)
		}
		for _, i := range append([]int{0, 1}, strange...) {
			if g.Outs(i) != nil || g.Ins(i) != nil || g.Bounds(i) != nil || g.Text(i) != nil || g.Key(i) != nil || g.If(i) != nil {
				t.Errorf("at %d is something", i)
			}
			if g.Start(i) != -1 || g.Reach(i, i) || g.Reach(i, 0) {
				t.Errorf("Start(%d) = %d, or it is reached", i, g.Start(i))
			}
		}
		for _, name := range []string{"", "s"} {
			if g.Number(name) != -1 {
				t.Errorf("Number(%q) = %d", name, g.Number(name))
			}
		}
	}
}

// P13.2: steps, one at least.
func TestReach(t *testing.T) {
	for _, x := range []struct {
		nodes, flows string
		reached      string // who is reached from each node, by their names
	}{
		{"start:s task:t end:e", "s>t t>e", "te e -"},
		// round
		{"start:s and:a task:t end:e", "s>a a>t t>a a>e", "ate ate ate -"},
		{"start:s end:e task:t", "s>e t>t", "e - t"},
		{"start:s end:e task:a task:b task:c", "s>e a>b b>c c>a", "e - abc abc abc"},
		// against the numbers
		{"end:e task:d task:c task:b task:a start:s", "s>a a>b b>c c>d d>e", "- e ed edc edcb edcba"},
		// by bounds, which are not reached themselves
		{"start:s task:t ontimer:o@t end:e end:f", "s>t t>e o>f", "tef ef f - -"},
		{"start:s task:t onerror:o@t task:v onsignal:q@v end:e end:f", "s>t t>v v>e o>t q>f", "tvef tvef tvef ef f - -"},
		{"start:s task:t ontimer:o@t! task:v end:e", "s>t t>v v>e o>v", "tve ve ve e -"},
		// what lies in a subprocess, and beside it
		{"start:s sub:u u/start:a u/task:b u/end:c end:e ontimer:o@u end:f", "s>u u>e a>b b>c o>f", "uef ef bc c - - f -"},
		{"sub:u u/sub:v v/start:a v/end:b u/start:c u/end:d ontimer:o@u start:s end:e", "a>b c>v v>d s>u u>e o>u", "ue d b - vd - ue ue -"},
		{"start:s sub:u u/start:a u/task:b u/onerror:o@b u/end:c u/end:d end:e", "s>u u>e a>b b>c o>d", "ue e bcd cd d - - -"},
		// two ways, and none
		{"start:s xor:x task:a task:b xor:j end:e", "s>x x>a?a x>b* a>j b>j j>e", "xabje abje je je e -"},
		{"start:s end:e task:t and:a end:f", "s>e t>a a>t a>f", "e - taf taf -"},
	} {
		d := drawn(x.nodes, x.flows)
		g := graphOf(t, d)
		from := -1
		for start, c := range " " + x.reached {
			if c == ' ' {
				from++
				for to, n := range d.Nodes {
					want := false
					for _, r := range x.reached[start:] {
						if r == ' ' {
							break
						}
						want = want || string(r) == n.Name
					}
					if g.Reach(from, to) != want || slices.Contains(reaching(d, to), from) != want {
						t.Errorf("Reach(%s, %s) of %s = %t", d.Nodes[from].Name, n.Name, x.flows, g.Reach(from, to))
					}
				}
			}
		}
	}
}

// P13.2: the greatest process, one behind the other, both ways.
func TestReachFar(t *testing.T) {
	d := drawn("start:s end:e", "")
	for len(d.Nodes) < 40 {
		d.Nodes = append(d.Nodes, made(api.NkTask, "t"+string(rune('a'+len(d.Nodes)/26))+string(rune('a'+len(d.Nodes)%26))))
	}
	for _, back := range []bool{false, true} {
		d.Flows = nil
		way := []int{0}
		for i := 2; i < 40; i++ {
			way = append(way, i)
		}
		if back {
			slices.Reverse(way[1:])
		}
		way = append(way, 1)
		for i := range way[1:] {
			d.Flows = append(d.Flows, flow(way[i], way[i+1]))
		}
		g := graphOf(t, d)
		for i, from := range way {
			for j, to := range way {
				if g.Reach(from, to) != (i < j) {
					t.Errorf("Reach(%d, %d) = %t", from, to, g.Reach(from, to))
				}
			}
		}
	}
}

// P13.2: of all that are right by chance.
func TestGraphOfMany(t *testing.T) {
	subs, bounds, reached := 0, 0, 0
	for seed := range 3000 {
		c := chance(seed)
		d := c.right()
		isGraph(t, d)
		for i, n := range d.Nodes {
			subs += map[bool]int{true: 1}[n.Kind == api.NkSub]
			bounds += map[bool]int{true: 1}[n.At >= 0]
			reached += len(reaching(d, i))
		}
	}
	if subs < 1000 || bounds < 1000 || reached < 100000 {
		t.Errorf("%d subprocesses, %d bounds, %d reach others", subs, bounds, reached)
	}
}

// isGraph tells unless the graph of a right process is what the chapter says, in another way.
func isGraph(t *testing.T, d api.Def) {
	t.Helper()
	g := graphOf(t, d)
	if !bpmn.Same(g.Def(), d) {
		t.Fatalf("Def = %+v, not %+v", g.Def(), d)
	}
	for i, n := range d.Nodes {
		var ins, outs, bounds []int
		for j, f := range d.Flows {
			if f.From == i {
				outs = append(outs, j)
			}
			if f.To == i {
				ins = append(ins, j)
			}
		}
		start := -1
		reach := reaching(d, i)
		for j, other := range d.Nodes {
			if other.At == i {
				bounds = append(bounds, j)
			}
			if other.Kind == api.NkStart && other.Up == i {
				start = j
			}
			if g.Reach(j, i) != slices.Contains(reach, j) {
				t.Fatalf("Reach(%d, %d) of %+v = %t", j, i, d, g.Reach(j, i))
			}
		}
		if !slices.Equal(g.Ins(i), ins) || !slices.Equal(g.Outs(i), outs) || !slices.Equal(g.Bounds(i), bounds) || g.Start(i) != start || g.Number(n.Name) != i {
			t.Fatalf("the node %d of %+v has %v, %v, %v, %d", i, d, g.Ins(i), g.Outs(i), g.Bounds(i), g.Start(i))
		}
	}
	if d.Nodes[g.Start(-1)].Up != -1 || d.Nodes[g.Start(-1)].Kind != api.NkStart {
		t.Fatalf("Start(-1) of %+v = %d", d, g.Start(-1))
	}
}

// P13.2: whether they may be or not.
func TestSame(t *testing.T) {
	for seed := range 200 {
		c := chance(seed)
		d := c.any()
		if !bpmn.Same(d, d) || !bpmn.Same(d, changed(d, func(*api.Def) {})) {
			t.Fatalf("%+v is another one", d)
		}
	}
	for _, do := range []func(d *api.Def){
		func(d *api.Def) { d.Name = "q" },
		func(d *api.Def) { d.Name = "" },
		func(d *api.Def) { d.Nodes[3].Kind = api.NkTask },
		func(d *api.Def) { d.Nodes[3].Name = "other" },
		func(d *api.Def) { d.Nodes[3].Up = 0 },
		func(d *api.Def) { d.Nodes[3].Text = " " },
		func(d *api.Def) { d.Nodes[3].Key = "a" },
		func(d *api.Def) { d.Nodes[3].To = "a" },
		func(d *api.Def) { d.Nodes[3].At = 0 },
		func(d *api.Def) { d.Nodes[3].Stops = true },
		func(d *api.Def) { d.Flows[1].From = 9 },
		func(d *api.Def) { d.Flows[1].To = 9 },
		func(d *api.Def) { d.Flows[1].If = "a > 1" }, // a blank more
		func(d *api.Def) { d.Flows[1].Else = true },
		func(d *api.Def) { d.Nodes = d.Nodes[:len(d.Nodes)-1] },
		func(d *api.Def) { d.Flows = d.Flows[:len(d.Flows)-1] },
		func(d *api.Def) { d.Nodes = append(d.Nodes, api.Node{}) },
		func(d *api.Def) { d.Flows = append(d.Flows, api.Flow{}) },
		func(d *api.Def) { d.Nodes[0], d.Nodes[1] = d.Nodes[1], d.Nodes[0] },
		func(d *api.Def) { d.Flows[0], d.Flows[1] = d.Flows[1], d.Flows[0] },
		func(d *api.Def) { d.Nodes, d.Flows = nil, nil },
	} {
		d := changed(all(), do)
		if bpmn.Same(d, all()) || bpmn.Same(all(), d) || !bpmn.Same(d, changed(all(), do)) {
			t.Errorf("%+v", d)
		}
	}
	// R7: a nil list and an empty one
	if !bpmn.Same(api.Def{}, api.Def{Nodes: []api.Node{}, Flows: []api.Flow{}}) || !bpmn.Same(api.Def{Nodes: []api.Node{}}, api.Def{Flows: []api.Flow{}}) {
		t.Error("of nothing")
	}
	if bpmn.Same(api.Def{}, api.Def{Nodes: []api.Node{{}}}) || bpmn.Same(api.Def{Flows: []api.Flow{{}}}, api.Def{}) {
		t.Error("of nothing, and of something")
	}
}

// P13.1: an error's places and number.
func TestErrors(t *testing.T) {
	for _, x := range []struct {
		do    func(d *api.Def)
		trail []string
		code  api.Errno
	}{
		{func(d *api.Def) { d.Name = "" }, nil, api.ErrName},
		{func(d *api.Def) { d.Nodes = append(d.Nodes, made(api.NkTask, "q")) }, []string{"node 24"}, api.ErrFlow},
		{func(d *api.Def) { d.Nodes[12].Text = "1 +" }, []string{"node 12", "at 3"}, api.ErrShort},
		{func(d *api.Def) { d.Nodes[13].Key = "(" }, []string{"node 13", "at 1"}, api.ErrShort},
		{func(d *api.Def) { d.Flows[11].If = "9 * 99999999999999999999" }, []string{"flow 11", "at 4"}, api.ErrOver},
		{func(d *api.Def) {
			d.Nodes = append(d.Nodes, made(api.NkStart, "q"))
			d.Flows = append(d.Flows, flow(24, 1))
		}, nil, api.ErrScope},
	} {
		err := bpmn.Check(changed(all(), x.do))
		if fault.Code(err) != x.code || !slices.Equal(fault.Trail(err), x.trail) || !fault.Is(err, x.code) {
			t.Errorf("%d at %q, want %d at %q", fault.Code(err), fault.Trail(err), x.code, x.trail)
		}
	}
}
