package bpmn_test

import (
	"fmt"
	"slices"
	"testing"

	"conductor/api"
	"conductor/bpmn"
)

// roomy gives the same, each list with something behind it.
func roomy(d api.Def) api.Def {
	nodes, flows := len(d.Nodes), len(d.Flows)
	d.Nodes = append(slices.Clone(d.Nodes), made(api.NkTask, "behind"))[:nodes]
	d.Flows = append(slices.Clone(d.Flows), flow(7, 7))[:flows]
	return d
}

// whole gives a process in memory of its own, with what stands behind each list.
func whole(d api.Def) api.Def {
	d.Nodes, d.Flows = slices.Clone(d.Nodes[:cap(d.Nodes)]), slices.Clone(d.Flows[:cap(d.Flows)])
	return d
}

// told is all that a graph tells of a process, as a text.
func told(g *bpmn.Graph, d api.Def) string {
	s := fmt.Sprintf("%+v %d\n", g.Def(), g.Start(-1))
	for i, n := range d.Nodes {
		s += fmt.Sprintln(g.Outs(i), g.Ins(i), g.Start(i), g.Bounds(i), g.Number(n.Name), g.Text(i), g.Key(i))
		for j := range d.Nodes {
			s += fmt.Sprint(g.Reach(i, j))
		}
	}
	for i := range d.Flows {
		s += fmt.Sprintln(g.If(i))
	}
	return s
}

// spoilt makes a list another one, with what stands behind it.
func spoilt[E any](l []E) {
	clear(l[:cap(l)])
	_ = append(l[:0], *new(E))
}

// isOwn asks of a process, changes all that was answered, and then what was handed in.
func isOwn(t *testing.T, d api.Def) {
	t.Helper()
	given := roomy(d)
	all := whole(given)
	bpmn.Check(given)
	g, err := bpmn.New(given)
	bpmn.Same(given, given)
	if now := whole(given); !bpmn.Same(now, all) {
		t.Fatalf("%+v has changed to %+v", all, now)
	}
	if err != nil {
		return
	}
	was := told(g, d)
	for i := range d.Nodes {
		spoilt(g.Outs(i))
		spoilt(g.Ins(i))
		spoilt(g.Bounds(i))
		spoilt(g.Text(i))
		spoilt(g.Key(i))
	}
	for i := range d.Flows {
		spoilt(g.If(i))
	}
	spoilt(g.Def().Nodes)
	spoilt(g.Def().Flows)
	if now := told(g, d); now != was {
		t.Fatalf("told %s, and then %s", was, now)
	}
	spoilt(given.Nodes)
	spoilt(given.Flows)
	if now := told(g, d); now != was {
		t.Fatalf("told %s, and then %s", was, now)
	}
	if again := graphOf(t, d); told(again, d) != was { // R5
		t.Fatalf("told %s, and of another graph %s", was, told(again, d))
	}
}

// R4, R5
func TestAnswersAreOwn(t *testing.T) {
	isOwn(t, all())
	isOwn(t, line())
	isOwn(t, crowd(40, 80))
	for seed := range 1000 {
		c := chance(seed)
		isOwn(t, c.any())
	}
}

// FuzzBpmn: whatever comes.
func FuzzBpmn(f *testing.F) {
	f.Add(uint64(1), 0, "a", 0, 0)
	f.Add(uint64(77), 3, "1 +", -1, 40)
	f.Add(uint64(1<<40), 9, "", 7, 1<<62)
	f.Fuzz(func(t *testing.T, seed uint64, most int, text string, from, to int) {
		c := chance(seed)
		d := c.right()
		isTold(t, d, "")
		isGraph(t, d)
		for range min(most, 20) {
			c.spoil(&d)
		}
		if len(d.Nodes) > 0 {
			n := &d.Nodes[c.of(len(d.Nodes))]
			*one(&c, &n.Name, &n.Text, &n.Key, &n.To) = text
			*one(&c, &n.Kind, &n.Up, &n.At) = from
		}
		if len(d.Flows) > 0 {
			w := &d.Flows[c.of(len(d.Flows))]
			*one(&c, &w.From, &w.To) = to
			w.If = one(&c, text, "")
		}
		want := wrong(d)
		isTold(t, d, want)
		isOwn(t, d)
		if want == "" {
			isGraph(t, d)
		}
		g, _ := bpmn.New(d)
		if l := g.Outs(from); l != nil && (want != "" || from < 0 || from >= len(d.Nodes)) {
			t.Errorf("Outs(%d) = %v", from, l)
		}
		if g.Reach(from, to) && (want != "" || !slices.Contains(reaching(d, to), from)) {
			t.Errorf("%d is reached from %d", to, from)
		}
		if n := g.Number(text); n != numberOf(g.Def(), text) {
			t.Errorf("Number(%q) = %d", text, n)
		}
		if n := g.Start(from); n >= 0 && g.Def().Nodes[n].Up != from {
			t.Errorf("Start(%d) = %d", from, n)
		}
	})
}
