package bpmn_test

import (
	"math"
	"slices"
	"strconv"
	"strings"

	"conductor/api"
)

// drawer draws a process that may be, piece by piece.
type drawer struct {
	c *chance
	d api.Def
}

// node draws a node.
func (w *drawer) node(kind, up int) int {
	n := made(kind, "n"+strconv.Itoa(len(w.d.Nodes)))
	n.Up = up
	if kind == api.NkOnError && w.c.of(2) == 0 {
		n.Text = "m"
	}
	w.d.Nodes = append(w.d.Nodes, n)
	return len(w.d.Nodes) - 1
}

func (w *drawer) flow(from, to int) {
	w.d.Flows = append(w.d.Flows, api.Flow{From: from, To: to})
}

// behind draws a node of one of these kinds, to which another one goes.
func (w *drawer) behind(from, up int, kinds ...int) int {
	n := w.node(one(w.c, kinds...), up)
	w.flow(from, n)
	return n
}

// pieces draws so many pieces one behind the other, and gives the node that goes on from there.
func (w *drawer) pieces(from, up, many int) int {
	for range many {
		from = w.piece(from, up, many-1)
	}
	return from
}

func (w *drawer) piece(from, up, deep int) int {
	switch w.c.of(7) {
	case 0:
		return w.behind(from, up, api.NkScript, api.NkSend, api.NkTimer, api.NkMessage, api.NkSignal)
	case 1:
		return w.bounded(w.behind(from, up, api.NkTask), up)
	case 2:
		sub := w.behind(from, up, api.NkSub)
		w.scope(sub, deep)
		return w.bounded(sub, up)
	case 3:
		return w.branches(w.behind(from, up, api.NkXor, api.NkOr), up, deep)
	case 4:
		return w.branches(w.behind(from, up, api.NkAnd), up, deep)
	case 5:
		any := w.behind(from, up, api.NkAny)
		join := w.node(one(w.c, api.NkXor, api.NkAnd, api.NkOr), up)
		for range 1 + w.c.of(3) {
			w.flow(w.behind(any, up, api.NkTimer, api.NkMessage, api.NkSignal), join)
		}
		return join
	}
	return w.loop(from, up, deep)
}

// bounded draws some bounds, each with a way of its own.
func (w *drawer) bounded(at, up int) int {
	for range w.c.of(3) {
		bound := w.node(one(w.c, api.NkOnTimer, api.NkOnMessage, api.NkOnSignal, api.NkOnError), up)
		n := &w.d.Nodes[bound]
		n.At, n.Stops = at, n.Stops || w.c.of(2) == 0
		w.end(bound, up)
	}
	return at
}

func (w *drawer) end(from, up int) {
	w.behind(from, up, api.NkEnd, api.NkStop, api.NkThrow)
}

// branches draws some ways from a node that come together again; the conditions of a choice are laid at the end.
func (w *drawer) branches(from, up, deep int) int {
	join := w.node(one(w.c, api.NkXor, api.NkAnd, api.NkOr), up)
	for range 1 + w.c.of(3) {
		w.flow(w.pieces(w.behind(from, up, api.NkScript, api.NkTask), up, min(1, deep)), join)
	}
	if w.c.of(3) == 0 {
		w.flow(from, join)
	}
	return join
}

// loop draws a way that may go round.
func (w *drawer) loop(from, up, deep int) int {
	in := w.behind(from, up, api.NkXor, api.NkOr, api.NkAnd)
	out := w.behind(w.pieces(in, up, min(1, deep)), up, api.NkXor, api.NkOr, api.NkAnd)
	w.flow(out, in)
	return out
}

// scope draws what lies in a subprocess, or in none.
func (w *drawer) scope(up, many int) {
	w.end(w.pieces(w.node(api.NkStart, up), up, many), up)
}

// conditions lays conditions on the outs of all choices.
func (w *drawer) conditions() {
	other := map[int]bool{}
	for i, f := range w.d.Flows {
		choice := isOneOf(w.d.Nodes[f.From].Kind, "xor", "or")
		switch {
		case !choice || count(w.d.Flows, goesFrom(f.From)) == 1:
		case w.c.of(3) == 0 && !other[f.From]:
			other[f.From] = true
			w.d.Flows[i].Else = true
		default:
			w.d.Flows[i].If = one(w.c, "a", "a > 1", "has(b) && !b", `c == "d"`)
		}
	}
}

// right gives a process that may be, in some order of its nodes and flows.
func (c *chance) right() api.Def {
	for {
		w := drawer{c: c, d: api.Def{Name: one(c, "p", "q-1")}}
		w.scope(-1, c.of(4))
		w.conditions()
		if len(w.d.Nodes) <= 40 && len(w.d.Flows) <= 80 {
			return c.laid(w.d)
		}
	}
}

// laid gives the same process with its nodes and flows in another order, in which each node stands behind those that it must.
func (c *chance) laid(d api.Def) api.Def {
	place := map[int]int{-1: -1}
	var order []int
	for len(order) < len(d.Nodes) {
		i := c.of(len(d.Nodes))
		_, is := place[i]
		_, up := place[d.Nodes[i].Up]
		_, at := place[d.Nodes[i].At]
		if !is && up && at {
			place[i] = len(order)
			order = append(order, i)
		}
	}
	l := api.Def{Name: d.Name}
	for _, i := range order {
		n := d.Nodes[i]
		n.Up, n.At = place[n.Up], place[n.At]
		l.Nodes = append(l.Nodes, n)
	}
	for _, f := range d.Flows {
		f.From, f.To = place[f.From], place[f.To]
		l.Flows = slices.Insert(l.Flows, c.of(len(l.Flows)+1), f)
	}
	return l
}

// text gives one that may be wrong where it stands.
func (c *chance) text() string {
	return one(c, "", "a", "m", "n + 1", "1 +", "A", `"k"`, "true", "has", strings.Repeat("a", 17), strings.Repeat("1", 20), strings.Repeat("(", 128), strings.Repeat("1", 129), "\x00", "a &")
}

// number gives one of, or close to, those of a list that is so long.
func (c *chance) number(long int) int {
	return one(c, math.MinInt, -2, -1, -1, 0, long-1, long, math.MaxInt, 1<<32, c.of(long+1), c.of(long+1), c.of(long+1), c.of(long+1))
}

// spoil changes one thing in a process.
func (c *chance) spoil(d *api.Def) {
	switch c.of(13) {
	case 0:
		d.Name = one(c, "", "p", "P", strings.Repeat("p", 17))
	case 1, 2, 3, 4, 5:
		if len(d.Nodes) > 0 {
			c.spoilNode(d, &d.Nodes[c.of(len(d.Nodes))])
		}
	case 6, 7, 8:
		if len(d.Flows) > 0 {
			c.spoilFlow(d, &d.Flows[c.of(len(d.Flows))])
		}
	case 9:
		if len(d.Flows) > 0 {
			i := c.of(len(d.Flows))
			d.Flows = slices.Delete(d.Flows, i, i+1)
		}
	case 10:
		f := api.Flow{From: c.number(len(d.Nodes)), To: c.number(len(d.Nodes)), Else: c.of(4) == 0}
		d.Flows = slices.Insert(d.Flows, c.of(len(d.Flows)+1), f)
	case 11:
		i := c.of(len(d.Nodes) + 1)
		if c.of(2) == 0 {
			d.Nodes = slices.Insert(d.Nodes, i, made(c.of(19), one(c, "a", "n0")))
		} else if i < len(d.Nodes) {
			d.Nodes = slices.Delete(d.Nodes, i, i+1)
		}
	case 12: // one more start
		n := made(api.NkStart, "more")
		i := c.of(len(d.Nodes) + 1)
		if i < len(d.Nodes) {
			n.Up = d.Nodes[i].Up
		}
		d.Flows = append(d.Flows, api.Flow{From: len(d.Nodes), To: i})
		d.Nodes = append(d.Nodes, n)
	}
}

func (c *chance) spoilNode(d *api.Def, n *api.Node) {
	switch c.of(9) {
	case 0:
		n.Kind = one(c, math.MinInt, -1, 19, 256, math.MaxInt, c.of(19), c.of(19), c.of(19))
	case 1:
		n.Name = one(c, "", "A", "a", "n0", "n1", strings.Repeat("n", 17))
	case 2:
		n.Up = c.number(len(d.Nodes))
	case 3:
		n.Text = c.text()
	case 4:
		n.Key = c.text()
	case 5:
		n.To = c.text()
	case 6:
		n.At = c.number(len(d.Nodes))
	case 7:
		n.Stops = !n.Stops
	case 8: // another kind, with what that must have
		other := made(c.of(19), n.Name)
		other.Up, other.At, other.Stops = n.Up, n.At, n.Stops
		*n = other
	}
}

func (c *chance) spoilFlow(d *api.Def, f *api.Flow) {
	switch c.of(4) {
	case 0:
		f.From = c.number(len(d.Nodes))
	case 1:
		f.To = c.number(len(d.Nodes))
	case 2:
		f.If = c.text()
	case 3:
		f.Else = !f.Else
	}
}

// any gives a process of which some things were changed.
func (c *chance) any() api.Def {
	d := c.right()
	for range c.of(4) {
		c.spoil(&d)
	}
	return d
}
