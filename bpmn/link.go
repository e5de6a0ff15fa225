package bpmn

import (
	"slices"

	"conductor/api"
)

// checkLinks tells what is wrong with the nodes among all flows.
func (g *Graph) checkLinks() error {
	return first("node", len(g.def.Nodes), g.checkCount, g.checkChoice, g.checkCatch, g.checkSub)
}

// checkCount tells whether a node has too few ins or outs, or too many.
func (g *Graph) checkCount(number int) error {
	if !fits(g.def.Nodes[number].Kind, len(g.ins[number]), len(g.outs[number])) {
		return api.ErrFlow
	}
	return nil
}

// checkChoice tells whether an out of a choice has no condition, though there are others, or has one, though there are none.
func (g *Graph) checkChoice(number int) error {
	if !isChoice(g.def.Nodes[number].Kind) {
		return nil
	}
	outs := g.outs[number]
	for _, out := range outs {
		if hasCondition(g.def.Flows[out]) != (len(outs) > 1) {
			return api.ErrFlow
		}
	}
	return nil
}

// checkCatch tells whether another flow, too, goes to a catch to which one from an NkAny goes. (To no other node such a flow was taken.)
func (g *Graph) checkCatch(number int) error {
	ins := g.ins[number]
	fromAny := func(in int) bool { return g.def.Nodes[g.def.Flows[in].From].Kind == api.NkAny }
	if len(ins) > 1 && slices.ContainsFunc(ins, fromAny) {
		return api.ErrFlow
	}
	return nil
}

// checkSub tells whether a subprocess has no start, or several.
func (g *Graph) checkSub(number int) error {
	if g.def.Nodes[number].Kind == api.NkSub && g.starts(number) != 1 {
		return api.ErrScope
	}
	return nil
}

// checkStart tells whether there is no start that lies in no subprocess, or several.
func (g *Graph) checkStart() error {
	if g.starts(none) != 1 {
		return api.ErrScope
	}
	return nil
}

// starts tells how many starts a subprocess has.
func (g *Graph) starts(sub int) int {
	many := 0
	for _, n := range g.def.Nodes {
		if n.Kind == api.NkStart && n.Up == sub {
			many++
		}
	}
	return many
}
