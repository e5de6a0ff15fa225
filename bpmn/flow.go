package bpmn

import (
	"slices"

	"conductor/api"
)

// takeFlows takes all flows, whatever else goes from and to their nodes.
func (g *Graph) takeFlows() error {
	return first("flow", len(g.def.Flows), g.checkEnds, g.checkTwice, g.takeIf, g.checkCondition, g.checkEvent, g.takeFlow)
}

// checkEnds tells what is wrong with the nodes between which a flow lies.
func (g *Graph) checkEnds(number int) error {
	f := g.def.Flows[number]
	if !g.isNode(f.From) || !g.isNode(f.To) {
		return api.ErrArg
	}
	from, to := g.def.Nodes[f.From], g.def.Nodes[f.To]
	switch {
	case from.Up != to.Up:
		return api.ErrScope
	case isLast(from.Kind), to.Kind == api.NkStart, isBound(to.Kind):
		return api.ErrFlow
	}
	return nil
}

func (g *Graph) isNode(number int) bool { return number >= 0 && number < len(g.def.Nodes) }

// checkTwice tells whether there is such a flow ahead.
func (g *Graph) checkTwice(number int) error {
	f := g.def.Flows[number]
	if slices.ContainsFunc(g.def.Flows[:number], func(o api.Flow) bool { return o.From == f.From && o.To == f.To }) {
		return api.ErrTwice
	}
	return nil
}

// takeIf takes the If of a flow.
func (g *Graph) takeIf(number int) error {
	f := g.def.Flows[number]
	if f.If == "" {
		return nil
	}
	return take(g.ifs, number, f.If)
}

// checkCondition tells whether a flow may not hang on the condition that it has.
func (g *Graph) checkCondition(number int) error {
	f := g.def.Flows[number]
	hasElse := func(out int) bool { return g.def.Flows[out].Else }
	switch {
	case hasCondition(f) && !isChoice(g.def.Nodes[f.From].Kind):
		return api.ErrFlow
	case f.If != "" && f.Else:
		return api.ErrFlow
	case f.Else && slices.ContainsFunc(g.outs[f.From], hasElse):
		return api.ErrFlow
	}
	return nil
}

// checkEvent tells whether a flow goes from where the first event of several is waited for to what waits for none.
func (g *Graph) checkEvent(number int) error {
	f := g.def.Flows[number]
	if g.def.Nodes[f.From].Kind == api.NkAny && !isCatch(g.def.Nodes[f.To].Kind) {
		return api.ErrFlow
	}
	return nil
}

// takeFlow lays a flow to those of its nodes.
func (g *Graph) takeFlow(number int) error {
	f := g.def.Flows[number]
	g.outs[f.From] = append(g.outs[f.From], number)
	g.ins[f.To] = append(g.ins[f.To], number)
	return nil
}

// hasCondition tells whether f is taken on a condition alone.
func hasCondition(f api.Flow) bool { return f.If != "" || f.Else }
