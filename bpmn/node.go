package bpmn

import (
	"conductor/api"
	"conductor/expr"
	"conductor/key"
)

// takeNodes takes all nodes, as they are by themselves.
func (g *Graph) takeNodes() error {
	return first("node", len(g.def.Nodes), g.checkNode, g.takeText, g.takeKey, g.checkTo, g.takeBound)
}

// checkNode tells what is wrong with a node, but for what stands in what its kind has.
func (g *Graph) checkNode(number int) error {
	n := g.def.Nodes[number]
	switch {
	case !isKind(n.Kind):
		return api.ErrArg
	case !key.Name(n.Name):
		return api.ErrName
	case g.Number(n.Name) < number:
		return api.ErrTwice
	case n.Up != none && !g.isAhead(n.Up, number, api.NkSub):
		return api.ErrArg
	case n != own(n):
		return api.ErrArg
	}
	return nil
}

// isAhead tells whether other is the number of a node of that kind ahead of this one.
func (g *Graph) isAhead(other, number, kind int) bool {
	return other >= 0 && other < number && g.def.Nodes[other].Kind == kind
}

// takeText takes the Text of a node.
func (g *Graph) takeText(number int) error {
	n := g.def.Nodes[number]
	switch textOf(n.Kind) {
	case isExpr:
		return take(g.texts, number, n.Text)
	case isNameOrEmpty:
		if n.Text == "" {
			return nil
		}
		fallthrough
	case isName:
		if !key.Name(n.Text) {
			return api.ErrName
		}
	}
	return nil
}

// takeKey takes the Key of a node.
func (g *Graph) takeKey(number int) error {
	n := g.def.Nodes[number]
	if !hasKey(n.Kind) {
		return nil
	}
	return take(g.keys, number, n.Key)
}

// checkTo tells whether what a script's value goes to is no variable.
func (g *Graph) checkTo(number int) error {
	n := g.def.Nodes[number]
	if n.Kind == api.NkScript && expr.Check([]api.Term{{Op: api.OpVar, Name: n.To}}) != api.OK {
		return api.ErrName
	}
	return nil
}

// takeBound lays a bound to those of the node at which it stands.
func (g *Graph) takeBound(number int) error {
	n := g.def.Nodes[number]
	if !isBound(n.Kind) {
		return nil
	}
	stands := g.isAhead(n.At, number, api.NkTask) || g.isAhead(n.At, number, api.NkSub)
	switch {
	case !stands || g.def.Nodes[n.At].Up != n.Up:
		return api.ErrArg
	case n.Kind == api.NkOnError && !n.Stops:
		return api.ErrArg
	}
	g.bounds[n.At] = append(g.bounds[n.At], number)
	return nil
}

// take lays the terms of an expression's text at a place.
func take(l [][]api.Term, place int, text string) error {
	terms, err := expr.Parse(text)
	l[place] = terms
	return err
}
