package bpmn

import (
	"slices"

	"conductor/api"
)

// none stands where there is no number of a node.
const none = -1

// Graph is a process that may be, with what is asked of it often. It never changes.
type Graph struct {
	def    api.Def
	texts  [][]api.Term // of each node
	keys   [][]api.Term // of each node
	ifs    [][]api.Term // of each flow
	outs   [][]int      // of each node
	ins    [][]int      // of each node
	bounds [][]int      // of each node
	reach  []nodes      // of each node
}

// bare gives d of which nothing is taken yet.
func bare(d api.Def) *Graph {
	many := len(d.Nodes)
	return &Graph{
		def:    copied(d),
		texts:  make([][]api.Term, many),
		keys:   make([][]api.Term, many),
		ifs:    make([][]api.Term, len(d.Flows)),
		outs:   make([][]int, many),
		ins:    make([][]int, many),
		bounds: make([][]int, many),
	}
}

// Def gives the process.
func (g *Graph) Def() api.Def { return copied(g.parts().def) }

// Outs gives the flows from a node.
func (g *Graph) Outs(node int) []int { return at(g.parts().outs, node) }

// Ins gives the flows to a node.
func (g *Graph) Ins(node int) []int { return at(g.parts().ins, node) }

// Start gives the start of a subprocess; of -1, that of the process.
func (g *Graph) Start(sub int) int {
	return slices.IndexFunc(g.parts().def.Nodes, func(n api.Node) bool { return n.Kind == api.NkStart && n.Up == sub })
}

// Bounds gives the bounds that stand at a node.
func (g *Graph) Bounds(node int) []int { return at(g.parts().bounds, node) }

// Reach tells whether some steps, one at least, lead from a node to another one.
func (g *Graph) Reach(from, to int) bool {
	reach := g.parts().reach
	if from < 0 || from >= len(reach) || to < 0 || to >= len(reach) {
		return false
	}
	return reach[from].has(to)
}

// Number gives the number of the node of that name.
func (g *Graph) Number(name string) int {
	return slices.IndexFunc(g.parts().def.Nodes, func(n api.Node) bool { return n.Name == name })
}

// Text gives the terms of a node's Text.
func (g *Graph) Text(node int) []api.Term { return at(g.parts().texts, node) }

// Key gives the terms of a node's Key.
func (g *Graph) Key(node int) []api.Term { return at(g.parts().keys, node) }

// If gives the terms of a flow's If.
func (g *Graph) If(flow int) []api.Term { return at(g.parts().ifs, flow) }

// parts gives what g has: nothing, if no call made it.
func (g *Graph) parts() Graph {
	if g == nil {
		return Graph{}
	}
	return *g
}

// copied gives d in memory of its own.
func copied(d api.Def) api.Def {
	return api.Def{Name: d.Name, Nodes: slices.Clone(d.Nodes), Flows: slices.Clone(d.Flows)}
}

// at gives a copy of the list that stands at a place; nothing, if there is no such place.
func at[E any](l [][]E, place int) []E {
	if place < 0 || place >= len(l) {
		return nil
	}
	return slices.Clone(l[place])
}
