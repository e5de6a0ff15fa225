package bpmn

import "conductor/api"

// nodes are some of a process, each as the bit of its number: there are fewer of them than bits.
type nodes uint64

func (s nodes) has(node int) bool { return s>>node&1 == 1 }

// reachOf tells which nodes are reached from each.
func reachOf(d api.Def) []nodes {
	reach := make([]nodes, len(d.Nodes))
	for _, f := range d.Flows {
		to := nodes(1) << f.To
		reach[f.From] |= to
		if stands := d.Nodes[f.From].At; stands != none { // a step from there goes by the outs of its bounds, too
			reach[stands] |= to
		}
	}
	for over := range reach { // one more of those over which others are reached, each time
		for from := range reach {
			if reach[from].has(over) {
				reach[from] |= reach[over]
			}
		}
	}
	return reach
}
