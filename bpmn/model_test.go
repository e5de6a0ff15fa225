package bpmn_test

import (
	"slices"
	"strconv"

	"conductor/api"
	"conductor/expr"
	"conductor/fault"
	"conductor/key"
)

// The following are what the chapter says, in another way: rule by rule, each of which is asked whether those ahead hold or not.

// rule tells the text of an error of a node, or a flow; nothing, if it has none.
type rule func(d api.Def, number int) string

// unless makes a rule of what must be.
func unless(code api.Errno, is func(d api.Def, number int) bool) rule {
	return func(d api.Def, number int) string {
		if is(d, number) {
			return ""
		}
		return fault.Text(code)
	}
}

// nodeOf gives a node of a kind that is none, if there is no such number.
func nodeOf(d api.Def, number int) api.Node {
	if number < 0 || number >= len(d.Nodes) {
		return api.Node{Kind: -1, Up: -1, At: -1}
	}
	return d.Nodes[number]
}

// count tells how many flows, or nodes, are so.
func count[E any](l []E, is func(E) bool) int {
	many := 0
	for _, e := range l {
		if is(e) {
			many++
		}
	}
	return many
}

func goesFrom(number int) func(api.Flow) bool {
	return func(f api.Flow) bool { return f.From == number }
}

func goesTo(number int) func(api.Flow) bool {
	return func(f api.Flow) bool { return f.To == number }
}

func isParsed(text string) string {
	_, err := expr.Parse(text)
	return fault.Text(err)
}

func isVariable(name string) bool {
	return key.Name(name) && !slices.Contains([]string{"true", "false", "has", "len"}, name)
}

// ofNodes are the rules of P13.1, 2.
var ofNodes = []rule{
	unless(api.ErrArg, func(d api.Def, i int) bool { return slices.Contains(kinds(), d.Nodes[i].Kind) }),
	unless(api.ErrName, func(d api.Def, i int) bool { return key.Name(d.Nodes[i].Name) }),
	unless(api.ErrTwice, func(d api.Def, i int) bool {
		return count(d.Nodes[:i], func(n api.Node) bool { return n.Name == d.Nodes[i].Name }) == 0
	}),
	unless(api.ErrArg, func(d api.Def, i int) bool {
		up := d.Nodes[i].Up
		return up == -1 || up < i && nodeOf(d, up).Kind == api.NkSub
	}),
	unless(api.ErrArg, func(d api.Def, i int) bool {
		n := d.Nodes[i]
		return (n.Text == "" || holdsAny(n.Kind, "xne")) && (n.Key == "" || holdsAny(n.Kind, "k")) && (n.To == "" || holdsAny(n.Kind, "t")) && (n.At == -1 && !n.Stops || holdsAny(n.Kind, "b"))
	}),
	unless(api.ErrName, func(d api.Def, i int) bool {
		n := d.Nodes[i]
		return !holdsAny(n.Kind, "ne") || key.Name(n.Text) || n.Text == "" && holdsAny(n.Kind, "e")
	}),
	func(d api.Def, i int) string {
		if holdsAny(d.Nodes[i].Kind, "x") {
			return isParsed(d.Nodes[i].Text)
		}
		return ""
	},
	func(d api.Def, i int) string {
		if holdsAny(d.Nodes[i].Kind, "k") {
			return isParsed(d.Nodes[i].Key)
		}
		return ""
	},
	unless(api.ErrName, func(d api.Def, i int) bool { return !holdsAny(d.Nodes[i].Kind, "t") || isVariable(d.Nodes[i].To) }),
	unless(api.ErrArg, func(d api.Def, i int) bool {
		n := d.Nodes[i]
		at := nodeOf(d, n.At)
		stands := n.At < i && at.Up == n.Up && isOneOf(at.Kind, "task", "sub")
		return !holdsAny(n.Kind, "b") || stands && (n.Stops || n.Kind != api.NkOnError)
	}),
}

// ofFlows are the rules of P13.1, 3.
var ofFlows = []rule{
	unless(api.ErrArg, func(d api.Def, i int) bool {
		return min(d.Flows[i].From, d.Flows[i].To) >= 0 && max(d.Flows[i].From, d.Flows[i].To) < len(d.Nodes)
	}),
	unless(api.ErrScope, func(d api.Def, i int) bool { return nodeOf(d, d.Flows[i].From).Up == nodeOf(d, d.Flows[i].To).Up }),
	unless(api.ErrFlow, func(d api.Def, i int) bool { return !isOneOf(nodeOf(d, d.Flows[i].From).Kind, "end", "stop", "throw") }),
	unless(api.ErrFlow, func(d api.Def, i int) bool {
		to := nodeOf(d, d.Flows[i].To).Kind
		return !isOneOf(to, "start") && !holdsAny(to, "b")
	}),
	unless(api.ErrTwice, func(d api.Def, i int) bool {
		return count(d.Flows[:i], func(f api.Flow) bool { return goesFrom(d.Flows[i].From)(f) && goesTo(d.Flows[i].To)(f) }) == 0
	}),
	func(d api.Def, i int) string {
		if text := d.Flows[i].If; text != "" {
			return isParsed(text)
		}
		return ""
	},
	unless(api.ErrFlow, func(d api.Def, i int) bool {
		f := d.Flows[i]
		return f.If == "" && !f.Else || isOneOf(nodeOf(d, f.From).Kind, "xor", "or")
	}),
	unless(api.ErrFlow, func(d api.Def, i int) bool { return d.Flows[i].If == "" || !d.Flows[i].Else }),
	unless(api.ErrFlow, func(d api.Def, i int) bool {
		return !d.Flows[i].Else || count(d.Flows[:i], func(f api.Flow) bool { return f.Else && f.From == d.Flows[i].From }) == 0
	}),
	unless(api.ErrFlow, func(d api.Def, i int) bool {
		return nodeOf(d, d.Flows[i].From).Kind != api.NkAny || isOneOf(nodeOf(d, d.Flows[i].To).Kind, "timer", "message", "signal")
	}),
}

// ofLinks are the rules of P13.1, 4.
var ofLinks = []rule{
	unless(api.ErrFlow, func(d api.Def, i int) bool {
		kind, ins, outs := d.Nodes[i].Kind, count(d.Flows, goesTo(i)), count(d.Flows, goesFrom(i))
		if kind == api.NkStart || holdsAny(kind, "b") {
			return outs == 1
		}
		return ins > 0 && (outs == 1 || outs > 1 && isOneOf(kind, "xor", "and", "or", "any") || isOneOf(kind, "end", "stop", "throw"))
	}),
	unless(api.ErrFlow, func(d api.Def, i int) bool {
		outs := count(d.Flows, goesFrom(i))
		hang := count(d.Flows, func(f api.Flow) bool { return f.From == i && (f.Else || f.If != "") })
		return !isOneOf(d.Nodes[i].Kind, "xor", "or") || outs < 2 && hang == 0 || outs > 1 && hang == outs
	}),
	unless(api.ErrFlow, func(d api.Def, i int) bool {
		ofAny := count(d.Flows, func(f api.Flow) bool { return f.To == i && nodeOf(d, f.From).Kind == api.NkAny })
		return ofAny == 0 || count(d.Flows, goesTo(i)) == 1
	}),
	unless(api.ErrScope, func(d api.Def, i int) bool {
		return d.Nodes[i].Kind != api.NkSub || count(d.Nodes, startsIn(i)) == 1
	}),
}

func startsIn(up int) func(api.Node) bool {
	return func(n api.Node) bool { return n.Kind == api.NkStart && n.Up == up }
}

// firstOf gives the text of the first error of so many nodes, or flows.
func firstOf(d api.Def, what string, many int, rules []rule) string {
	for i := range many {
		for _, told := range rules {
			if text := told(d, i); text != "" {
				return what + " " + strconv.Itoa(i) + ": " + text
			}
		}
	}
	return ""
}

// wrong is the text of what Check must answer.
func wrong(d api.Def) string {
	switch {
	case !key.Name(d.Name):
		return fault.Text(api.ErrName)
	case len(d.Nodes) > 40, len(d.Flows) > 80:
		return fault.Text(api.ErrLong)
	}
	for _, text := range []string{firstOf(d, "node", len(d.Nodes), ofNodes), firstOf(d, "flow", len(d.Flows), ofFlows), firstOf(d, "node", len(d.Nodes), ofLinks)} {
		if text != "" {
			return text
		}
	}
	if count(d.Nodes, startsIn(-1)) != 1 {
		return fault.Text(api.ErrScope)
	}
	return ""
}

// reaching gives all nodes of a right process from which some steps lead to this one: it goes back from there, step by step.
func reaching(d api.Def, to int) []int {
	var all []int
	last := []int{to}
	for len(last) > 0 {
		var ahead []int
		for _, f := range d.Flows {
			for _, from := range []int{f.From, d.Nodes[f.From].At} {
				if from >= 0 && slices.Contains(last, f.To) && !slices.Contains(all, from) {
					all = append(all, from)
					ahead = append(ahead, from)
				}
			}
		}
		last = ahead
	}
	return all
}
