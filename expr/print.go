package expr

import (
	"conductor/api"
	"conductor/value"
)

// part is what Check must know of a part of an expression: how strong it is, and how many brackets and signs of one are open at once in its text, at most.
type part struct {
	strength, deep int
}

// joined gives what an Op makes of the parts that it takes.
func joined(op int, parts []part) part {
	whole := part{strength: strength(op)}
	for place, p := range parts {
		deep := p.deep
		if p.strength < least(op, place) {
			deep++
		}
		whole.deep = max(whole.deep, deep)
	}
	switch op {
	case api.OpHas, api.OpNeg, api.OpNot, api.OpLen:
		whole.deep++
	}
	return whole
}

// written is what Print must know of a part: how strong it is, and its text.
type written struct {
	strength int
	text     string
}

// write gives the text of a term with the parts that it takes.
func write(t api.Term, parts []written) string {
	texts := make([]string, len(parts))
	for place, p := range parts {
		texts[place] = p.text
		if p.strength < least(t.Op, place) {
			texts[place] = opens + p.text + closes
		}
	}
	switch t.Op {
	case api.OpVal:
		return value.Print(t.V)
	case api.OpVar:
		return t.Name
	case api.OpHas:
		return has + opens + t.Name + closes
	case api.OpLen:
		return length + opens + texts[0] + closes
	case api.OpNeg, api.OpNot:
		return signs[t.Op] + texts[0]
	}
	return texts[0] + " " + signs[t.Op] + " " + texts[1]
}
