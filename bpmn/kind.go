package bpmn

import "conductor/api"

// What the Text of a kind is.
const (
	isNothing     = iota // the kind has none
	isExpr               // an expression
	isName               // a name
	isNameOrEmpty        // a name, or nothing
)

// textOf tells what the Text of a kind is.
func textOf(kind int) int {
	switch kind {
	case api.NkScript, api.NkTimer, api.NkOnTimer:
		return isExpr
	case api.NkThrow, api.NkMessage, api.NkSignal, api.NkSend, api.NkOnMessage, api.NkOnSignal:
		return isName
	case api.NkOnError:
		return isNameOrEmpty
	}
	return isNothing
}

func hasKey(kind int) bool { return kind == api.NkMessage || kind == api.NkOnMessage }

func isKind(kind int) bool { return kind >= api.NkStart && kind <= api.NkOnError }

func isBound(kind int) bool { return kind >= api.NkOnTimer && kind <= api.NkOnError }

func isCatch(kind int) bool {
	return kind == api.NkTimer || kind == api.NkMessage || kind == api.NkSignal
}

func isChoice(kind int) bool { return kind == api.NkXor || kind == api.NkOr }

// isLast tells whether no flow may go on from a node of that kind.
func isLast(kind int) bool {
	return kind == api.NkEnd || kind == api.NkStop || kind == api.NkThrow
}

// own gives n with just what its kind has.
func own(n api.Node) api.Node {
	o := api.Node{Kind: n.Kind, Name: n.Name, Up: n.Up, At: none}
	if textOf(n.Kind) != isNothing {
		o.Text = n.Text
	}
	if hasKey(n.Kind) {
		o.Key = n.Key
	}
	if n.Kind == api.NkScript {
		o.To = n.To
	}
	if isBound(n.Kind) {
		o.At, o.Stops = n.At, n.Stops
	}
	return o
}

// fits tells whether a node of that kind may have so many ins and outs. (Where there may be none at all there are none: no such flow was taken.)
func fits(kind, ins, outs int) bool {
	switch kind {
	case api.NkXor, api.NkAnd, api.NkOr, api.NkAny:
		if outs == 0 {
			return false
		}
		fallthrough
	case api.NkEnd, api.NkStop, api.NkThrow:
		return ins > 0
	default:
		if ins == 0 {
			return false
		}
		fallthrough
	case api.NkStart, api.NkOnTimer, api.NkOnMessage, api.NkOnSignal, api.NkOnError:
		return outs == 1
	}
}
