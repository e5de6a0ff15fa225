package expr

import "conductor/api"

// What must stand next.
const (
	wantsValue = iota // a value, or what stands ahead of one
	wantsSign         // what takes the value that is there: a sign of two, a ), or the end
	wantsOpen         // the ( of a call
	wantsName         // the variable of has
	wantsClose        // the ) behind it
)

// bracket is what a ( is that belongs to no call, where else an Op stands.
const bracket = -1

// reader puts tokens together to terms. What is not whole yet stays open, the innermost last: a sign, till all came that it takes, and a bracket, or a call, till its ).
type reader struct {
	wants int
	call  int // the one whose ( is wanted
	open  []api.Term
	deep  int // how many are open, signs of two aside
	terms []api.Term
}

// add takes the next token, or tells why it cannot stand there.
func (r *reader) add(t token) api.Errno {
	if t.kind == end {
		return r.end()
	}
	switch r.wants {
	case wantsValue:
		return r.value(t)
	case wantsSign:
		return r.sign(t)
	case wantsOpen:
		return r.callOpens(t)
	case wantsName:
		return r.name(t)
	}
	return r.closeBracket(t)
}

// end takes the end of the text.
func (r *reader) end() api.Errno {
	if r.wants != wantsSign {
		return api.ErrShort
	}
	r.closeSigns()
	if len(r.open) > 0 {
		return api.ErrShort
	}
	return api.OK
}

// value takes a value, or what stands ahead of one.
func (r *reader) value(t token) api.Errno {
	one, is := signed(t.text, api.OpNeg, api.OpNot)
	switch {
	case t.kind == literal:
		r.whole(api.Term{Op: api.OpVal, V: t.v})
	case t.kind == variable:
		r.whole(api.Term{Op: api.OpVar, Name: t.text})
	case t.text == has:
		r.wants, r.call = wantsOpen, api.OpHas
	case t.text == length:
		r.wants, r.call = wantsOpen, api.OpLen
	case t.text == opens:
		return r.begin(bracket, wantsValue)
	case is:
		return r.begin(one, wantsValue)
	default:
		return api.ErrForm
	}
	return api.OK
}

// sign takes what may stand behind a value. What was open ahead of a sign of two, and is as strong, or stronger, has all that it takes.
func (r *reader) sign(t token) api.Errno {
	if t.text == closes {
		return r.closeBracket(t)
	}
	two, is := signed(t.text, api.OpMul, api.OpOr)
	if !is {
		return api.ErrForm
	}
	for ahead := r.last(); takes(ahead) == 2 && strength(ahead) >= strength(two); ahead = r.last() {
		if strength(ahead) < least(two, 0) {
			return api.ErrForm
		}
		r.close()
	}
	r.open = append(r.open, api.Term{Op: two})
	r.wants = wantsValue
	return api.OK
}

// callOpens takes the ( of a call.
func (r *reader) callOpens(t token) api.Errno {
	switch {
	case t.text != opens:
		return api.ErrForm
	case r.call == api.OpHas:
		return r.begin(api.OpHas, wantsName)
	}
	return r.begin(r.call, wantsValue)
}

// name takes the variable of has.
func (r *reader) name(t token) api.Errno {
	if t.kind != variable {
		return api.ErrForm
	}
	r.open[len(r.open)-1].Name = t.text
	r.wants = wantsClose
	return api.OK
}

// closeBracket takes a ), which ends all that is open within its bracket.
func (r *reader) closeBracket(t token) api.Errno {
	if t.text != closes {
		return api.ErrForm
	}
	r.closeSigns()
	if len(r.open) == 0 {
		return api.ErrForm
	}
	r.close()
	r.whole()
	return api.OK
}

// begin opens a bracket, a call, or a sign of one.
func (r *reader) begin(op, wants int) api.Errno {
	if r.deep == api.MaxDeep {
		return api.ErrDeep
	}
	r.deep++
	r.open = append(r.open, api.Term{Op: op})
	r.wants = wants
	return api.OK
}

// whole takes a value that is whole, with the terms that are still missing of it: all signs of one right ahead of it take it at once.
func (r *reader) whole(missing ...api.Term) {
	r.terms = append(r.terms, missing...)
	r.wants = wantsSign
	for r.last() == api.OpNeg || r.last() == api.OpNot {
		r.close()
	}
}

// last tells the Op of what was opened last; that of a bracket, if nothing is open.
func (r *reader) last() int {
	if len(r.open) == 0 {
		return bracket
	}
	return r.open[len(r.open)-1].Op
}

// closeSigns closes the signs of two up to the last bracket that is open.
func (r *reader) closeSigns() {
	for takes(r.last()) == 2 {
		r.close()
	}
}

// close ends what was opened last: its term stands behind all that it takes. A bracket has none.
func (r *reader) close() {
	place := len(r.open) - 1
	t := r.open[place]
	r.open = r.open[:place]
	if takes(t.Op) != 2 {
		r.deep--
	}
	if t.Op != bracket {
		r.terms = append(r.terms, t)
	}
}
