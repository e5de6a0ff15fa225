package fault

import "errors"

// places are those of Faults, the outermost first.
type places []string

// gather adds the places of all Faults that err is, or wraps. Between them may stand errors from outside, through which errors.As sees, but which it does not tell: it is gone down to each Fault step by step, as one of them may wrap several.
func (p *places) gather(err error) {
	var next *Fault
	for errors.As(err, &next) {
		for err != error(next) {
			inner := errors.Unwrap(err)
			if inner == nil {
				p.gatherEach(err)
				return
			}
			err = inner
		}
		if next == nil { // an error by its type, but without a place
			return
		}
		*p = append(*p, next.Place)
		err = next.Err
	}
}

// gatherEach adds the places of each of the errors that err wraps, in their order, which is that of errors.As, too.
func (p *places) gatherEach(err error) {
	var several interface{ Unwrap() []error }
	if !errors.As(err, &several) {
		return
	}
	for _, each := range several.Unwrap() {
		p.gather(each)
	}
}
