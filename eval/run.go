package eval

import (
	"conductor/api"
	"conductor/fault"
	"conductor/value"
)

// run goes over terms that are right: it has the values that came, and that no term took yet.
type run struct {
	get    func(string) (api.Value, bool, error)
	values []api.Value
}

// step goes over the next term, if fuel is left.
func (r *run) step(t api.Term, left int) error {
	if left < 1 {
		return fault.Of(api.ErrFuel)
	}
	v, err := r.bring(t)
	if err == nil {
		r.values = append(r.values, v)
	}
	return err
}

// bring gives what a term comes to.
func (r *run) bring(t api.Term) (api.Value, error) {
	switch t.Op {
	case api.OpVal:
		return t.V, nil
	case api.OpVar, api.OpHas:
		return r.variable(t)
	case api.OpNeg, api.OpNot, api.OpLen:
		v, err := One(t.Op, r.take())
		return v, fault.Of(err)
	}
	b := r.take() // what came last stands on the right
	a := r.take()
	v, err := Two(t.Op, a, b)
	return v, fault.Of(err)
}

// variable gives the value of a variable, or whether there is one.
func (r *run) variable(t api.Term) (api.Value, error) {
	v, is, err := r.ask(t.Name)
	switch {
	case err != nil:
	case t.Op == api.OpHas:
		return value.Bool(is), nil
	case is:
		return v, nil
	default:
		err = fault.Of(api.ErrUnset)
	}
	return api.Value{}, fault.Wrap(t.Name, err)
}

// ask asks get, which is somebody else's: where there is none, there are no variables, and one that panics has an error without a number.
func (r *run) ask(name string) (v api.Value, is bool, err error) {
	if r.get == nil {
		return api.Value{}, false, nil
	}
	err = fault.Of(api.ErrOther) // stays, if get does not come back
	defer func() { _ = recover() }()
	return r.get(name)
}

// take takes the value that came last.
func (r *run) take() api.Value {
	last := len(r.values) - 1
	v := r.values[last]
	r.values = r.values[:last]
	return v
}
