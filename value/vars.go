package value

import (
	"slices"

	"conductor/api"
	"conductor/key"
)

// Vars tells what is wrong with l as variables that are handed in at once.
func Vars(l []api.Var) api.Errno {
	if len(l) > api.MaxVars {
		return api.ErrLong
	}
	for i, x := range l {
		switch {
		case !key.Name(x.Name):
			return api.ErrName
		case i > 0 && x.Name <= l[i-1].Name:
			return api.ErrForm
		case Right(x.V) != api.OK:
			return Right(x.V)
		}
	}
	return api.OK
}

// Set gives l with the variable x.
func Set(l []api.Var, x api.Var) []api.Var {
	if at := find(l, x.Name); at >= 0 {
		set := slices.Clone(l)
		set[at].V = x.V
		return set
	}
	place := slices.IndexFunc(l, func(y api.Var) bool { return y.Name > x.Name })
	if place < 0 {
		place = len(l)
	}
	set := make([]api.Var, len(l)+1)
	copy(set, l[:place])
	set[place] = x
	copy(set[place+1:], l[place:])
	return set
}

// Get gives the value of the first variable of that name.
func Get(l []api.Var, name string) (api.Value, bool) {
	if at := find(l, name); at >= 0 {
		return l[at].V, true
	}
	return api.Value{}, false
}

// find tells where the first variable of that name stands; below 0, if there is none.
func find(l []api.Var, name string) int {
	return slices.IndexFunc(l, func(x api.Var) bool { return x.Name == name })
}
