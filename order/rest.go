package order

import (
	"cmp"

	"conductor/api"
)

// rest is a list of which some are laid already. Histories are long, but in them few are beside one another: those that are left stand in rows, by which one finds the few that may stand ahead of another one without asking all.
type rest struct {
	l       []api.Done
	laid    func(place int) bool
	lay     func(place int)
	byEnd   *row
	byBegan *row
	ahead   []int // of each place: where in byBegan one stands that reads ahead of it; those up to there are not asked again
}

// restOf gives the rest of l of which none is laid.
func restOf(l []api.Done) *rest {
	done := make([]bool, len(l))
	laid := func(place int) bool { return done[place] }
	r := &rest{
		l:       l,
		laid:    laid,
		lay:     func(place int) { done[place] = true },
		byEnd:   rowOf(len(l), laid, func(a, b int) int { return cmp.Compare(l[a].End, l[b].End) }),
		byBegan: rowOf(len(l), laid, func(a, b int) int { return cmp.Compare(l[a].Began, l[b].Began) }),
		ahead:   make([]int, len(l)),
	}
	for place := range r.ahead {
		r.ahead[place] = -1
	}
	return r
}

// free tells whether no other one that is left must stand ahead of this one.
func (r *rest) free(place int) bool {
	return !r.waitsForEnd(place) && !r.waitsForRead(place)
}

// waitsForEnd tells whether another one that is left ended ahead of this one's beginning: if one did, the first one to end did.
func (r *rest) waitsForEnd(place int) bool {
	k := r.byEnd.from(0)
	if r.byEnd.places[k] == place {
		k = r.byEnd.from(k + 1)
	}
	return k < len(r.l) && endsAhead(r.l[r.byEnd.places[k]], r.l[place])
}

// waitsForRead tells whether another one that is left read ahead of this one. It goes on where it found one the last time, as to hold stretches against each other takes long.
func (r *rest) waitsForRead(place int) bool {
	k := r.ahead[place]
	if k >= 0 && !r.laid(r.byBegan.places[k]) {
		return true
	}
	for k = r.byBegan.from(k + 1); k < len(r.l); k = r.byBegan.from(k + 1) {
		other := r.byBegan.places[k]
		if r.l[other].Began >= r.l[place].At {
			return false // so did all that follow
		}
		if other != place && readsAhead(r.l[other], r.l[place]) {
			r.ahead[place] = k
			return true
		}
	}
	return false
}
