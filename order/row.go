package order

import (
	"slices"
)

// row has places in an order, and passes over those that are laid.
type row struct {
	places []int
	next   []int // where to look on from one that is laid
	laid   func(place int) bool
}

// rowOf lays so many places in a row; of those that compare alike, the first one is ahead.
func rowOf(n int, laid func(place int) bool, compare func(a, b int) int) *row {
	r := &row{places: make([]int, n), next: make([]int, n), laid: laid}
	for i := range n {
		r.places[i], r.next[i] = i, i+1
	}
	slices.SortStableFunc(r.places, compare)
	return r
}

// from gives where, from k on, the first place stands that is not laid; behind the end, if there is none.
func (r *row) from(k int) int {
	end := k
	for end < len(r.places) && r.laid(r.places[end]) {
		end = r.next[end]
	}
	for k < end { // whoever comes by again need not pass over all of them again
		after := r.next[k]
		r.next[k] = end
		k = after
	}
	return end
}
