package span

import (
	"slices"

	"conductor/api"
)

// Normal tells whether l has right stretches, in order, with a gap behind each that another one follows.
func Normal(l []api.Span) bool {
	for i, s := range l {
		if !Right(s) || i > 0 && !apart(l[i-1], s) {
			return false
		}
	}
	return true
}

// Add gives the normal list of all that lies in one of l, or in s.
func Add(l []api.Span, s api.Span) []api.Span {
	return united(l, []api.Span{s})
}

// Join gives the normal list of all that lies in one of a, or in one of b.
func Join(a, b []api.Span) []api.Span {
	return united(a, b)
}

// In tells whether a key lies in one of l.
func In(l []api.Span, key string) bool {
	return slices.ContainsFunc(l, func(s api.Span) bool { return Has(s, key) })
}

// Meet tells whether one of a meets one of b. Both are gone over once, side by side, as they may be long.
func Meet(a, b []api.Span) bool {
	a, b = normal(a), normal(b)
	next := 0 // those of b ahead of it end ahead of what is left of a
stretch:
	for _, s := range a {
		for ; next < len(b); next++ {
			if Meets(s, b[next]) {
				return true
			}
			if !ahead(b[next].Lo, s.Hi) {
				continue stretch // a later one of a may meet it still
			}
		}
		return false // all of b ends ahead of s, and of what follows
	}
	return false
}

// Fit gives the normal list of all that lies in one of l, with so many of the first ones joined that there are n, or one.
func Fit(l []api.Span, n int) []api.Span {
	all := united(l)
	over := len(all) - max(n, 1)
	if over <= 0 {
		return all
	}
	all[over].Lo = all[0].Lo
	return slices.Delete(all, 0, over)
}

// Same tells whether a and b are the same, stretch by stretch.
func Same(a, b []api.Span) bool {
	return slices.Equal(a, b)
}
