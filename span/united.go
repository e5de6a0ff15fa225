package span

import (
	"slices"
	"strings"

	"conductor/api"
)

// normal gives l itself, if it is normal, else a normal list of what lies in it.
func normal(l []api.Span) []api.Span {
	if Normal(l) {
		return l
	}
	return united(l)
}

// united gives the normal list of all that lies in one of these lists, in new memory.
func united(lists ...[]api.Span) []api.Span {
	l := laid(slices.Concat(lists...))
	n := 0 // the first ones of l are what those that are gone over came to
	for _, s := range l {
		if n == 0 || apart(l[n-1], s) {
			l[n] = s
			n++
		} else {
			l[n-1].Hi = later(l[n-1].Hi, s.Hi)
		}
	}
	return slices.Delete(l, n, len(l))
}

// laid lays what is right of l in the order in which it begins, in the memory of l.
func laid(l []api.Span) []api.Span {
	l = slices.DeleteFunc(l, func(s api.Span) bool { return !Right(s) })
	slices.SortFunc(l, func(s, other api.Span) int { return strings.Compare(s.Lo, other.Lo) })
	return l
}

// apart tells whether b begins behind where a ends: that text itself lies in neither, so no one stretch has just what both have.
func apart(a, b api.Span) bool {
	return a.Hi != "" && b.Lo > a.Hi
}

// later gives the later of two ends.
func later(a, b string) string {
	if a != "" && ahead(a, b) {
		return b
	}
	return a
}
