package chain

import (
	"bytes"

	"conductor/api"
)

// upTo tells how many versions are at or below a time.
func upTo(l []api.Version, at uint64) int {
	return ahead(l, func(v api.Version) bool { return v.At > at })
}

// ahead tells, by halves, how many stand ahead of the first one that is beyond; of a list in which one that is not beyond stands behind one that is, any place.
func ahead[E any](l []E, beyond func(E) bool) int {
	lo, hi := 0, len(l)
	for lo < hi {
		mid := lo + (hi-lo)/2
		if beyond(l[mid]) {
			hi = mid
		} else {
			lo = mid + 1
		}
	}
	return lo
}

// cut gives the versions from a place on, and no room behind them: that is of whoever handed l in, so what is laid behind must come into new memory.
func cut(l []api.Version, from int) []api.Version {
	return l[from:len(l):len(l)]
}

// owned gives the versions with memory of their own.
func owned(l []api.Version) []api.Version {
	all := make([]api.Version, 0, len(l))
	for _, v := range l {
		all = append(all, own(v))
	}
	return all
}

// own gives a version with memory of its own.
func own(v api.Version) api.Version {
	v.Data = bytes.Clone(v.Data)
	return v
}
