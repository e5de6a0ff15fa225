package store

import "slices"

// between gives the stretch of rising keys from lo on up to ahead of hi; to the end, if hi is empty.
func between(keys []string, lo, hi string) []string {
	from, _ := slices.BinarySearch(keys, lo)
	keys = keys[from:]
	if hi == "" {
		return keys
	}
	to, _ := slices.BinarySearch(keys, hi)
	return keys[:to]
}

// merged gives the keys and fresh ones together, in order: both rise, and have none in common. The fresh ones are laid from the last one on, with all that stands behind each moved at once, so that one among many costs little, and many cost no more than going over all.
func merged(keys, fresh []string) []string {
	all := append(keys, fresh...)
	end := len(keys)
	for i := len(fresh) - 1; i >= 0; i-- {
		at, _ := slices.BinarySearch(all[:end], fresh[i])
		copy(all[at+i+1:], all[at:end])
		all[at+i] = fresh[i]
		end = at
	}
	return all
}
