package chain_test

import (
	"math"

	"conductor/api"
	"conductor/chain"
)

const last = math.MaxUint64 // the last time there is

func has(at uint64, data string) api.Version {
	return api.Version{At: at, Data: []byte(data)}
}

func gone(at uint64) api.Version {
	return api.Version{At: at, Gone: true}
}

// goneWith is what no chain has.
func goneWith(at uint64, data string) api.Version {
	return api.Version{At: at, Gone: true, Data: []byte(data)}
}

func list(l ...api.Version) []api.Version {
	return l
}

// chainsAt gives all chains whose versions are at some of these rising times.
func chainsAt(times ...uint64) [][]api.Version {
	all := [][]api.Version{nil}
	for _, at := range times {
		for _, l := range all {
			for _, v := range []api.Version{gone(at), has(at, ""), has(at, "x"), has(at, "yy")} {
				all = append(all, append(l[:len(l):len(l)], v))
			}
		}
	}
	return all
}

// chains are many, of times close together and far apart.
func chains() [][]api.Version {
	l := chainsAt(1, 2, 3, 4)
	l = append(l, chainsAt(2, 5, 7, 8)...)
	return append(l, chainsAt(1, 1<<32, last-1, last)...)
}

// times are those of the chains, and their neighbours.
func times() []uint64 {
	return []uint64{0, 1, 2, 3, 4, 5, 6, 7, 8, 9, 1<<32 - 1, 1 << 32, 1<<32 + 1, last - 2, last - 1, last}
}

// versions are right and wrong ones.
func versions() []api.Version {
	var l []api.Version
	for _, at := range []uint64{0, 1, 2, last} {
		l = append(l, gone(at), has(at, ""), has(at, "x"), goneWith(at, "x"), api.Version{At: at, Gone: true, Data: []byte{}})
	}
	return l
}

// lists are all of at most three versions, chains or not.
func lists() [][]api.Version {
	all := [][]api.Version{nil}
	shorter := all
	for range 3 {
		var next [][]api.Version
		for _, l := range shorter {
			for _, v := range versions() {
				next = append(next, append(l[:len(l):len(l)], v))
			}
		}
		all = append(all, next...)
		shorter = next
	}
	return all
}

// The following are what the chapter says, in another way.

func right(l []api.Version) bool {
	for i, v := range l {
		if v.At == 0 || v.Gone && string(v.Data) != "" {
			return false
		}
		for _, w := range l[:i] {
			if w.At >= v.At {
				return false
			}
		}
	}
	return true
}

// found is the place of the version that Find tells; below 0, if there is none.
func found(l []api.Version, at uint64) int {
	for i := len(l) - 1; i >= 0; i-- {
		if l[i].At <= at {
			return i
		}
	}
	return -1
}

func trimmed(l []api.Version, low uint64) []api.Version {
	var left []api.Version
	for i, v := range l {
		if v.At > low || i == found(l, low) && !v.Gone {
			left = append(left, v)
		}
	}
	return left
}

func same(a, b []api.Version) bool {
	if len(a) != len(b) {
		return false
	}
	for i := range a {
		if a[i].At != b[i].At || a[i].Gone != b[i].Gone || string(a[i].Data) != string(b[i].Data) {
			return false
		}
	}
	return true
}

// whole is a copy of l that shares nothing with it.
func whole(l []api.Version) []api.Version {
	var c []api.Version
	for _, v := range l {
		v.Data = []byte(string(v.Data))
		c = append(c, v)
	}
	return c
}

// asked tells what a chain has at a time, as a text: - if nothing.
func asked(l []api.Version, at uint64) string {
	b, is := chain.Get(l, at)
	if !is {
		return "-"
	}
	return "+" + string(b)
}
