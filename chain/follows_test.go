package chain_test

import (
	"testing"

	"conductor/api"
	"conductor/chain"
)

// P7.5
func TestTrimmedAsBefore(t *testing.T) {
	for _, l := range chains() {
		for _, low := range times() {
			left := chain.Trim(l, low)
			if !chain.Right(left) {
				t.Errorf("Trim(%v, %d) = %v is no chain", l, low, left)
			}
			for _, at := range times() {
				if at >= low && asked(left, at) != asked(l, at) {
					t.Errorf("%v tells %s at %d, and trimmed by %d %s", l, asked(l, at), at, low, asked(left, at))
				}
			}
		}
	}
}

// P7.6: at most one version is at or below low.
func TestTrimmedFew(t *testing.T) {
	for _, l := range chains() {
		for _, low := range times() {
			few := 0
			for _, v := range chain.Trim(l, low) {
				if v.At <= low {
					few++
				}
			}
			if few > 1 {
				t.Errorf("%d of Trim(%v, %d) are at or below it", few, l, low)
			}
		}
	}
}

// P7.6: trimming ahead makes no difference.
func TestTrimmedAhead(t *testing.T) {
	for _, l := range chains() {
		for _, low := range times() {
			want := chain.Trim(l, low)
			for _, less := range times() {
				if less > low {
					break
				}
				if got := chain.Trim(chain.Trim(l, less), low); !chain.Same(got, want) {
					t.Errorf("Trim(%v, %d) = %v; trimmed by %d ahead: %v", l, low, want, less, got)
				}
			}
		}
	}
}

// P7.7
func TestStays(t *testing.T) {
	for _, l := range chains() {
		for _, at := range times() {
			for _, v := range list(has(at, "z"), gone(at)) {
				more, err := chain.Put(l, v)
				if err != api.OK {
					continue
				}
				if !chain.Right(more) || chain.Last(more) != at || chain.Size(more) != chain.Size(l)+len(v.Data) {
					t.Errorf("Put(%v, %v) = %v", l, v, more)
				}
				for _, ask := range times() {
					if ask < at && asked(more, ask) != asked(l, ask) {
						t.Errorf("%v tells %s at %d, and with %v %s", l, asked(l, ask), ask, v, asked(more, ask))
					}
				}
				if found, is := chain.Find(more, at); !is || !same(list(found), list(v)) {
					t.Errorf("%v is put, and %v found", v, found)
				}
			}
		}
	}
}

// spoil changes all that a list has, and what room is behind it.
func spoil(l []api.Version) {
	l = l[:cap(l)]
	for i := range l {
		spoilBytes(l[i].Data)
		l[i] = goneWith(77, "spoiled")
	}
}

func spoilBytes(b []byte) {
	b = b[:cap(b)]
	for i := range b {
		b[i] = '!'
	}
}

// roomy is a copy of l with room behind it, and behind all Data, which is laid out one behind the other.
func roomy(l []api.Version) []api.Version {
	c := make([]api.Version, 0, len(l)+5)
	data := make([]byte, 0, 1000)
	for _, v := range l {
		from := len(data)
		data = append(data, v.Data...)
		v.Data = data[from:]
		c = append(c, v)
	}
	return c
}

// R4: what is answered shares nothing with what was handed in, and the room behind that stays as it is.
func TestAnswersAreOwn(t *testing.T) {
	for _, l := range chains() {
		for _, at := range times() {
			isOwn(t, l, at)
		}
	}
}

// isOwn asks of a time, and changes what was answered, and then what was handed in.
func isOwn(t *testing.T, l []api.Version, at uint64) {
	t.Helper()
	given := roomy(l)
	all := given[:cap(given)]
	ahead := whole(all)

	v, _ := chain.Find(given, at)
	b, _ := chain.Get(given, at)
	spoilBytes(v.Data)
	spoilBytes(b)
	spoil(chain.Trim(given, at))
	z := has(at, "z")
	put, _ := chain.Put(given, z)
	spoil(put)
	if !same(all, ahead) || string(z.Data) != "z" {
		t.Fatalf("%v is %v when what was answered at %d is changed", ahead, all, at)
	}

	v, _ = chain.Find(given, at)
	b, _ = chain.Get(given, at)
	trim := chain.Trim(given, at)
	put, _ = chain.Put(given, z)
	told := whole(append(append(list(v, api.Version{Data: b}), trim...), put...))
	spoil(given)
	spoilBytes(z.Data)
	if !same(append(append(list(v, api.Version{Data: b}), trim...), put...), told) {
		t.Fatalf("what %v told at %d changes with what was handed in", l, at)
	}
}

// R4: the lists of one answer share nothing with one another, even where those that were handed in did.
func TestAnswersShareNothing(t *testing.T) {
	data := []byte("abc")
	l := list(api.Version{At: 1, Data: data}, api.Version{At: 2, Data: data[:2]}, api.Version{At: 3, Data: data[1:]})
	put, err := chain.Put(l, api.Version{At: 4, Data: data})
	if err != api.OK {
		t.Fatal(err)
	}
	for _, got := range [][]api.Version{chain.Trim(l, 0), put} {
		for i := range got {
			others := whole(got)
			spoilBytes(got[i].Data)
			_ = append(got[i].Data, "!!!"...)
			others[i] = got[i]
			if !same(got, others) {
				t.Errorf("with version %d others change: %v", i, got)
			}
		}
	}
}

// FuzzChain: whatever chains come.
func FuzzChain(f *testing.F) {
	f.Add([]byte{2, 0, 1, 3, 1, 0, 2, 0, 2}, uint64(4))
	f.Add([]byte{0, 0, 0, 1, 1, 1}, uint64(0))
	f.Add([]byte{1, 1, 0, 255, 0, 9, 255, 3, 9}, uint64(255))
	f.Fuzz(func(t *testing.T, b []byte, at uint64) {
		var l []api.Version
		sum := uint64(0)
		for ; len(b) >= 3; b = b[3:] {
			sum += uint64(b[0])
			l = append(l, api.Version{At: sum, Gone: b[1]%4 == 0, Data: make([]byte, b[2]%5)})
		}
		if chain.Right(l) != right(l) {
			t.Fatalf("Right(%v) = %t", l, chain.Right(l))
		}
		isOwn(t, l, at)
		if !right(l) {
			isPut(t, l, has(at, "z"), api.ErrArg)
			return
		}
		isFound(t, l, at)
		isTrimmed(t, l, at, trimmed(l, at))
		if at > chain.Last(l) {
			isPut(t, l, has(at, "z"), api.OK)
		}
	})
}
