package store_test

import (
	"slices"
	"testing"

	"conductor/api"
	"conductor/store"
)

// moment is a time at which was read what should not change.
type moment struct {
	at    uint64
	reads map[string]string
	pairs []api.Pair
}

// moments are read of a store at each time from low on.
func moments(s *store.Store, keys []string, low uint64) []moment {
	var l []moment
	for at := low; at <= s.Now(); at++ {
		m := moment{at, map[string]string{}, s.Scan("", "", at)}
		for _, key := range keys {
			m.reads[key] = asked(s, key, at)
		}
		l = append(l, m)
	}
	return l
}

// stays tells whether what was read at a time is read still.
func (m moment) stays(t *testing.T, s *store.Store) {
	t.Helper()
	for key, want := range m.reads {
		if got := asked(s, key, m.at); got != want {
			t.Fatalf("at %d, %q has %s, and had %s ahead", m.at, key, got, want)
		}
	}
	if l := s.Scan("", "", m.at); !samePairs(l, m.pairs) {
		t.Fatalf("at %d there is %v, and was %v ahead", m.at, l, m.pairs)
	}
}

// op is a commit, or, without writes, a collect.
type op struct {
	l   []api.Write
	low uint64
}

// ops are all commits to two keys, and all collects, by each of these lows.
func ops(lows ...uint64) []op {
	var l []op
	for _, low := range lows {
		l = append(l, op{nil, low})
		for _, a := range []string{"", "a", "a=", "a=xy"} {
			for _, b := range []string{"", "b", "b=", "b=z"} {
				w := slices.DeleteFunc([]string{a, b}, func(s string) bool { return s == "" })
				if len(w) > 0 {
					l = append(l, op{writes(w...), low})
				}
			}
		}
	}
	return l
}

// done does an op to a store and to a model, which must answer the same.
func (o op) done(t *testing.T, s *store.Store, m model) model {
	t.Helper()
	if o.l == nil {
		m, want := m.collect(o.low)
		if n := s.Collect(o.low); n != want {
			t.Fatalf("Collect(%d) = %d, want %d", o.low, n, want)
		}
		return m
	}
	m, want, code := m.commit(o.l, o.low)
	if at, err := s.Commit(o.l, o.low); at != want || err != code {
		t.Fatalf("Commit(%v, %d) = %d, %d, want %d, %d", o.l, o.low, at, err, want, code)
	}
	return m
}

// isWithin tells whether a store is within its limits: P8.8.
func isWithin(t *testing.T, s *store.Store, lim api.Limits) {
	t.Helper()
	n := s.Count()
	if n.Keys > lim.Keys || n.Versions > lim.Versions || n.Bytes > lim.Bytes || s.Now() > lim.Last {
		t.Fatalf("of %v there are %v, at %d", lim, n, s.Now())
	}
}

// P8.1 to P8.5, P8.8: all ways of a few ops, in stores with little room. The way back to a store that was cloned must find it as it was.
func TestAllOfAFewOps(t *testing.T) {
	keys, times := []string{"a", "b"}, []uint64{0, 1, 2, 3, 4}
	all := ops(0, 1, 2)
	for _, lim := range []api.Limits{sizes(1, 2, 4, 3), sizes(2, 3, 6, 3), sizes(2, 2, 9, 2)} {
		var walk func(s *store.Store, m model, deep int)
		walk = func(s *store.Store, m model, deep int) {
			isLike(t, s, m, keys, times)
			isWithin(t, s, lim)
			if deep == 0 {
				return
			}
			for _, o := range all {
				c := s.Clone()
				walk(c, o.done(t, c, m), deep-1)
			}
			isLike(t, s, m, keys, times)
		}
		walk(made(t, lim), model{lim: lim}, 3)
	}
}

// chance gives numbers that are the same each time.
type chance uint64

func (c *chance) of(n int) int {
	*c = *c*6364136223846793005 + 1442695040888963407
	return int(uint64(*c>>33) % uint64(n))
}

// some gives a few writes to keys.
func (c *chance) some(keys []string) []api.Write {
	var l []string
	for _, key := range keys {
		switch c.of(6) {
		case 0:
			l = append(l, key)
		case 1, 2:
			l = append(l, key+"="+"xyz"[:c.of(4)])
		}
	}
	return writes(l...)
}

var manyKeys = []string{"\x00", "a", "a\x00", "ab", "b", "k1", "k2", "z", "\xff"}

// P8.1 to P8.5, P8.8: long ways.
func TestLongWays(t *testing.T) {
	for seed := range 60 {
		c := chance(seed)
		lim := sizes(3+c.of(7), 5+c.of(20), 10+c.of(50), uint64(40+c.of(60)))
		s, m := made(t, lim), model{lim: lim}
		for range 100 {
			o := op{c.some(manyKeys), uint64(c.of(int(m.now) + 2))}
			if c.of(5) == 0 {
				o.l = nil
			}
			m = o.done(t, s, m)
			isWithin(t, s, lim)
			isLike(t, s, m, manyKeys, []uint64{0, m.now / 3, m.now / 2, m.now, last})
			lo, hi := manyKeys[c.of(9)], manyKeys[c.of(9)]
			if l := s.Scan(lo, hi, m.now); !samePairs(l, m.scan(lo, hi, m.now)) {
				t.Fatalf("Scan(%q, %q) = %v", lo, hi, l)
			}
		}
	}
}

// P8.6: by later commits, and by collecting at, or ahead of, the time, even where these are refused.
func TestAsItWas(t *testing.T) {
	for seed := range 60 {
		c := chance(seed)
		s := made(t, sizes(6, 30, 60, 60))
		low := uint64(0)
		var l []moment
		for range 80 {
			if c.of(3) == 0 {
				low += uint64(c.of(int(s.Now()-low) + 1))
			}
			now := s.Now()
			if c.of(4) == 0 {
				s.Collect(low)
			} else {
				s.Commit(c.some(manyKeys), low)
			}
			for _, m := range l {
				if m.at >= low && m.at <= now {
					m.stays(t, s)
				}
			}
			l = moments(s, manyKeys, low)
		}
	}
}

// P8.7
func TestScanned(t *testing.T) {
	edges := append([]string{"", "\x00\x00", "aa", "a\x00\x00", "y", "\xff\xff"}, manyKeys...)
	for seed := range 6 {
		c := chance(seed)
		s := made(t, wide)
		for range 10 {
			s.Commit(c.some(manyKeys), 0)
		}
		for _, lo := range edges {
			for _, hi := range edges {
				for at := range s.Now() + 2 {
					isScanned(t, s, lo, hi, at)
				}
			}
		}
	}
}

// isScanned tells whether a scan has just the keys that are read, in order.
func isScanned(t *testing.T, s *store.Store, lo, hi string, at uint64) {
	t.Helper()
	var want []api.Pair
	for _, key := range s.Keys() {
		b, is := s.Read(key, at)
		if is && key >= lo && (hi == "" || key < hi) {
			want = append(want, api.Pair{Key: key, Data: b})
		}
	}
	if l := s.Scan(lo, hi, at); !samePairs(l, want) {
		t.Fatalf("Scan(%q, %q, %d) = %v, want %v", lo, hi, at, l, want)
	}
}

// P8.7: keys that come in any order, a few and many at once, stand in order.
func TestManyKeys(t *testing.T) {
	for _, most := range []int{1, 2, 5, 40, 300} {
		c := chance(most)
		s := made(t, wide)
		seen := map[string]bool{}
		for range 60 {
			var l []string
			for range most {
				l = append(l, string([]byte{byte(c.of(256)), byte(c.of(9))}))
			}
			slices.Sort(l)
			l = slices.Compact(l)
			for i := range l {
				seen[l[i]] = true
				l[i] += "=" // the names here have at most two bytes
			}
			if _, err := s.Commit(namedWrites(l), 0); err != api.OK {
				t.Fatal(err)
			}
			keys := s.Keys()
			if len(keys) != len(seen) || !slices.IsSorted(keys) || len(s.Scan("", "", s.Now())) != len(seen) {
				t.Fatalf("%d keys of %d", len(keys), len(seen))
			}
			for _, key := range keys {
				if !seen[key] || s.Latest(key) == 0 {
					t.Fatalf("there is %q", key)
				}
			}
		}
	}
}

// namedWrites writes no bytes to keys, which stand ahead of a last byte.
func namedWrites(l []string) []api.Write {
	var out []api.Write
	for _, s := range l {
		out = append(out, api.Write{Key: s[:len(s)-1]})
	}
	return out
}

// P8.9: of two stores, one collects now and then; both are told, and refused, the same from the last low on.
func TestCollectingIsNotSeen(t *testing.T) {
	full := 0
	for seed := range 200 {
		c := chance(seed)
		lim := sizes(3+c.of(5), 6+c.of(20), 12+c.of(40), uint64(30+c.of(60)))
		s, other := made(t, lim), made(t, lim)
		low := uint64(0)
		for range 80 {
			low += uint64(c.of(int(s.Now()-low)+1) * c.of(2))
			if c.of(3) == 0 {
				s.Collect(low)
			}
			l := c.some(manyKeys)
			at, err := s.Commit(l, low)
			at2, err2 := other.Commit(l, low)
			if at != at2 || err != err2 {
				t.Fatalf("Commit(%v, %d) = %d, %d, and without collecting %d, %d", l, low, at, err, at2, err2)
			}
			if err == api.ErrFull {
				full++
			}
			for _, m := range moments(other, manyKeys, low) {
				m.stays(t, s)
			}
		}
	}
	if full < 1000 {
		t.Errorf("just %d were refused", full)
	}
}

// A key's chain may be as long as there is room, and each commit ends soon.
func TestLongChain(t *testing.T) {
	s := made(t, wide)
	for range api.MaxRoom {
		s.Commit([]api.Write{{Key: "a"}}, 0)
	}
	if s.Now() != api.MaxRoom || s.Count() != (api.Sizes{Keys: 1, Versions: api.MaxRoom, Bytes: 1}) || s.Latest("a") != api.MaxRoom {
		t.Errorf("at %d there are %v", s.Now(), s.Count())
	}
	if at, err := s.Commit([]api.Write{{Key: "a"}}, 1); at != 0 || err != api.ErrFull {
		t.Errorf("%d, %d", at, err)
	}
	if at, err := s.Commit([]api.Write{{Key: "a"}}, 2); at != api.MaxRoom+1 || err != api.OK {
		t.Errorf("%d, %d", at, err)
	}
	if n := s.Collect(last); n != api.MaxRoom-1 {
		t.Errorf("%d went", n)
	}
}
