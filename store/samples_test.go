package store_test

import (
	"math"
	"sort"
	"strings"
	"testing"

	"conductor/api"
	"conductor/chain"
	"conductor/store"
)

const last = math.MaxUint64 // the last time there is

// wide are limits that nothing here comes near to.
var wide = api.Limits{Keys: api.MaxRoom, Versions: api.MaxRoom, Bytes: api.MaxRoom, Last: last}

// sizes are limits of a store.
func sizes(keys, versions, bytes int, end uint64) api.Limits {
	return api.Limits{Keys: keys, Versions: versions, Bytes: bytes, Last: end}
}

// made gives a store of these limits, with which it is made.
func made(t *testing.T, l api.Limits) *store.Store {
	t.Helper()
	s, err := store.New(l)
	if s == nil || err != api.OK {
		t.Fatalf("New(%v) = %v, %d", l, s, err)
	}
	return s
}

// writes are told as texts: a=x is x of a, a= is no bytes of a, and a alone is a Gone.
func writes(l ...string) []api.Write {
	var out []api.Write
	for _, s := range l {
		key, data, is := strings.Cut(s, "=")
		w := api.Write{Key: key, Gone: !is}
		if is {
			w.Data = []byte(data)
		}
		out = append(out, w)
	}
	return out
}

// written commits what must be taken.
func written(t *testing.T, s *store.Store, l ...string) {
	t.Helper()
	now := s.Now()
	if at, err := s.Commit(writes(l...), 0); at != now+1 || err != api.OK {
		t.Fatalf("Commit(%q) at %d = %d, %d", l, now, at, err)
	}
}

// deed is a version of a key.
type deed struct {
	key  string
	at   uint64
	gone bool
	data string
}

// model is a store as the chapter tells it, in another way: a list of what was written, and all else counted from that.
type model struct {
	lim  api.Limits
	now  uint64
	list []deed
}

func (m model) find(key string, at uint64) (deed, bool) {
	for i := len(m.list) - 1; i >= 0; i-- {
		if d := m.list[i]; d.key == key && d.at <= at {
			return d, true
		}
	}
	return deed{}, false
}

// read tells what a key has as a text: - if nothing.
func (m model) read(key string, at uint64) string {
	d, is := m.find(key, at)
	if !is || d.gone {
		return "-"
	}
	return "+" + d.data
}

func (m model) keys() []string {
	var l []string
	seen := map[string]bool{}
	for _, d := range m.list {
		if !seen[d.key] {
			l = append(l, d.key)
		}
		seen[d.key] = true
	}
	sort.Strings(l)
	return l
}

func (m model) count() api.Sizes {
	n := api.Sizes{Keys: len(m.keys()), Versions: len(m.list)}
	for _, key := range m.keys() {
		n.Bytes += len(key)
	}
	for _, d := range m.list {
		n.Bytes += len(d.data)
	}
	return n
}

func (m model) fits() bool {
	n := m.count()
	return n.Keys <= m.lim.Keys && n.Versions <= m.lim.Versions && n.Bytes <= m.lim.Bytes
}

// with is the model with what comes of l.
func (m model) with(l []api.Write) model {
	now := m.now
	m.now++
	for _, w := range l {
		if !w.Gone || m.read(w.Key, now) != "-" {
			m.list = append(m.list[:len(m.list):len(m.list)], deed{w.Key, m.now, w.Gone, string(w.Data)})
		}
	}
	return m
}

func (m model) collect(low uint64) (model, int) {
	var left []deed
	for _, d := range m.list {
		if holds, _ := m.find(d.key, low); d.at > low || d == holds && !d.gone {
			left = append(left, d)
		}
	}
	went := len(m.list) - len(left)
	m.list = left
	return m, went
}

// commit takes what is right for Check alone.
func (m model) commit(l []api.Write, low uint64) (model, uint64, api.Errno) {
	if len(l) == 0 {
		return m, m.now, api.OK
	}
	if m.now == m.lim.Last {
		return m, 0, api.ErrFull
	}
	if !m.with(l).fits() {
		m, _ = m.collect(low)
	}
	if !m.with(l).fits() {
		return m, 0, api.ErrFull
	}
	m = m.with(l)
	return m, m.now, api.OK
}

func (m model) chain(key string) []api.Version {
	var l []api.Version
	for _, d := range m.list {
		if d.key == key {
			l = append(l, api.Version{At: d.at, Gone: d.gone, Data: []byte(d.data)})
		}
	}
	return l
}

func (m model) scan(lo, hi string, at uint64) []api.Pair {
	var l []api.Pair
	for _, key := range m.keys() {
		if key >= lo && (hi == "" || key < hi) && m.read(key, at) != "-" {
			l = append(l, api.Pair{Key: key, Data: []byte(m.read(key, at)[1:])})
		}
	}
	return l
}

// asked tells what a store's key has, as a text: - if nothing.
func asked(s *store.Store, key string, at uint64) string {
	b, is := s.Read(key, at)
	if !is && b == nil {
		return "-"
	}
	if !is {
		return "? " + string(b)
	}
	return "+" + string(b)
}

func samePairs(a, b []api.Pair) bool {
	if len(a) != len(b) {
		return false
	}
	for i := range a {
		if a[i].Key != b[i].Key || string(a[i].Data) != string(b[i].Data) {
			return false
		}
	}
	return true
}

func sameKeys(a, b []string) bool {
	return len(a) == len(b) && strings.Join(a, "\x00") == strings.Join(b, "\x00")
}

// isLike tells whether a store is as the model: its time, sizes and keys, and what it is asked of these keys, and times.
func isLike(t *testing.T, s *store.Store, m model, keys []string, times []uint64) {
	t.Helper()
	if s.Now() != m.now || s.Count() != m.count() || !sameKeys(s.Keys(), m.keys()) {
		t.Fatalf("the store has %d, %v, %q, want %d, %v, %q", s.Now(), s.Count(), s.Keys(), m.now, m.count(), m.keys())
	}
	for _, key := range keys {
		l := m.chain(key)
		if !chain.Same(s.Chain(key), l) {
			t.Fatalf("Chain(%q) = %v, want %v", key, s.Chain(key), l)
		}
		latest := uint64(0)
		if len(l) > 0 {
			latest = l[len(l)-1].At
		}
		if s.Latest(key) != latest {
			t.Fatalf("Latest(%q) = %d, want %d", key, s.Latest(key), latest)
		}
		for _, at := range times {
			if asked(s, key, at) != m.read(key, at) {
				t.Fatalf("Read(%q, %d) = %s, want %s", key, at, asked(s, key, at), m.read(key, at))
			}
		}
	}
	for _, at := range times {
		if l := s.Scan("", "", at); !samePairs(l, m.scan("", "", at)) {
			t.Fatalf("Scan at %d = %v, want %v", at, l, m.scan("", "", at))
		}
	}
}
