package store_test

import (
	"math"
	"strings"
	"testing"

	"conductor/api"
	"conductor/chain"
	"conductor/store"
)

// P8.1
func TestNew(t *testing.T) {
	const max = api.MaxRoom
	for _, x := range []struct {
		l  api.Limits
		is bool
	}{
		{sizes(1, 1, 1, 1), true},
		{sizes(max, max, max, last), true},
		{sizes(max, 1, 1, 2), true},
		{sizes(1, max, 1, 2), true},
		{sizes(1, 1, max, 2), true},
		{api.Limits{Keys: 1, Versions: 1, Bytes: 1, Last: 1, Marks: -1, Records: -1, Live: -1}, true},
		{api.Limits{Keys: 1, Versions: 1, Bytes: 1, Last: 1, Marks: max + 1, Records: math.MaxInt, Live: api.MaxLive + 1}, true},
		{api.Limits{}, false},
		{sizes(0, 1, 1, 1), false},
		{sizes(1, 0, 1, 1), false},
		{sizes(1, 1, 0, 1), false},
		{sizes(1, 1, 1, 0), false},
		{sizes(-1, 1, 1, 1), false},
		{sizes(1, -1, 1, 1), false},
		{sizes(1, 1, -1, 1), false},
		{sizes(math.MinInt, 1, 1, 1), false},
		{sizes(max+1, 1, 1, 1), false},
		{sizes(1, max+1, 1, 1), false},
		{sizes(1, 1, max+1, 1), false},
		{sizes(math.MaxInt, 1, 1, 1), false},
		{sizes(1, 1, math.MaxInt, 1), false},
	} {
		s, err := store.New(x.l)
		if !x.is && (s != nil || err != api.ErrArg) {
			t.Errorf("New(%v) = %v, %d", x.l, s, err)
		}
		if x.is {
			if s == nil || err != api.OK {
				t.Fatalf("New(%v) = %v, %d", x.l, s, err)
			}
			isLike(t, s, model{lim: x.l}, []string{"", "a"}, []uint64{0, 1, last})
		}
	}
}

// P8.1: two of the same limits are two.
func TestNewIsAnother(t *testing.T) {
	a, b := made(t, wide), made(t, wide)
	written(t, a, "a=x")
	isLike(t, b, model{lim: wide}, []string{"a"}, []uint64{0, 1})
	written(t, b, "b=y")
	if asked(a, "b", 1) != "-" || asked(b, "a", 1) != "-" {
		t.Error("two stores have keys in common")
	}
}

// P8.1, R6
func TestWhatNoCallMade(t *testing.T) {
	for _, s := range []*store.Store{nil, {}, new(store.Store)} {
		if at, err := s.Commit(writes("a=x"), 0); at != 0 || err != api.ErrMade {
			t.Errorf("Commit = %d, %d", at, err)
		}
		if at, err := s.Commit(nil, last); at != 0 || err != api.ErrMade {
			t.Errorf("Commit of nothing = %d, %d", at, err)
		}
		if at, err := s.Commit(writes("=x"), 0); at != 0 || err != api.ErrMade { // ahead of Check's error
			t.Errorf("Commit of what may not be = %d, %d", at, err)
		}
		if s.Now() != 0 || s.Latest("a") != 0 || s.Collect(last) != 0 || s.Count() != (api.Sizes{}) {
			t.Error("it has something")
		}
		if asked(s, "a", 1) != "-" || s.Scan("", "", last) != nil || s.Chain("a") != nil || s.Keys() != nil || s.Clone() != nil {
			t.Error("it tells something")
		}
	}
}

// P8.1
func TestCountAndKeys(t *testing.T) {
	s := made(t, wide)
	for _, x := range []struct {
		l    []string
		n    api.Sizes
		keys string
	}{
		{[]string{"b=xyz"}, api.Sizes{Keys: 1, Versions: 1, Bytes: 4}, "b"},
		{[]string{"a=", "c=u"}, api.Sizes{Keys: 3, Versions: 3, Bytes: 7}, "a b c"},
		{[]string{"b=z"}, api.Sizes{Keys: 3, Versions: 4, Bytes: 8}, "a b c"},
		{[]string{"b"}, api.Sizes{Keys: 3, Versions: 5, Bytes: 8}, "a b c"}, // its key stays, till it is collected
		{[]string{"b"}, api.Sizes{Keys: 3, Versions: 5, Bytes: 8}, "a b c"}, // there is nothing that would go
		{[]string{"q"}, api.Sizes{Keys: 3, Versions: 5, Bytes: 8}, "a b c"},
		{[]string{"abc=12"}, api.Sizes{Keys: 4, Versions: 6, Bytes: 13}, "a abc b c"},
		{[]string{"\x00=", "b=", "\xff="}, api.Sizes{Keys: 6, Versions: 9, Bytes: 15}, "\x00 a abc b c \xff"},
	} {
		written(t, s, x.l...)
		if s.Count() != x.n || strings.Join(s.Keys(), " ") != x.keys {
			t.Errorf("with %q there are %v, %q, want %v, %q", x.l, s.Count(), s.Keys(), x.n, x.keys)
		}
	}
}

// P8.2: the chapter's example among them.
func TestRead(t *testing.T) {
	s := made(t, wide)
	written(t, s, "a=x")
	written(t, s, "a")
	written(t, s, "b=", "c=u")
	written(t, s, "a=yy", "q")
	for _, x := range []struct {
		key  string
		at   uint64
		want string
	}{
		{"a", 0, "-"}, {"a", 1, "+x"}, {"a", 2, "-"}, {"a", 3, "-"}, {"a", 4, "+yy"}, {"a", 5, "+yy"}, {"a", last, "+yy"},
		{"b", 0, "-"}, {"b", 2, "-"}, {"b", 3, "+"}, {"b", last, "+"},
		{"c", 2, "-"}, {"c", 3, "+u"},
		{"q", 4, "-"}, {"q", last, "-"}, {"", 4, "-"}, {"ab", 4, "-"}, {"A", 4, "-"}, {"a\x00", 4, "-"},
	} {
		for range 2 { // R5
			if got := asked(s, x.key, x.at); got != x.want {
				t.Errorf("Read(%q, %d) = %s, want %s", x.key, x.at, got, x.want)
			}
		}
	}
	for key, at := range map[string]uint64{"a": 4, "b": 3, "c": 3, "q": 0, "": 0, "zz": 0} {
		if s.Latest(key) != at {
			t.Errorf("Latest(%q) = %d, want %d", key, s.Latest(key), at)
		}
	}
	if l := s.Chain("a"); !chain.Same(l, []api.Version{{At: 1, Data: []byte("x")}, {At: 2, Gone: true}, {At: 4, Data: []byte("yy")}}) {
		t.Errorf("Chain = %v", l)
	}
	if s.Chain("q") != nil && len(s.Chain("q")) > 0 || len(s.Chain("")) > 0 {
		t.Error("what has no chain has versions")
	}
}

// P8.2: that a key is Gone counts for Latest, till it is collected.
func TestLatestOfGone(t *testing.T) {
	s := made(t, wide)
	written(t, s, "a=x")
	written(t, s, "a")
	if s.Latest("a") != 2 {
		t.Errorf("Latest = %d", s.Latest("a"))
	}
	if n := s.Collect(2); n != 2 || s.Latest("a") != 0 || len(s.Keys()) != 0 {
		t.Errorf("%d went, and Latest is %d", n, s.Latest("a"))
	}
}

// P8.2
func TestScan(t *testing.T) {
	s := made(t, wide)
	written(t, s, "b=1", "d=2", "d\x00=3", "f=4")
	written(t, s, "a=5", "d", "\xff\xff=6")
	written(t, s, "b=7", "e=")
	for _, x := range []struct {
		lo, hi string
		at     uint64
		want   string
	}{
		{"", "", 0, ""},
		{"", "", 1, "b1 d2 d\x003 f4 "},
		{"", "", 2, "a5 b1 d\x003 f4 \xff\xff6 "},
		{"", "", 3, "a5 b7 d\x003 e f4 \xff\xff6 "},
		{"", "", last, "a5 b7 d\x003 e f4 \xff\xff6 "},
		{"b", "", 3, "b7 d\x003 e f4 \xff\xff6 "},
		{"a\x00", "", 3, "b7 d\x003 e f4 \xff\xff6 "},
		{"\xff\xff\x00", "", 3, ""},
		{"\xff\xff", "", 3, "\xff\xff6 "},
		{"", "b", 3, "a5 "},
		{"", "b\x00", 3, "a5 b7 "},
		{"b", "f", 3, "b7 d\x003 e "},
		{"b", "f", 1, "b1 d2 d\x003 "},
		{"d", "d\x00", 1, "d2 "},
		{"d", "d\x00", 2, ""},
		{"d", "d\x00\x00", 2, "d\x003 "},
		{"b", "b", 3, ""},
		{"f", "b", 3, ""},
		{"\xff\xff\xff", "\xff\xff\xff\xff", 3, ""},
		{"c", "c\xff", 3, ""},
		{"", "\x00", 3, ""},
		{"", "zz", 3, "a5 b7 d\x003 e f4 "},
	} {
		for range 2 { // R5
			got := ""
			for _, p := range s.Scan(x.lo, x.hi, x.at) {
				got += p.Key + string(p.Data) + " "
			}
			if got != x.want {
				t.Errorf("Scan(%q, %q, %d) = %q, want %q", x.lo, x.hi, x.at, got, x.want)
			}
		}
	}
}

// P8.1
func TestClone(t *testing.T) {
	lim := sizes(3, 4, 9, 5)
	s := made(t, lim)
	m := model{lim: lim}
	keys, times := []string{"a", "b", "c"}, []uint64{0, 1, 2, 3, 4, 5}
	step := func(s *store.Store, m model, low uint64, l ...string) model {
		m, want, code := m.commit(writes(l...), low)
		if at, err := s.Commit(writes(l...), low); at != want || err != code {
			t.Errorf("Commit(%q) = %d, %d, want %d, %d", l, at, err, want, code)
		}
		return m
	}
	m = step(s, m, 0, "a=x", "b=y")
	m = step(s, m, 0, "a=z")
	c := s.Clone()
	isLike(t, c, m, keys, times)
	other := step(c, m, 0, "c=1")    // the clone alone
	m = step(s, m, 0, "a=2")         // the first one alone, behind the same version
	other = step(c, other, 0, "a=3") // full, and nothing that may go
	other = step(c, other, 2, "a=3") // likewise, but for what may go
	m = step(s, m, 0, "b")           // full
	m, _ = m.collect(3)              // and collected
	if n := s.Collect(3); n != 2 || s.Clone().Collect(last) != 0 {
		t.Errorf("%d went", n)
	}
	isLike(t, s, m, keys, times)
	isLike(t, c, other, keys, times)
	isLike(t, c.Clone().Clone(), other, keys, times)
	other = step(c, other, last, "b=z")
	step(c, other, last, "b=u") // a clone's last time is the same
	isLike(t, s, m, keys, times)
}
