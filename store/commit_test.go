package store_test

import (
	"strings"
	"testing"

	"conductor/api"
	"conductor/chain"
	"conductor/store"
)

// P8.3
func TestCheck(t *testing.T) {
	key, data := strings.Repeat("k", api.MaxKey), make([]byte, api.MaxData)
	long, more := key+"k", make([]byte, api.MaxData+1)
	has := func(key string, data []byte) api.Write { return api.Write{Key: key, Data: data} }
	goneWith := func(key string, data []byte) api.Write { return api.Write{Key: key, Gone: true, Data: data} }
	a, z := writes("a=x")[0], writes("z=x")[0]
	for _, x := range []struct {
		l   []api.Write
		err api.Errno
	}{
		{nil, api.OK},
		{[]api.Write{}, api.OK},
		{[]api.Write{a, z}, api.OK},
		{writes("a", "b=", "b\x00=x", "ba", "c"), api.OK},
		{writes("\x00=", "\x00\x00=", "\xff=x", "\xff\xff"), api.OK},
		{[]api.Write{has(key, data)}, api.OK},
		{[]api.Write{has("a", nil), goneWith("b", nil), goneWith("c", []byte{})}, api.OK},
		{[]api.Write{has(key[1:], data), has(key, data)}, api.OK},
		// too long
		{[]api.Write{has(long, nil)}, api.ErrLong},
		{[]api.Write{goneWith(long, nil)}, api.ErrLong},
		{[]api.Write{has("a", more)}, api.ErrLong},
		{[]api.Write{a, has("b", more)}, api.ErrLong},
		{[]api.Write{a, has(long, nil), z}, api.ErrLong},
		// keys that are empty, or not above the one ahead
		{writes("=x"), api.ErrArg},
		{writes(""), api.ErrArg},
		{writes("a=x", "=x"), api.ErrArg},
		{writes("=x", "a=x"), api.ErrArg},
		{writes("a=x", "a=x"), api.ErrArg},
		{writes("a=x", "a"), api.ErrArg},
		{writes("b=x", "a=x"), api.ErrArg},
		{writes("a=x", "c=x", "b=x"), api.ErrArg},
		{writes("a=x", "b=x", "a\xff=x"), api.ErrArg},
		{writes("a\x00=x", "a=x"), api.ErrArg},
		{writes("\x80=x", "\x7f=x"), api.ErrArg},
		{[]api.Write{has(key, nil), has(key, nil)}, api.ErrArg},
		// Gone, and Data
		{[]api.Write{goneWith("a", []byte("x"))}, api.ErrArg},
		{[]api.Write{goneWith("a", data)}, api.ErrArg},
		{[]api.Write{a, goneWith("b", []byte{0})}, api.ErrArg},
		// of one write, ErrLong is named first
		{[]api.Write{has("", more)}, api.ErrLong},
		{[]api.Write{goneWith("a", more)}, api.ErrLong},
		{[]api.Write{z, has(long, nil)}, api.ErrLong},
		{[]api.Write{a, has("a", more)}, api.ErrLong},
		{[]api.Write{goneWith(long, []byte("x"))}, api.ErrLong},
		// of several, the first one
		{[]api.Write{a, a, has("b", more)}, api.ErrArg},
		{[]api.Write{has("", nil), has(long, nil)}, api.ErrArg},
		{[]api.Write{goneWith("a", []byte("x")), has("b", more)}, api.ErrArg},
		{[]api.Write{has("a", more), has("a", nil)}, api.ErrLong},
		{[]api.Write{has(long, nil), goneWith("z", []byte("x"))}, api.ErrLong},
	} {
		isRefused(t, x.l, x.err)
	}
}

// isRefused tells whether Check answers so, and whether Commit does, and then changes nothing.
func isRefused(t *testing.T, l []api.Write, err api.Errno) {
	t.Helper()
	for range 2 { // R5
		if got := store.Check(l); got != err {
			t.Errorf("Check(%.200v) = %d, want %d", l, got, err)
		}
	}
	s, m := made(t, wide), model{lim: wide}
	m, _, _ = m.commit(writes("a=1"), 0)
	written(t, s, "a=1")
	at, got := s.Commit(l, 0)
	if got != err || err != api.OK && at != 0 {
		t.Errorf("Commit(%.200v) = %d, %d, want %d", l, at, got, err)
	}
	if err != api.OK {
		isLike(t, s, m, []string{"a", "b", "z"}, []uint64{0, 1, 2})
	}
}

// P8.3, P8.4: Check's error is told ahead of a full store's, and nothing is collected.
func TestCheckIsFirst(t *testing.T) {
	s := made(t, sizes(1, 2, 9, 2))
	written(t, s, "a=x")
	written(t, s, "a=y")
	if at, err := s.Commit(writes("b=x", "a=y"), last); at != 0 || err != api.ErrArg {
		t.Errorf("Commit = %d, %d", at, err)
	}
	if at, err := s.Commit([]api.Write{{Key: "a", Data: make([]byte, api.MaxData+1)}}, last); at != 0 || err != api.ErrLong {
		t.Errorf("Commit = %d, %d", at, err)
	}
	if len(s.Chain("a")) != 2 {
		t.Error("something was collected")
	}
}

// P8.4: a commit of what the store just has room for, and of what it has none for.
func TestCommitFull(t *testing.T) {
	ahead := []string{"a=xx", "b=y", "a=z", "b", "c=", "d=ww", "d"} // one by one: 4 keys, 7 versions, 10 bytes; by 4, of a z alone is left, of b nothing
	const n, v, b = 4, 7, 10
	for _, x := range []struct {
		lim api.Limits
		low uint64
		l   string
		err api.Errno
		n   api.Sizes
	}{
		// all is within its limit, to the last one
		{sizes(n+1, v+1, b+3, 9), last, "e=12", api.OK, api.Sizes{Keys: 5, Versions: 8, Bytes: 13}},
		{sizes(n, v+1, b+2, 9), last, "a=12", api.OK, api.Sizes{Keys: 4, Versions: 8, Bytes: 12}},
		{sizes(n, v+1, b, 9), last, "a", api.OK, api.Sizes{Keys: 4, Versions: 8, Bytes: 10}},
		{sizes(n, v+1, b, 9), last, "a=", api.OK, api.Sizes{Keys: 4, Versions: 8, Bytes: 10}},
		{sizes(n, v, b, 9), last, "b", api.OK, api.Sizes{Keys: 4, Versions: 7, Bytes: 10}},
		{sizes(n, v, b, 9), last, "q", api.OK, api.Sizes{Keys: 4, Versions: 7, Bytes: 10}},
		{sizes(n, v+3, b+5, 9), last, "a=1 b=12 c=34 d q", api.OK, api.Sizes{Keys: 4, Versions: 10, Bytes: 15}},
		// one is not, and nothing may go
		{sizes(n, v+1, b+3, 9), 0, "e=12", api.ErrFull, api.Sizes{Keys: 4, Versions: 7, Bytes: 10}},
		{sizes(n+1, v, b+3, 9), 0, "e=12", api.ErrFull, api.Sizes{Keys: 4, Versions: 7, Bytes: 10}},
		{sizes(n+1, v+1, b+2, 9), 0, "e=12", api.ErrFull, api.Sizes{Keys: 4, Versions: 7, Bytes: 10}},
		{sizes(n, v, b+2, 9), 2, "a=12", api.ErrFull, api.Sizes{Keys: 4, Versions: 7, Bytes: 10}},
		{sizes(n, v+1, b+1, 9), 2, "a=12", api.ErrFull, api.Sizes{Keys: 4, Versions: 7, Bytes: 10}},
		{sizes(n, v, b, 9), 2, "a", api.ErrFull, api.Sizes{Keys: 4, Versions: 7, Bytes: 10}},
		{sizes(n, v+2, b+5, 9), 0, "a=1 b=12 c=34 d q", api.ErrFull, api.Sizes{Keys: 4, Versions: 7, Bytes: 10}},
		{sizes(n, v+3, b+4, 9), 0, "a=1 b=12 c=34 d q", api.ErrFull, api.Sizes{Keys: 4, Versions: 7, Bytes: 10}},
		// what goes makes room
		{sizes(n, v, b, 9), 3, "a=12", api.OK, api.Sizes{Keys: 4, Versions: 7, Bytes: 10}},
		{sizes(n, v, b, 9), 3, "a", api.OK, api.Sizes{Keys: 4, Versions: 7, Bytes: 8}},
		{sizes(n, v, b, 9), 4, "e=123", api.OK, api.Sizes{Keys: 4, Versions: 5, Bytes: 10}},
		{sizes(n, v, b, 9), last, "e=1 f=1", api.OK, api.Sizes{Keys: 4, Versions: 4, Bytes: 7}},
		// it does not make enough, but has gone
		{sizes(n, v, b, 9), 3, "e=1", api.ErrFull, api.Sizes{Keys: 4, Versions: 6, Bytes: 8}},
		{sizes(n, v, b, 9), 4, "e=1234", api.ErrFull, api.Sizes{Keys: 3, Versions: 4, Bytes: 6}},
		{sizes(n, v, b, 9), last, "e=1 f=1 g=1", api.ErrFull, api.Sizes{Keys: 2, Versions: 2, Bytes: 3}},
		// a key that has gone is a new one
		{sizes(n, v, b, 9), 4, "b=1 e=", api.ErrFull, api.Sizes{Keys: 3, Versions: 4, Bytes: 6}},
		{sizes(n, v, b, 9), 4, "b=123", api.OK, api.Sizes{Keys: 4, Versions: 5, Bytes: 10}},
		{sizes(n, v, b, 9), 4, "b=1234", api.ErrFull, api.Sizes{Keys: 3, Versions: 4, Bytes: 6}},
		{sizes(n, v, b, 9), 4, "b e=1", api.OK, api.Sizes{Keys: 4, Versions: 5, Bytes: 8}},
	} {
		lim := x.lim
		s, m := made(t, lim), model{lim: lim}
		for _, w := range ahead {
			written(t, s, w)
			m = m.with(writes(w))
		}
		if s.Count() != (api.Sizes{Keys: n, Versions: v, Bytes: b}) {
			t.Fatalf("there are %v", s.Count())
		}
		m, want, code := m.commit(writes(strings.Fields(x.l)...), x.low)
		at, err := s.Commit(writes(strings.Fields(x.l)...), x.low)
		if err != x.err || code != x.err || at != want || s.Count() != x.n {
			t.Errorf("of %v, Commit(%q, %d) = %d, %d, leaves %v, want %d, %d, %v", lim, x.l, x.low, at, err, s.Count(), want, x.err, x.n)
		}
		isLike(t, s, m, []string{"a", "b", "c", "d", "e", "f"}, []uint64{0, 1, 2, 3, 4, 5, 6, 7, 8, last})
	}
}

// P8.4: of no writes the time, whatever it is, and nothing goes.
func TestCommitOfNothing(t *testing.T) {
	s := made(t, sizes(1, 2, 9, 2))
	for now := range uint64(3) {
		for _, l := range [][]api.Write{nil, {}} {
			if at, err := s.Commit(l, last); at != now || err != api.OK {
				t.Errorf("at %d: %d, %d", now, at, err)
			}
		}
		if len(s.Chain("a")) != int(now) {
			t.Errorf("at %d: %v", now, s.Chain("a"))
		}
		if now < 2 {
			written(t, s, "a=x")
		}
	}
}

// P8.4, R8
func TestCommitAtLast(t *testing.T) {
	for _, end := range []uint64{1, 2, 7} {
		s := made(t, sizes(2, 9, 99, end))
		m := model{lim: sizes(2, 9, 99, end)}
		for range end {
			m = m.with(writes("a=x"))
			written(t, s, "a=x")
		}
		for _, l := range [][]string{{"a=x"}, {"a"}, {"q"}, {"b=y"}} {
			if at, err := s.Commit(writes(l...), last); at != 0 || err != api.ErrFull { // nor is anything collected
				t.Errorf("behind %d: %d, %d", end, at, err)
			}
			isLike(t, s, m, []string{"a", "b", "q"}, []uint64{0, 1, 2, 3, 6, 7, last})
		}
	}
}

// P8.4: what is Gone already goes no further, but time does.
func TestCommitOfGone(t *testing.T) {
	s := made(t, sizes(1, 3, 9, 9))
	written(t, s, "a", "b", "c")
	if s.Now() != 1 || s.Count() != (api.Sizes{}) || len(s.Keys()) != 0 {
		t.Errorf("%d, %v, %q", s.Now(), s.Count(), s.Keys())
	}
	written(t, s, "b=x")
	written(t, s, "a", "b")
	written(t, s, "b", "c")
	if !chain.Same(s.Chain("b"), []api.Version{{At: 2, Data: []byte("x")}, {At: 3, Gone: true}}) || s.Latest("a") != 0 || s.Now() != 4 {
		t.Errorf("%v", s.Chain("b"))
	}
	written(t, s, "a", "b=", "c") // a key that went comes back
	if s.Count() != (api.Sizes{Keys: 1, Versions: 3, Bytes: 2}) || asked(s, "b", 5) != "+" {
		t.Errorf("%v", s.Count())
	}
}

// P8.4: the greatest keys and data, and as many bytes as there may be.
func TestCommitOfTheGreatest(t *testing.T) {
	s := made(t, wide)
	key := func(i int) string {
		return strings.Repeat("k", api.MaxKey-1) + string(rune('0'+i%64))
	}
	data := make([]byte, api.MaxData-api.MaxKey)
	var l []api.Write
	for i := range 64 {
		l = append(l, api.Write{Key: key(i), Data: data})
	}
	if at, err := s.Commit(l, 0); at != 1 || err != api.OK {
		t.Fatal(at, err)
	}
	data = make([]byte, api.MaxData)
	for i := range 64 * 3 {
		if at, err := s.Commit([]api.Write{{Key: key(i), Data: data}}, 0); at != uint64(i+2) || err != api.OK {
			t.Fatal(i, at, err)
		}
	}
	full := api.Sizes{Keys: 64, Versions: 256, Bytes: api.MaxRoom}
	if s.Count() != full {
		t.Fatalf("there are %v", s.Count())
	}
	if at, err := s.Commit(writes(key(0)+"=x"), 0); at != 0 || err != api.ErrFull || s.Count() != full {
		t.Errorf("%d, %d, %v", at, err, s.Count())
	}
	if at, err := s.Commit(writes(key(0), key(1)+"="), 0); at != 194 || err != api.OK {
		t.Errorf("%d, %d", at, err)
	}
}

// P8.5: the chapter's example among them.
func TestCollect(t *testing.T) {
	for _, x := range []struct {
		l    string // commits, one by one
		low  uint64
		n    int
		keys string
		left api.Sizes
	}{
		{"", 0, 0, "", api.Sizes{}},
		{"", last, 0, "", api.Sizes{}},
		{"a=x a", 0, 0, "a", api.Sizes{Keys: 1, Versions: 2, Bytes: 2}},
		{"a=x a", 1, 0, "a", api.Sizes{Keys: 1, Versions: 2, Bytes: 2}},
		{"a=x a", 2, 2, "", api.Sizes{}},
		{"a=x a", last, 2, "", api.Sizes{}},
		{"a=x", last, 0, "a", api.Sizes{Keys: 1, Versions: 1, Bytes: 2}},
		{"a=x a=yy", 1, 0, "a", api.Sizes{Keys: 1, Versions: 2, Bytes: 4}},
		{"a=x a=yy", 2, 1, "a", api.Sizes{Keys: 1, Versions: 1, Bytes: 3}},
		{"a=x a=yy", 3, 1, "a", api.Sizes{Keys: 1, Versions: 1, Bytes: 3}},
		{"a=x a a=yy", 1, 0, "a", api.Sizes{Keys: 1, Versions: 3, Bytes: 4}},
		{"a=x a a=yy", 2, 2, "a", api.Sizes{Keys: 1, Versions: 1, Bytes: 3}},
		{"a=x a a=yy", 3, 2, "a", api.Sizes{Keys: 1, Versions: 1, Bytes: 3}},
		{"a=x b=y c=z a b", 3, 0, "a b c", api.Sizes{Keys: 3, Versions: 5, Bytes: 6}},
		{"a=x b=y c=z a b", 4, 2, "b c", api.Sizes{Keys: 2, Versions: 3, Bytes: 4}},
		{"a=x b=y c=z a b", 5, 4, "c", api.Sizes{Keys: 1, Versions: 1, Bytes: 2}},
		{"a=x b=y c=z c a", 5, 4, "b", api.Sizes{Keys: 1, Versions: 1, Bytes: 2}},
		{"a=x b=y a b", 9, 4, "", api.Sizes{}},
	} {
		s, m := made(t, wide), model{lim: wide}
		for _, w := range strings.Fields(x.l) {
			written(t, s, w)
			m = m.with(writes(w))
		}
		m, _ = m.collect(x.low)
		now := s.Now()
		if n := s.Collect(x.low); n != x.n || strings.Join(s.Keys(), " ") != x.keys || s.Count() != x.left || s.Now() != now {
			t.Errorf("of %q, Collect(%d) = %d, leaves %q, %v", x.l, x.low, n, s.Keys(), s.Count())
		}
		isLike(t, s, m, []string{"a", "b", "c"}, []uint64{0, 1, 2, 3, 4, 5, last})
		if n := s.Collect(x.low); n != 0 { // all has gone already
			t.Errorf("of %q, another Collect(%d) = %d", x.l, x.low, n)
		}
		if x.low > 0 && s.Collect(x.low-1) != 0 {
			t.Errorf("of %q, a Collect ahead of %d drops more", x.l, x.low)
		}
		isLike(t, s, m, []string{"a", "b", "c"}, []uint64{0, 1, 2, 3, 4, 5, last})
	}
}
