package store_test

import (
	"testing"

	"conductor/api"
	"conductor/store"
)

// spoilBytes changes bytes, and what room is behind them.
func spoilBytes(b []byte) {
	b = b[:cap(b)]
	for i := range b {
		b[i] = '!'
	}
}

func spoilChain(l []api.Version) {
	l = l[:cap(l)]
	for i := range l {
		spoilBytes(l[i].Data)
		l[i] = api.Version{At: 77, Gone: true, Data: []byte("spoiled")}
	}
}

func spoilPairs(l []api.Pair) {
	l = l[:cap(l)]
	for i := range l {
		spoilBytes(l[i].Data)
		l[i] = api.Pair{Key: "spoiled", Data: []byte("spoiled")}
	}
}

func spoilKeys(l []string) {
	l = l[:cap(l)]
	for i := range l {
		l[i] = "spoiled"
	}
}

// spoilAll asks of everything, and changes what is answered.
func spoilAll(s *store.Store, keys []string) {
	spoilKeys(s.Keys())
	for _, key := range keys {
		spoilChain(s.Chain(key))
		for at := range s.Now() + 2 {
			b, _ := s.Read(key, at)
			spoilBytes(b)
			spoilPairs(s.Scan("", "", at))
			spoilPairs(s.Scan(key, "", at))
		}
	}
}

// R4: what is answered shares nothing with what the store keeps, nor what is handed in.
func TestAnswersAreOwn(t *testing.T) {
	lim := sizes(5, 12, 40, 60)
	s, m := made(t, lim), model{lim: lim}
	c := chance(5)
	for i := range 50 {
		l := c.some(manyKeys)
		all := append(make([]api.Write, 0, len(l)+3), l...)
		o := op{all, uint64(i / 2)}
		if i%7 == 6 {
			o.l = nil
		}
		m = o.done(t, s, m)
		isLike(t, s, m, manyKeys, []uint64{0, m.now / 2, m.now})
		for i := range all { // as it was, and the store's no more
			if all[i].Key != l[i].Key || all[i].Gone != l[i].Gone || string(all[i].Data) != string(l[i].Data) {
				t.Fatalf("what was handed in is %v, and was %v", all[i], l[i])
			}
			spoilBytes(all[i].Data)
		}
		if room := all[:cap(all)]; room[len(all)].Key != "" || room[len(all)+2].Key != "" {
			t.Fatal("something stands behind what was handed in")
		}
		for i := range all {
			all[i] = api.Write{Key: "spoiled"}
		}
		spoilAll(s, manyKeys)
		isLike(t, s, m, manyKeys, []uint64{0, m.now / 2, m.now})
	}
}

// R4: the lists of one answer share nothing with one another, even where those that were handed in did.
func TestAnswersShareNothing(t *testing.T) {
	data := []byte("abc")
	s := made(t, wide)
	s.Commit([]api.Write{{Key: "a", Data: data}, {Key: "b", Data: data[:2]}, {Key: "c", Data: data}}, 0)
	s.Commit([]api.Write{{Key: "a", Data: data}}, 0)
	l := s.Scan("", "", 1)
	_ = append(l[0].Data, "!!!"...)
	spoilBytes(l[0].Data)
	if string(l[1].Data) != "ab" || string(l[2].Data) != "abc" {
		t.Errorf("%v", l)
	}
	vs := s.Chain("a")
	_ = append(vs[0].Data, "!!!"...)
	spoilBytes(vs[0].Data)
	if string(vs[1].Data) != "abc" {
		t.Errorf("%v", vs)
	}
	if asked(s, "a", 1) != "+abc" || asked(s, "b", 1) != "+ab" || string(data) != "abc" {
		t.Error("the store has changed")
	}
}

// R4: a clone has nothing in common with the first one.
func TestClonesAreOwn(t *testing.T) {
	lim := sizes(9, 40, 99, 60)
	s, m := made(t, lim), model{lim: lim}
	c := chance(9)
	one, other := s.Clone(), m
	for i := range 20 {
		m = op{c.some(manyKeys), uint64(i / 3)}.done(t, s, m)
		isLike(t, one, other, manyKeys, []uint64{0, m.now / 2, m.now}) // the clone ahead has nothing of this
		one, other = s.Clone(), m
		for range 1 + c.of(6) {
			other = op{c.some(manyKeys), uint64(i)}.done(t, one, other)
			spoilAll(one, manyKeys)
		}
		s.Clone().Collect(last)
		isLike(t, s, m, manyKeys, []uint64{0, m.now / 2, m.now})
	}
}

// FuzzStore: whatever ops come.
func FuzzStore(f *testing.F) {
	f.Add([]byte{1, 2, 3, 9, 1, 0, 17, 2, 0, 34, 5, 3, 0})
	f.Add([]byte{0, 1, 2, 3, 200, 1, 7, 100, 2, 9, 0, 0, 0, 255, 3, 3})
	f.Fuzz(func(t *testing.T, b []byte) {
		if len(b) < 4 || len(b) > 200 {
			return
		}
		lim := sizes(1+int(b[0]%9), 1+int(b[1]%20), 1+int(b[2]%60), 1+uint64(b[3]))
		s, m := made(t, lim), model{lim: lim}
		for b = b[4:]; len(b) >= 2; b = b[2:] {
			c := chance(b[0])
			o := op{c.some(manyKeys), uint64(b[1] % 64)}
			if b[0]%8 == 0 {
				o.l = nil
			}
			m = o.done(t, s, m)
			isWithin(t, s, lim)
			isLike(t, s, m, manyKeys, []uint64{0, m.now / 2, m.now, last})
			isScanned(t, s, manyKeys[b[0]%9], manyKeys[b[1]%9], m.now)
		}
	})
}
