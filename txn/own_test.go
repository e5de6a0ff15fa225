package txn_test

import (
	"fmt"
	"slices"
	"strconv"
	"testing"

	"conductor/api"
	"conductor/span"
	"conductor/txn"
)

// spoilBytes changes bytes, and what room is behind them.
func spoilBytes(b []byte) {
	b = b[:cap(b)]
	for i := range b {
		b[i] = '!'
	}
}

func spoilPairs(l []api.Pair) {
	l = l[:cap(l)]
	for i := range l {
		spoilBytes(l[i].Data)
		l[i] = api.Pair{Key: "spoiled", Data: []byte("spoiled")}
	}
}

func spoilSpans(l []api.Span) {
	l = l[:cap(l)]
	for i := range l {
		l[i] = to("spoiled", "span")
	}
}

// spoilAll asks of everything, and changes what is answered.
func spoilAll(b *txn.Base) {
	records := b.Records()
	records = records[:cap(records)]
	for i := range records {
		spoilSpans(records[i].Reads)
		spoilSpans(records[i].Writes)
		records[i] = api.Record{First: 77, Last: 77}
	}
	history := b.History()
	history = history[:cap(history)]
	for i := range history {
		spoilSpans(history[i].Reads)
		spoilSpans(history[i].Writes)
		history[i] = api.Done{Id: 77}
	}
	live := b.Live()
	live = live[:cap(live)]
	for i := range live {
		live[i] = 77
	}
	spoilPairs(b.All())
}

// spoilReads has each live one read everything, and changes what is answered.
func spoilReads(b *txn.Base, letters string) {
	for _, id := range b.Live() {
		for i := range len(letters) {
			data, _, _ := b.Read(id, letters[i:i+1])
			spoilBytes(data)
		}
		l, _ := b.Scan(id, "", "")
		spoilPairs(l)
	}
}

// R4: what is answered shares nothing with what the base keeps.
func TestAnswersAreOwn(t *testing.T) {
	for seed := range 60 {
		c := chance(seed)
		lim := c.limits()
		b, m := made(t, lim), modelled(lim)
		for range 60 {
			o := c.op(m.Live(), "abcd")
			if got, want := o.done(b), o.done(m); got != want {
				t.Fatalf("%q is told %s, want %s", o, got, want)
			}
			spoilAll(b)
			if c.of(4) == 0 {
				spoilReads(b, "abcd")
				for _, id := range m.Live() { // who is asked reads
					for _, key := range []string{"a", "b", "c", "d"} {
						m.Read(id, key)
					}
					m.Scan(id, "", "")
				}
			}
			if state(b) != state(m) {
				t.Fatalf("behind %q, there is\n%s, want\n%s", o, state(b), state(m))
			}
		}
	}
}

// R4: what is handed in is not kept, nor changed; and what is answered of it is not the same memory.
func TestArgumentsAreNotKept(t *testing.T) {
	b := made(t, wide)
	id, _ := b.Begin()
	data := append(make([]byte, 0, 9), "abc"...)
	b.Write(id, api.Write{Key: "k", Data: data})
	b.Write(id, api.Write{Key: "l", Data: data[:2]})
	if string(data[:4]) != "abc\x00" {
		t.Errorf("%q", data[:4])
	}
	spoilBytes(data)
	for range 2 {
		for key, want := range map[string]string{"k": "abc", "l": "ab"} {
			l, is, err := b.Read(id, key)
			if string(l) != want || !is || err != api.OK {
				t.Errorf("%q: %q, %v, %d", key, l, is, err)
			}
			spoilBytes(l)
		}
		l, err := b.Scan(id, "", "")
		if pairs(l) != "k=abc l=ab" || err != api.OK {
			t.Errorf("%q, %d", l, err)
		}
		_ = append(l[0].Data, "!!!"...)
		spoilBytes(l[0].Data)
		if string(l[1].Data) != "ab" {
			t.Errorf("%q", l)
		}
		spoilPairs(l)
	}
	b.Commit(id)
	if pairs(b.All()) != "k=abc l=ab" {
		t.Errorf("%q", b.All())
	}
	l := b.All()
	spoilBytes(l[0].Data)
	if string(l[1].Data) != "ab" || pairs(b.All()) != "k=abc l=ab" {
		t.Errorf("%q", l)
	}
}

// R4: no two lists of what is told of those that committed share memory, nor are those of the records those of the history.
func TestToldShareNothing(t *testing.T) {
	b := made(t, wide)
	b.Begin()
	for i := range 3 {
		id, _ := b.Begin()
		b.Read(id, "r"+strconv.Itoa(i))
		b.Read(id, "s")
		b.Write(id, api.Write{Key: "w" + strconv.Itoa(i)})
		b.Write(id, api.Write{Key: "x" + strconv.Itoa(i)})
		b.Commit(id)
	}
	want := fmt.Sprint(b.Records(), b.History())
	records, history := b.Records(), b.History()
	for i := range 3 {
		for _, l := range []*[]api.Span{&records[i].Reads, &records[i].Writes, &history[i].Reads, &history[i].Writes} {
			was := slices.Clone(*l)
			spoilSpans(*l)
			_ = append(*l, span.Point("behind"))
			*l = was
		}
		if fmt.Sprint(records, history) != want || fmt.Sprint(b.Records(), b.History()) != want {
			t.Fatalf("%v, %v, want %s", records, history, want)
		}
	}
}

// P11.1, R4: a clone is told the same as the first one, and has nothing in common with it.
func TestClone(t *testing.T) {
	for seed := range 80 {
		c := chance(seed)
		lim := c.limits()
		b, m := made(t, lim), modelled(lim)
		ahead := c.ops(lim, 30, "abcd")
		for _, o := range ahead {
			o.done(b)
			o.done(m)
		}
		clone, was := b.Clone(), state(b)
		if state(clone) != was {
			t.Fatalf("the clone has\n%s, want\n%s", state(clone), was)
		}
		other := modelled(lim) // the clone goes another way
		for _, o := range ahead {
			o.done(other)
		}
		for range 30 {
			o := c.op(m.Live(), "abcd")
			if got, want := o.done(b), o.done(m); got != want || state(b) != state(m) {
				t.Fatalf("%q is told %s, want %s; there is\n%s, want\n%s", o, got, want, state(b), state(m))
			}
			o = c.op(other.Live(), "abcd")
			if got, want := o.done(clone), o.done(other); got != want || state(clone) != state(other) {
				t.Fatalf("%q of a clone is told %s, want %s; there is\n%s, want\n%s", o, got, want, state(clone), state(other))
			}
			spoilAll(clone)
			spoilReads(b.Clone(), "abcd") // what a clone reads the first one does not
		}
		if state(b) != state(m) || state(clone) != state(other) {
			t.Fatalf("there is\n%s, want\n%s, and\n%s, want\n%s", state(b), state(m), state(clone), state(other))
		}
	}
}

// R5: the same calls in the same order are told the same.
func TestSameAgain(t *testing.T) {
	for seed := range 40 {
		c := chance(seed)
		lim := c.limits()
		lim.Live = 5
		l := c.ops(lim, 100, "abcdefgh")
		b, first := ran(t, lim, l)
		other, again := ran(t, lim, l)
		if first != again || state(b) != state(other) {
			t.Fatalf("%q is told %q, and %q", l, first, again)
		}
	}
}

// FuzzTxn: whatever ops come.
func FuzzTxn(f *testing.F) {
	f.Add([]byte{1, 2, 3, 9, 1, 0, 17, 2, 0, 34, 5, 3, 0})
	f.Add([]byte{0, 1, 2, 3, 200, 1, 7, 100, 2, 9, 0, 0, 0, 255, 3, 3, 77, 8, 129, 11, 66, 60, 31})
	f.Fuzz(func(t *testing.T, b []byte) {
		if len(b) < 8 || len(b) > 150 {
			return
		}
		lim := api.Limits{Keys: 1 + int(b[0]%9), Versions: 1 + int(b[1]%20), Bytes: 1 + int(b[2]%60), Marks: 1 + int(b[3]%6), Records: 1 + int(b[4]%6), Live: 1 + int(b[5]%6), Last: 1 + uint64(b[6])}
		w, m := watched(t, lim), modelled(lim)
		for _, x := range b[7:] {
			c := chance(x)
			o := c.op(m.Live(), "abcd")
			if got, want := w.does(o), o.done(m); got != want || state(w.b) != state(m) {
				t.Fatalf("%q is told %s, want %s; there is\n%s, want\n%s", o, got, want, state(w.b), state(m))
			}
		}
		w.ends()
	})
}
