package ssi_test

import (
	"math"
	"slices"
	"testing"

	"conductor/api"
	"conductor/span"
	"conductor/ssi"
)

const last = math.MaxUint64

func to(lo, hi string) api.Span {
	return api.Span{Lo: lo, Hi: hi}
}

func list(l ...api.Span) []api.Span {
	return l
}

// at gives the normal list of these keys, each of one letter.
func at(letters string) []api.Span {
	var l []api.Span
	for i := range len(letters) {
		l = span.Add(l, span.Point(letters[i:i+1]))
	}
	return l
}

// done is the record of one that committed at n, as of when it began, and read and wrote these letters.
func done(n, began uint64, reads, writes string) api.Record {
	return api.Record{First: n, Last: n, Began: began, Reads: at(reads), Writes: at(writes)}
}

// out is the same with another Out.
func out(n uint64, r api.Record) api.Record {
	r.Out = n
	return r
}

// over is the same from one time to another one.
func over(first, last uint64, r api.Record) api.Record {
	r.First, r.Last = first, last
	return r
}

// who is one that is judged.
func who(began uint64, reads, writes string) api.Record {
	return api.Record{Began: began, Reads: at(reads), Writes: at(writes)}
}

func records(l ...api.Record) []api.Record {
	return l
}

// The following are what the chapter says, in another way.

func isIn(l []api.Span, key string) bool {
	for _, s := range l {
		if s.Lo <= key && (len(s.Hi) == 0 || s.Hi > key) {
			return true
		}
	}
	return false
}

// meet asks each text at which a stretch begins: if some lie in both lists, such a one does.
func meet(a, b []api.Span) bool {
	for _, l := range [][]api.Span{a, b} {
		for _, s := range l {
			if isIn(a, s.Lo) && isIn(b, s.Lo) {
				return true
			}
		}
	}
	return false
}

func isBeside(r, t api.Record) bool {
	return r.Last > t.Began
}

// after are those of l that t reads ahead of.
func after(l []api.Record, t api.Record) []api.Record {
	return slices.DeleteFunc(slices.Clone(l), func(r api.Record) bool { return !isBeside(r, t) || !meet(t.Reads, r.Writes) })
}

// ahead are those of l that read ahead of t.
func ahead(l []api.Record, t api.Record) []api.Record {
	return slices.DeleteFunc(slices.Clone(l), func(r api.Record) bool { return !isBeside(r, t) || !meet(r.Reads, t.Writes) })
}

func inDanger(l []api.Record, t api.Record) bool {
	for _, a := range after(l, t) {
		if a.Out != 0 && (len(t.Writes) > 0 || a.Out <= t.Began) {
			return true
		}
		for _, b := range ahead(l, t) {
			if len(b.Writes) > 0 && a.First <= b.Last || len(b.Writes) == 0 && a.First <= b.Began {
				return true
			}
		}
	}
	return false
}

func judged(l []api.Record, t api.Record) (uint64, api.Errno) {
	if inDanger(l, t) {
		return 0, api.ErrDanger
	}
	var times []uint64
	for _, a := range after(l, t) {
		times = append(times, a.First)
	}
	if len(times) == 0 {
		return 0, api.OK
	}
	return slices.Min(times), api.OK
}

// fewer gives the normal list of what lies in l, with the first two joined till there are few enough.
func fewer(l []api.Span, marks int) []api.Span {
	l = span.Join(l, nil)
	for len(l) > marks && len(l) > 1 {
		l = append(list(to(l[0].Lo, l[1].Hi)), l[2:]...)
	}
	return l
}

func joined(a, b api.Record, marks int) api.Record {
	r := a
	if b.First < a.First {
		r.First = b.First
	}
	if b.Last > a.Last {
		r.Last = b.Last
	}
	if b.Began > a.Began {
		r.Began = b.Began
	}
	if a.Out == 0 || b.Out != 0 && b.Out < a.Out {
		r.Out = b.Out
	}
	r.Reads = fewer(slices.Concat(a.Reads, b.Reads), marks)
	r.Writes = fewer(slices.Concat(a.Writes, b.Writes), marks)
	return r
}

func fitted(l []api.Record, n, marks int) []api.Record {
	for len(l) > n && len(l) > 1 {
		l = append(records(joined(l[0], l[1], marks)), l[2:]...)
	}
	return l
}

func isSame(a, b []api.Record) bool {
	if len(a) != len(b) {
		return false
	}
	for i := range a {
		if a[i].First != b[i].First || a[i].Last != b[i].Last || a[i].Began != b[i].Began || a[i].Out != b[i].Out ||
			!slices.Equal(a[i].Reads, b[i].Reads) || !slices.Equal(a[i].Writes, b[i].Writes) {
			return false
		}
	}
	return true
}

// isRecords tells whether a call answered just what it must.
func isRecords(t *testing.T, what string, got, want []api.Record, of ...any) {
	t.Helper()
	if !isSame(got, want) || !ssi.Same(got, want) {
		t.Fatalf("%s of %+v = %+v, want %+v", what, of, got, want)
	}
}

// isJudged tells whether t is judged as it must, with nothing else beside ErrDanger.
func isJudged(t *testing.T, l []api.Record, who api.Record) {
	t.Helper()
	want, code := judged(l, who)
	if n, err := ssi.Judge(l, who); n != want || err != code {
		t.Fatalf("Judge(%+v, %+v) = %d, %d, want %d, %d", l, who, n, err, want, code)
	}
}

// chance gives numbers that are the same each time.
type chance uint64

func (c *chance) of(n int) int {
	*c = *c*6364136223846793005 + 1442695040888963407
	return int(uint64(*c>>33) % uint64(n))
}

// keys gives a normal list of some keys of these letters, and of some stretches between them, if there are many.
func (c *chance) keys(letters string) []api.Span {
	var l []api.Span
	for range c.of(3) {
		i := c.of(len(letters))
		s := span.Point(letters[i : i+1])
		if len(letters) > 3 && c.of(3) == 0 {
			s.Hi = letters[i:i+1] + letters[c.of(len(letters)):]
		}
		l = span.Add(l, s)
	}
	return l
}

// record gives the right record of one commit at n.
func (c *chance) record(n uint64, letters string) api.Record {
	r := api.Record{First: n, Last: n, Began: uint64(c.of(int(n) + 1)), Reads: c.keys(letters), Writes: c.keys(letters)}
	if c.of(4) == 0 {
		r.Out = 1 + uint64(c.of(int(n)+1))
	}
	return r
}

// history gives the right records of some commits, one behind the other.
func (c *chance) history(most int, letters string) []api.Record {
	var l []api.Record
	n := uint64(1)
	for range c.of(most + 1) {
		l = append(l, c.record(n, letters))
		n += uint64(c.of(2))
	}
	return l
}

// one gives one that is judged, that began at one of the first n times.
func (c *chance) one(n int, letters string) api.Record {
	return api.Record{Began: uint64(c.of(n)), Reads: c.keys(letters), Writes: c.keys(letters)}
}

// any gives a record, right or not.
func (c *chance) any() api.Record {
	times := []uint64{0, 1, 2, 3, 4, 5, last - 1, last}
	one := func() uint64 { return times[c.of(len(times))] }
	spans := func() []api.Span {
		var l []api.Span
		texts := []string{"", "\x00", "a", "a\x00", "b", "c", "\xff"}
		for range c.of(3) {
			l = append(l, to(texts[c.of(len(texts))], texts[c.of(len(texts))]))
		}
		return l
	}
	r := api.Record{First: one(), Last: one(), Began: one(), Reads: spans(), Writes: spans()}
	if c.of(3) == 0 {
		r.Out = one()
	}
	return r
}

func (c *chance) anyOf(most int) []api.Record {
	var l []api.Record
	for range c.of(most + 1) {
		l = append(l, c.any())
	}
	return l
}
