package txn

import (
	"bytes"
	"maps"
	"slices"
	"strings"

	"conductor/api"
	"conductor/span"
	"conductor/store"
)

// transaction is one that is live: the time as of which it reads, the event by which it began, what it read, and what it writes, by keys.
type transaction struct {
	began  uint64
	start  int
	marks  []api.Span
	writes map[string]api.Write
}

// Read gives what a key has for a transaction.
func (b *Base) Read(id int, key string) ([]byte, bool, api.Errno) {
	t, err := b.find(id)
	if err != api.OK {
		return nil, false, err
	}
	if w, is := t.writes[key]; is {
		return bytes.Clone(w.Data), !w.Gone, api.OK // whatever others write, it reads this: no mark
	}
	t.mark(span.Point(key), b.lim.Marks)
	data, is := b.store.Read(key, t.began)
	return data, is, api.OK
}

// Scan gives what the keys from lo on up to ahead of hi have for a transaction.
func (b *Base) Scan(id int, lo, hi string) ([]api.Pair, api.Errno) {
	t, err := b.find(id)
	if err != api.OK {
		return nil, err
	}
	s := api.Span{Lo: lo, Hi: hi}
	if !span.Right(s) {
		return nil, api.ErrArg
	}
	t.mark(s, b.lim.Marks)
	return t.over(b.store.Scan(lo, hi, t.began), s), api.OK
}

// Write has a transaction write, in the place of what it wrote of this key ahead.
func (b *Base) Write(id int, w api.Write) api.Errno {
	t, err := b.find(id)
	if err != api.OK {
		return err
	}
	if err := store.Check([]api.Write{w}); err != api.OK {
		return err
	}
	w.Data = bytes.Clone(w.Data)
	t.writes[w.Key] = w
	return api.OK
}

// mark adds to what the transaction read.
func (t *transaction) mark(s api.Span, marks int) {
	t.marks = span.Fit(span.Add(t.marks, s), marks)
}

// over gives what there is in a stretch, with what the transaction writes there in its place.
func (t *transaction) over(there []api.Pair, s api.Span) []api.Pair {
	l := slices.DeleteFunc(there, func(p api.Pair) bool {
		_, is := t.writes[p.Key]
		return is
	})
	for key, w := range t.writes {
		if !w.Gone && span.Has(s, key) {
			l = append(l, api.Pair{Key: key, Data: bytes.Clone(w.Data)})
		}
	}
	slices.SortFunc(l, func(p, other api.Pair) int { return strings.Compare(p.Key, other.Key) })
	return l
}

// rising gives what the transaction writes, by rising keys.
func (t *transaction) rising() []api.Write {
	var l []api.Write
	for _, key := range slices.Sorted(maps.Keys(t.writes)) {
		l = append(l, t.writes[key])
	}
	return l
}
