package txn

import (
	"maps"
	"slices"

	"conductor/api"
)

// Records gives what is known still of those that committed, to judge others by.
func (b *Base) Records() []api.Record {
	if !b.made() {
		return nil
	}
	l := slices.Clone(b.records)
	for i, r := range l {
		l[i].Reads, l[i].Writes = slices.Clone(r.Reads), slices.Clone(r.Writes)
	}
	return l
}

// History gives all that committed, one behind the other.
func (b *Base) History() []api.Done {
	if !b.made() {
		return nil
	}
	l := slices.Clone(b.history)
	for i, d := range l {
		l[i].Reads, l[i].Writes = slices.Clone(d.Reads), slices.Clone(d.Writes)
	}
	return l
}

// Clone makes another base of the same.
func (b *Base) Clone() *Base {
	if !b.made() {
		return nil
	}
	c := *b
	c.store, c.records, c.history = b.store.Clone(), b.Records(), b.History()
	c.live = make(map[int]*transaction, len(b.live))
	for id, t := range b.live {
		c.live[id] = t.clone()
	}
	return &c
}

// clone makes another transaction of the same. What is written is kept as it came, and what it read is made anew with each mark, so both may share that.
func (t *transaction) clone() *transaction {
	c := *t
	c.writes = maps.Clone(t.writes)
	return &c
}
