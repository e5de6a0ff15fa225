package txn

import (
	"slices"

	"conductor/api"
	"conductor/span"
	"conductor/ssi"
)

// Commit has a transaction write, and end. It ends with an error, too, and then has written nothing.
func (b *Base) Commit(id int) (uint64, api.Errno) {
	t, err := b.find(id)
	if err != api.OK {
		return 0, err
	}
	at, err := b.commit(id, t)
	b.end(id)
	return at, err
}

// Abort has a transaction end that has written nothing.
func (b *Base) Abort(id int) api.Errno {
	_, err := b.find(id)
	if err == api.OK {
		b.end(id)
	}
	return err
}

// commit commits a transaction while it is live still, so that nothing goes that it reads.
func (b *Base) commit(id int, t *transaction) (uint64, api.Errno) {
	writes := t.rising()
	if b.clash(t, writes) {
		return 0, api.ErrClash
	}
	writes = b.reread(t, writes)
	r := api.Record{Began: t.began, Reads: t.marks, Writes: span.Fit(points(writes), b.lim.Marks)}
	out, err := ssi.Judge(b.records, r)
	if err != api.OK {
		return 0, err
	}
	at, err := b.store.Commit(writes, b.Low())
	if err != api.OK {
		return 0, err
	}
	b.events++
	r.First, r.Last, r.Out = max(at, 1), max(at, 1), out
	b.records = append(b.records, r)
	b.history = append(b.history, api.Done{Id: id, Began: r.Began, At: at, Start: t.start, End: b.events, Reads: r.Reads, Writes: r.Writes})
	return at, api.OK
}

// clash tells whether another one wrote one of these keys since the transaction began.
func (b *Base) clash(t *transaction, l []api.Write) bool {
	return slices.ContainsFunc(l, func(w api.Write) bool { return b.store.Latest(w.Key) > t.began })
}

// reread gives the writes without those that write nothing: where a key that has nothing goes, the transaction just knows that it has nothing, as if it had read it.
func (b *Base) reread(t *transaction, l []api.Write) []api.Write {
	return slices.DeleteFunc(l, func(w api.Write) bool {
		if !w.Gone {
			return false
		}
		_, is := b.store.Read(w.Key, t.began)
		if !is {
			t.mark(span.Point(w.Key), b.lim.Marks)
		}
		return !is
	})
}

// points gives the stretches of what is written.
func points(l []api.Write) []api.Span {
	var out []api.Span
	for _, w := range l {
		out = append(out, span.Point(w.Key))
	}
	return out
}

// end has a transaction be live no more, and forgets what is beside nobody who is live, or will be.
func (b *Base) end(id int) {
	delete(b.live, id)
	low := b.Low()
	if len(b.records) > 0 && b.records[0].Last <= low { // else none is: all would be copied for nothing
		b.records = ssi.Forget(b.records, low)
	}
	if len(b.records) > b.lim.Records {
		b.records = ssi.Fit(b.records, b.lim.Records, b.lim.Marks)
	}
}
