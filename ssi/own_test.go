package ssi_test

import (
	"slices"
	"testing"

	"conductor/api"
	"conductor/ssi"
)

// roomySpans gives a list with something behind it.
func roomySpans(l []api.Span) []api.Span {
	all := append(slices.Clone(l), to("behind", "it"), to("behind", "that"))
	return all[:len(l)]
}

// roomy gives the same records, each list with something behind it.
func roomy(l []api.Record) []api.Record {
	all := append(slices.Clone(l), api.Record{First: 77}, api.Record{First: 78})
	for i, r := range l {
		all[i].Reads, all[i].Writes = roomySpans(r.Reads), roomySpans(r.Writes)
	}
	return all[:len(l)]
}

// whole gives records in memory of their own, with what stands behind each list.
func whole(l []api.Record) []api.Record {
	l = slices.Clone(l[:cap(l)])
	for i, r := range l {
		l[i].Reads, l[i].Writes = slices.Clone(r.Reads[:cap(r.Reads)]), slices.Clone(r.Writes[:cap(r.Writes)])
	}
	return l
}

func kept(l []api.Record) []api.Record {
	l = slices.Clone(l)
	for i, r := range l {
		l[i].Reads, l[i].Writes = slices.Clone(r.Reads), slices.Clone(r.Writes)
	}
	return l
}

// spoil changes records, their lists, and what room is behind each.
func spoil(l []api.Record) {
	l = l[:cap(l)]
	for i := range l {
		for _, s := range [][]api.Span{l[i].Reads, l[i].Writes} {
			s = s[:cap(s)]
			for j := range s {
				s[j] = to("spoiled", "span")
			}
		}
		l[i].First, l[i].Last, l[i].Began, l[i].Out = 99, 99, 99, 99
	}
}

// isOwn tells whether what is answered shares nothing with what was handed in, nor one list of it with another one.
func isOwn(t *testing.T, l []api.Record, one api.Record, n, marks int) {
	t.Helper()
	given, who := roomy(l), roomy(records(one))
	all, allWho := whole(given), whole(who)
	ask := func() [][]api.Record {
		ssi.Right(who[0])
		ssi.Judge(given, who[0])
		ssi.Same(given, given)
		told := [][]api.Record{ssi.Forget(given, one.Began), ssi.Forget(given, 0), ssi.Fit(given, n, marks), ssi.Fit(given, len(given), marks)}
		for _, r := range given {
			told = append(told, records(ssi.Join(r, who[0], marks)), records(ssi.Join(r, r, 1000)))
		}
		return told
	}
	told := ask()
	var was [][]api.Record
	for _, answer := range told {
		was = append(was, kept(answer))
	}
	for i, answer := range told {
		for j := range answer { // one record's list after the other: none changes another one
			r := answer[j]
			spoil(records(api.Record{Reads: r.Reads}))
			if !slices.Equal(r.Writes, was[i][j].Writes) || !isSame(answer[j+1:], was[i][j+1:]) {
				t.Fatalf("two lists of %+v share memory", was[i])
			}
			spoil(records(api.Record{Writes: r.Writes}))
			if !isSame(answer[j+1:], was[i][j+1:]) {
				t.Fatalf("two records of %+v share memory", was[i])
			}
		}
		spoil(answer)
	}
	if !isSame(whole(given), all) || !isSame(whole(who), allWho) {
		t.Fatalf("%+v and %+v have changed to %+v and %+v", all, allWho, given, who)
	}
	told = ask()
	spoil(given)
	spoil(who)
	for i := range told {
		if !isSame(told[i], was[i]) {
			t.Fatalf("what was told of %+v changes with it, or is told anew: %+v, and was %+v", all, told[i], was[i])
		}
	}
}

// R4, R5
func TestAnswersAreOwn(t *testing.T) {
	for seed := range 2000 {
		c := chance(seed)
		isOwn(t, c.history(6, "abcdefgh"), c.one(5, "abcdefgh"), c.of(5), 1+c.of(4))
		isOwn(t, c.anyOf(5), c.any(), c.of(7)-1, c.of(5)-1)
	}
}

// R4: even where what was handed in shares memory.
func TestAnswersShareNothing(t *testing.T) {
	l := at("abc")
	r := api.Record{First: 1, Last: 1, Reads: l, Writes: l}
	isOwn(t, records(r, r, r), r, 3, 9)
	for _, told := range [][]api.Record{ssi.Fit(records(r, r, r), 2, 9), ssi.Forget(records(r, r), 0), records(ssi.Join(r, r, 9))} {
		told[0].Reads[0].Lo = "spoiled"
		if told[0].Writes[0].Lo != "a" || told[len(told)-1].Writes[0].Lo != "a" || l[0].Lo != "a" {
			t.Errorf("%+v", told)
		}
	}
}

// FuzzSsi: whatever records come.
func FuzzSsi(f *testing.F) {
	f.Add(uint64(1), uint64(2), 1, 1)
	f.Add(uint64(77), uint64(12345), 3, 2)
	f.Add(uint64(1<<40), uint64(0), -1, 0)
	f.Fuzz(func(t *testing.T, seed, other uint64, n, marks int) {
		c, d := chance(seed), chance(other)
		for _, l := range [][]api.Record{c.anyOf(8), c.history(8, "abcdef"), d.coarse(c.history(8, "abcdef"))} {
			for _, one := range records(d.any(), d.one(6, "abcdef")) {
				isJudged(t, l, one)
				isOwn(t, l, one, n, marks)
				isRecords(t, "Fit", ssi.Fit(l, n, marks), fitted(l, n, marks), l, n, marks)
				left := ssi.Forget(l, one.Began)
				isJudged(t, left, one)
				if want, code := judged(l, one); len(left) == 0 && (want != 0 || code != api.OK) {
					t.Fatalf("%+v is judged %d, %d alone", one, want, code)
				}
			}
		}
	})
}
