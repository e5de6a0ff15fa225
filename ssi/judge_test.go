package ssi_test

import (
	"testing"

	"conductor/api"
	"conductor/ssi"
)

// P10.2: the chapter's examples, and what is close to each edge.
func TestJudge(t *testing.T) {
	x := who(0, "a", "b")
	for _, c := range []struct {
		what string
		l    []api.Record
		t    api.Record
		n    uint64
		code api.Errno
	}{
		{"the first example", records(done(1, 0, "", "a"), done(2, 0, "b", "c")), x, 0, api.ErrDanger},
		{"the second example", records(done(1, 0, "b", "c"), done(2, 0, "", "a")), x, 2, api.OK},

		{"nobody", nil, x, 0, api.OK},
		{"nobody, and nothing", records(), api.Record{}, 0, api.OK},
		{"nothing in common", records(done(1, 0, "c", "d")), x, 0, api.OK},
		{"both read the same", records(done(1, 0, "a", "c")), x, 0, api.OK},
		{"both write the same", records(done(1, 0, "c", "b")), x, 0, api.OK},
		{"it reads nothing", records(done(1, 0, "b", "c"), done(2, 0, "b", "a")), who(0, "", "b"), 0, api.OK},
		{"it writes nothing", records(done(1, 0, "b", "a"), done(2, 0, "a", "a")), who(0, "a", ""), 1, api.OK},
		{"only read ahead of", records(done(1, 0, "", "a")), x, 1, api.OK},
		{"only reads ahead", records(done(1, 0, "b", "")), x, 0, api.OK},

		// the least First
		{"the first one", records(done(2, 0, "", "a"), done(3, 0, "", "a")), x, 2, api.OK},
		{"the last one", records(done(3, 0, "", "a"), done(2, 0, "", "a")), x, 2, api.OK},
		{"in the middle", records(done(5, 0, "", "a"), done(2, 0, "", "a"), done(4, 0, "", "a")), x, 2, api.OK},
		{"a lesser one that it does not read ahead of", records(done(1, 0, "", "d"), done(2, 0, "", "a")), x, 2, api.OK},
		{"a lesser one that reads ahead of it", records(done(1, 0, "b", "d"), done(2, 0, "", "a")), x, 2, api.OK},
		{"First, not Last", records(over(2, 9, done(9, 0, "", "a")), done(3, 0, "", "a")), x, 2, api.OK},
		{"the last time", records(done(last, 0, "", "a")), x, last, api.OK},
		{"a First of 0", records(done(5, 0, "", "a"), over(0, 5, done(5, 0, "", "a"))), x, 0, api.OK},
		{"a First of 0 ahead", records(over(0, 5, done(5, 0, "", "a")), done(5, 0, "", "a")), x, 0, api.OK},

		// beside it
		{"just beside it", records(done(4, 0, "", "a")), who(3, "a", "b"), 4, api.OK},
		{"just not", records(done(3, 0, "", "a")), who(3, "a", "b"), 0, api.OK},
		{"not beside it, with an Out", records(out(1, done(3, 0, "", "a"))), who(3, "a", "b"), 0, api.OK},
		{"by its Last", records(over(1, 4, done(4, 0, "", "a"))), who(3, "a", "b"), 1, api.OK},
		{"who reads ahead is not beside it", records(done(3, 3, "b", "c"), over(1, 4, done(4, 0, "", "a"))), who(3, "a", "b"), 1, api.OK},
		{"who reads ahead is just beside it", records(done(4, 3, "b", "c"), over(1, 4, done(4, 0, "", "a"))), who(3, "a", "b"), 0, api.ErrDanger},
		{"nobody is beside who began at the last time", records(done(last, last, "b", "a")), who(last, "a", "b"), 0, api.OK},

		// an Out
		{"it writes", records(out(1, done(2, 0, "", "a"))), x, 0, api.ErrDanger},
		{"it writes, and the Out is the last time", records(out(last, done(2, 0, "", "a"))), x, 0, api.ErrDanger},
		{"it writes what nobody reads", records(out(9, done(2, 0, "", "a"))), who(0, "a", "z"), 0, api.ErrDanger},
		{"it only reads", records(out(1, done(2, 0, "", "a"))), who(0, "a", ""), 2, api.OK},
		{"it only reads, from just ahead of the Out", records(out(4, done(5, 0, "", "a"))), who(3, "a", ""), 5, api.OK},
		{"it only reads, from the Out on", records(out(3, done(5, 0, "", "a"))), who(3, "a", ""), 0, api.ErrDanger},
		{"it only reads, from behind the Out on", records(out(2, done(5, 0, "", "a"))), who(3, "a", ""), 0, api.ErrDanger},
		{"it only reads as of 0", records(out(0, done(5, 0, "", "a"))), who(0, "a", ""), 5, api.OK},
		{"an Out of one that only reads ahead", records(out(1, done(2, 0, "b", "c"))), x, 0, api.OK},
		{"an Out of one that it has nothing with", records(out(1, done(2, 0, "", "c"))), x, 0, api.OK},
		{"an Out, behind many", records(done(1, 0, "", "a"), done(2, 0, "", "a"), out(1, done(3, 0, "", "a"))), x, 0, api.ErrDanger},
		{"an Out, ahead of many", records(out(1, done(1, 0, "", "a")), done(2, 0, "", "a"), done(3, 0, "", "a")), x, 0, api.ErrDanger},
		{"an Out that is above where it began, and another one", records(out(4, done(5, 0, "", "a")), out(3, done(5, 0, "", "a"))), who(3, "a", ""), 0, api.ErrDanger},

		// one that it reads ahead of, and one that reads ahead of it
		{"the same one", records(done(1, 0, "b", "a")), x, 0, api.ErrDanger},
		{"at the same time", records(done(2, 0, "", "a"), done(2, 0, "b", "c")), x, 0, api.ErrDanger},
		{"just later", records(done(3, 0, "", "a"), done(2, 0, "b", "c")), x, 3, api.OK},
		{"who reads ahead comes first in the list", records(done(2, 0, "b", "c"), done(1, 0, "", "a")), x, 0, api.ErrDanger},
		{"the least of those, with the greatest of these", records(done(4, 0, "", "a"), done(1, 0, "b", "c"), done(2, 0, "", "a"), done(3, 0, "b", "c")), x, 0, api.ErrDanger},
		{"none of those with none of these", records(done(4, 0, "", "a"), done(1, 0, "b", "c"), done(3, 0, "", "a"), done(2, 0, "b", "c")), x, 3, api.OK},
		{"First against Last", records(over(2, 5, done(5, 0, "", "a")), over(1, 2, done(2, 0, "b", "c"))), x, 0, api.ErrDanger},
		{"First just above Last", records(over(3, 5, done(5, 0, "", "a")), over(1, 2, done(2, 0, "b", "c"))), x, 3, api.OK},
		{"who reads ahead only reads", records(done(1, 0, "", "a"), done(2, 0, "b", "")), x, 1, api.OK},
		{"it began when the other one committed", records(done(1, 0, "", "a"), done(2, 1, "b", "")), x, 0, api.ErrDanger},
		{"it began behind that", records(done(1, 0, "", "a"), done(3, 2, "b", "")), x, 0, api.ErrDanger},
		{"who writes counts by its Last, not by where it began", records(done(2, 0, "", "a"), done(2, 0, "b", "c")), x, 0, api.ErrDanger},
		{"one that only reads, and one that writes, too early", records(done(3, 0, "", "a"), done(4, 2, "b", ""), done(2, 0, "b", "c")), x, 3, api.OK},
		{"the last times", records(done(last, 0, "", "a"), done(last, 0, "b", "c")), x, 0, api.ErrDanger},
		{"the last time, and one ahead of it", records(done(last, 0, "", "a"), done(last-1, 0, "b", "c")), x, last, api.OK},
		{"a First of 0, and nobody ahead", records(over(0, 1, done(1, 0, "", "a"))), x, 0, api.OK},
		{"a First of 0, and one that only reads as of 0", records(over(0, 1, done(1, 0, "", "a")), done(1, 0, "b", "")), x, 0, api.ErrDanger},
		{"nobody behind, and one ahead at the last time", records(done(last, last, "b", "c")), x, 0, api.OK},

		// just Began, Reads and Writes of t are looked at
		{"times of t", records(done(2, 0, "", "a"), done(1, 0, "b", "c")), api.Record{First: 1, Last: 1, Out: 1, Reads: at("a"), Writes: at("b")}, 2, api.OK},
		{"times of t that only reads", records(out(2, done(2, 0, "", "a"))), api.Record{First: 9, Last: 9, Out: 1, Began: 1, Reads: at("a")}, 2, api.OK},

		// stretches, and lists that are not normal
		{"a stretch that it read", records(done(1, 0, "", "m")), api.Record{Reads: list(to("a", "z"))}, 1, api.OK},
		{"all to the end", records(done(1, 0, "", "\xff")), api.Record{Reads: list(to("b", ""))}, 1, api.OK},
		{"up to ahead of what was written", records(done(1, 0, "", "z")), api.Record{Reads: list(to("a", "z"))}, 0, api.OK},
		{"in no order", records(done(1, 0, "", "ae")), api.Record{Reads: list(to("e", "f"), to("b", "c"))}, 1, api.OK},
		{"nothing lies in them", records(done(1, 0, "", "b")), api.Record{Reads: list(to("c", "a"), to("b", "b"))}, 0, api.OK},
	} {
		want, code := judged(c.l, c.t)
		if want != c.n || code != c.code {
			t.Errorf("%s: the tests have it as %d, %d and as %d, %d", c.what, c.n, c.code, want, code)
		}
		for range 2 { // R5
			if n, err := ssi.Judge(c.l, c.t); n != c.n || err != c.code {
				t.Errorf("%s: Judge = %d, %d, want %d, %d", c.what, n, err, c.n, c.code)
			}
		}
	}
}

// fewRecords gives all records of a few times, that read b or nothing, and wrote a, another one, or nothing.
func fewRecords() []api.Record {
	var l []api.Record
	for _, times := range [][2]uint64{{1, 1}, {1, 2}, {2, 2}, {1, 3}, {3, 3}} {
		for began := range uint64(3) {
			for n := range uint64(3) {
				for _, reads := range []string{"", "b"} {
					for _, writes := range []string{"", "a", "c"} {
						l = append(l, out(n, over(times[0], times[1], done(0, began, reads, writes))))
					}
				}
			}
		}
	}
	return l
}

// P10.2: all of one and of two such records.
func TestJudgeOfAllOfTwo(t *testing.T) {
	all := fewRecords()
	for began := range uint64(4) {
		for _, reads := range []string{"", "a"} {
			for _, writes := range []string{"", "b"} {
				one := who(began, reads, writes)
				isJudged(t, nil, one)
				for _, a := range all {
					isJudged(t, records(a), one)
					for _, b := range all {
						isJudged(t, records(a, b), one)
					}
				}
			}
		}
	}
}

// P10.2: longer lists, right or not, in any order.
func TestJudgeOfMany(t *testing.T) {
	danger, ok := 0, 0
	for seed := range 40000 {
		c := chance(seed)
		l, one := c.history(9, "abcdefgh"), c.one(6, "abcdefgh")
		isJudged(t, l, one)
		if n, err := ssi.Judge(l, one); err != api.OK {
			danger++
		} else if n > 0 {
			ok++
		}
		isJudged(t, c.anyOf(4), c.any())
	}
	if danger < 1000 || ok < 1000 {
		t.Errorf("%d are in danger, %d are not", danger, ok)
	}
}
