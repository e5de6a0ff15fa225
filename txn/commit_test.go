package txn_test

import (
	"math"
	"strconv"
	"testing"

	"conductor/api"
	"conductor/span"
	"conductor/ssi"
)

// isKnown tells whether a base has these records.
func isKnown(t *testing.T, of string, got, want []api.Record) {
	t.Helper()
	if !ssi.Same(got, want) {
		t.Errorf("%q leaves the records %+v, want %+v", of, got, want)
	}
}

// isTold tells whether a base has this history.
func isTold(t *testing.T, of string, got, want []api.Done) {
	t.Helper()
	same := len(got) == len(want)
	for i := range got {
		same = same && got[i].Id == want[i].Id && got[i].Began == want[i].Began && got[i].At == want[i].At &&
			got[i].Start == want[i].Start && got[i].End == want[i].End &&
			isSame(got[i].Reads, want[i].Reads) && isSame(got[i].Writes, want[i].Writes)
	}
	if !same {
		t.Errorf("%q leaves the history %+v, want %+v", of, got, want)
	}
}

// done is one that committed, with its number, as of when and at which time, and by which events.
func done(id int, began, when uint64, start, end int, reads, writes string) api.Done {
	return api.Done{Id: id, Began: began, At: when, Start: start, End: end, Reads: at(reads), Writes: at(writes)}
}

// known is the record of one commit.
func known(when, began, out uint64, reads, writes string) api.Record {
	return api.Record{First: when, Last: when, Began: began, Out: out, Reads: at(reads), Writes: at(writes)}
}

// P11.4: what is told of who committed, and how events count.
func TestCommitted(t *testing.T) {
	for _, x := range []struct {
		ops, answers string
		history      []api.Done
	}{
		{"+ 1!", "1 @0", []api.Done{done(1, 0, 0, 1, 2, "", "")}},
		{"+ 1?a 1=b,x 1!", "1 none ok @1", []api.Done{done(1, 0, 1, 1, 2, "a", "b")}},
		{"+ 1=b,x 1=a,x 1=b,y 1?c 1!", "1 ok ok ok none @1", []api.Done{done(1, 0, 1, 1, 2, "c", "ab")}},
		{"+ 1=a,x 1! + 2?a 2! + 3=a,y 3!", "1 ok @1 2 +x @1 3 ok @2", []api.Done{
			done(1, 0, 1, 1, 2, "", "a"), done(2, 1, 1, 3, 4, "a", ""), done(3, 1, 2, 5, 6, "", "a")}},
		// in the order in which they committed
		{"+ + + 3=c,x 2=b,x 1=a,x 3! 1! 2!", "1 2 3 ok ok ok @1 @2 @3", []api.Done{
			done(3, 0, 1, 3, 4, "", "c"), done(1, 0, 2, 1, 5, "", "a"), done(2, 0, 3, 2, 6, "", "b")}},
		// who ends otherwise began, but has no other event; what can't begin has none
		{"+ 1~ + 2=a,x 2!", "1 ok 2 ok @1", []api.Done{done(2, 0, 1, 2, 3, "", "a")}},
		{"+ + 1=a,x 2=a,y 1! 2! + 3!", "1 2 ok ok @1 E100 3 @1", []api.Done{done(1, 0, 1, 1, 3, "", "a"), done(3, 1, 1, 4, 5, "", "")}},
		{"+ 1! 1! 2! 1~ * + 2!", "1 @0 E4 E4 E4 0 2 @0", []api.Done{done(1, 0, 0, 1, 2, "", ""), done(2, 0, 0, 3, 4, "", "")}},
		{"+ 1!" + " + 2~ + 3~ + 4!", "1 @0 2 ok 3 ok 4 @0", []api.Done{done(1, 0, 0, 1, 2, "", ""), done(4, 0, 0, 5, 6, "", "")}},
	} {
		b := runs(t, wide, x.ops, x.answers)
		isTold(t, x.ops, b.History(), x.history)
	}
	l := but(func(l *api.Limits) { l.Live = 1 })
	b := runs(t, l, "+ + + 1! + 2!", "1 E5 E5 @0 2 @0")
	isTold(t, "of one live", b.History(), []api.Done{done(1, 0, 0, 1, 2, "", ""), done(2, 0, 0, 3, 4, "", "")})
}

// P11.4: the chapter's examples among them.
func TestConflicts(t *testing.T) {
	for _, x := range []struct{ ops, answers string }{
		{"+ + 1?a 1=b,x 2?a 2=b,y 1! 2! + 3?b", "1 2 none ok none ok @1 E100 3 +x"},
		{"+ + 1?a 1=b,x 2?b 2=a,y 1! 2! + 3:,", "1 2 none ok none ok @1 E101 3 (b=x)"},
		// the same key
		{"+ + 1=a,x 2=a,x 2! 1!", "1 2 ok ok @1 E100"},
		{"+ + 1=a,x 1=b,x 2=b,x 2=c,x 2! 1! + 3:,", "1 2 ok ok ok ok @1 E100 3 (b=x c=x)"},
		{"+ 1=a,x 1! + + 2-a 3=a,y 2! 3!", "1 ok @1 2 3 ok ok @2 E100"},
		{"+ 1=a,x 1! + + 2-a 3-a 2! 3!", "1 ok @1 2 3 ok ok @2 E100"},
		{"+ 1=a,x 1! + + 2-a 3=a,y 3! 2!", "1 ok @1 2 3 ok ok @2 E100"},
		{"+ 1=a,x 1! + 2=a,y 2! + 3=a,z 3!", "1 ok @1 2 ok @2 3 ok @3"}, // one behind the other
		{"+ + + 1=a,x 1! 2=b,x 2! 3=c,x 3!", "1 2 3 ok @1 ok @2 ok @3"}, // other keys
		{"+ + 1=a,x 1! + 3=a,y 3! 2=a,z 2!", "1 2 ok @1 3 ok @2 ok E100"},
		{"+ + 1=a,x 1! 2=a,y 2~ + 3=a,z 3!", "1 2 ok @1 ok ok 3 ok @2"},
		{"+ + 1=a,x 1~ 2=a,y 2!", "1 2 ok ok ok @1"},
		// a key that is gone already: who lets it go writes nothing, but has read it
		{"+ + 1-a 2-a 1! 2!", "1 2 ok ok @0 @0"},
		{"+ + 1-a 2=a,x 1! 2!", "1 2 ok ok @0 @1"},
		{"+ + 1-a 2=a,x 2! 1!", "1 2 ok ok @1 E100"}, // another one wrote it first, whatever this one would have
		{"+ + 1-a 1=b,x 2?b 2=a,x 1! 2!", "1 2 ok ok none ok @1 E101"},
		{"+ + 1=a,x 1-a 2=a,x 1! 2!", "1 2 ok ok ok @0 @1"},
		{"+ + 1=a,x 1-a 2=a,x 2! 1!", "1 2 ok ok ok @1 E100"},
		{"+ 1=a,x 1! + 2-a 2! + 3-a 3! + 4=a,y 4!", "1 ok @1 2 ok @2 3 ok @2 4 ok @3"},
		{"+ 1=a,x 1! + 2-a 2! * + 3-a 3! + 4=a,y 4!", "1 ok @1 2 ok @2 2 3 ok @2 4 ok @3"},
		// ErrClash is told ahead of ErrDanger
		{"+ + 1?a 1=b,x 1=c,x 2?b 2=a,y 2=c,y 1! 2!", "1 2 none ok ok none ok ok @1 E100"},
		// who just reads ahead, or is just read ahead of, is in no danger
		{"+ + 1?a 1=b,x 2=a,y 2! 1!", "1 2 none ok ok @1 @2"},
		{"+ + 1?a 1=b,x 2=a,y 1! 2!", "1 2 none ok ok @1 @2"},
		{"+ + 1:, 2?a 1=b,x 2! 1!", "1 2 () none ok @0 @1"},
		// stretches
		{"+ + 1:a,c 1=x,1 2:x, 2=b,1 1! 2!", "1 2 () ok () ok @1 E101"},
		{"+ + 1:a,b 1=x,1 2:x, 2=b,1 1! 2!", "1 2 () ok () ok @1 @2"},
		{"+ + 1:a,b\x00 1=x,1 2:x, 2=b,1 1! 2!", "1 2 () ok () ok @1 E101"},
		// three in a row, the last one of which committed first
		{"+ + + 1?a 1=z,1 2?b 2=a,1 3=b,1 3! 1! 2!", "1 2 3 none ok none ok ok @1 @2 E101"},
		{"+ + + 1?a 1=z,1 2?b 2=a,1 3=b,1 3! 2! 1!", "1 2 3 none ok none ok ok @1 @2 E101"},
		{"+ + + 1?a 1=z,1 2?b 2=a,1 3=b,1 2! 3! 1!", "1 2 3 none ok none ok ok @1 @2 @3"},
		// who only reads stands where it began
		{"+ + 3=q,1 2?b 1=b,1 1! + 3?a 3?b 2=a,1 3! 2!", "1 2 E4 none ok @1 3 none +1 ok @1 E101"},
		{"+ + + 3?a 3?b 2?b 1=b,1 1! 2=a,1 3! 2!", "1 2 3 none none none ok @1 ok @1 @2"},
		// what it wrote itself it does not read
		{"+ + 1=a,x 1?a 1=b,x 2?b 2=c,y 1! 2!", "1 2 ok +x ok none ok @1 @2"},
		{"+ + 1=a,x 1?a 1=b,x 2?b 2=c,y 2! 1!", "1 2 ok +x ok none ok @1 @2"},
	} {
		runs(t, wide, x.ops, x.answers)
	}
}

// P11.4: records, with their times, and what Judge told of them.
func TestRecords(t *testing.T) {
	for _, x := range []struct {
		ops, answers string
		records      []api.Record
	}{
		// nobody is beside who began last: nothing is known any more, but of the time 0, as First and Last are at least 1
		{"+ 1=a,x 1!", "1 ok @1", nil},
		{"+ 1?a 1!", "1 none @0", []api.Record{known(1, 0, 0, "a", "")}},
		{"+ 1?a 1! + 2?b 2!", "1 none @0 2 none @0", []api.Record{known(1, 0, 0, "a", ""), known(1, 0, 0, "b", "")}},
		{"+ 1?a 1! + 2=b,x 2!", "1 none @0 2 ok @1", nil},
		// beside one that is live
		{"+ + 2?b 2=a,x 2!", "1 2 none ok @1", []api.Record{known(1, 0, 0, "b", "a")}},
		{"+ + 2?a 2=a,x 2! + 3?a 3=a,y 3!", "1 2 none ok @1 3 +x ok @2", []api.Record{known(1, 0, 0, "a", "a"), known(2, 1, 0, "a", "a")}},
		{"+ + + 2=a,x 2! 3?a 3=b,x 3!", "1 2 3 ok @1 none ok @2", []api.Record{known(1, 0, 0, "", "a"), known(2, 0, 1, "a", "b")}},
		{"+ + + + 2=a,x 3=b,x 2! 3! 4?b 4?a 4!", "1 2 3 4 ok ok @1 @2 none none @2", []api.Record{
			known(1, 0, 0, "", "a"), known(2, 0, 0, "", "b"), known(2, 0, 1, "ab", "")}},
		// a key that has nothing goes: it is read
		{"+ + 2-a 2=b,x 2-c 2!", "1 2 ok ok ok @1", []api.Record{known(1, 0, 0, "ac", "b")}},
		{"+ 1=a,x 1! + + 3-a 3-b 3!", "1 ok @1 2 3 ok ok @2", []api.Record{known(2, 1, 0, "b", "a")}},
		// as far as the first one of the live ones began
		{"+ + 2=a,x 2! + 3=a,y 3! 1~", "1 2 ok @1 3 ok @2 ok", nil},
		{"+ + 2=a,x 2! + 3=a,y 3! 1!", "1 2 ok @1 3 ok @2 @2", nil},
		{"+ + 2=a,x 2! + + 3=a,y 3! 1~", "1 2 ok @1 3 4 ok @2 ok", []api.Record{known(2, 1, 0, "", "a")}},
		{"+ + 2=a,x 2! + + 3=a,y 3! 1?b 1!", "1 2 ok @1 3 4 ok @2 none @2", []api.Record{known(2, 1, 0, "", "a"), known(2, 0, 0, "b", "")}},
		{"+ + 2=a,x 2! + + 3=a,y 3! 1=a,z 1!", "1 2 ok @1 3 4 ok @2 ok E100", []api.Record{known(2, 1, 0, "", "a")}}, // whatever comes out
		{"+ + + 2=a,x 2! + 4=b,x 4! + 3~ 1~", "1 2 3 ok @1 4 ok @2 5 ok ok", nil},
		{"+ + + 2=a,x 2! + 4=b,x 4! + 1~ 3~ 5~", "1 2 3 ok @1 4 ok @2 5 ok ok ok", nil},
		// just where one ends is something forgotten
		{"+ + 2=a,x 2! + * 3?a", "1 2 ok @1 3 0 +x", []api.Record{known(1, 0, 0, "", "a")}},
	} {
		b := runs(t, wide, x.ops, x.answers)
		isKnown(t, x.ops, b.Records(), x.records)
	}
}

// P11.4, P11.10: so many marks, and so many records, at most.
func TestFit(t *testing.T) {
	ac, ae := to("a", "c\x00"), to("a", "e\x00")
	for _, x := range []struct {
		marks, records int
		ops, answers   string
		known          []api.Record
	}{
		{2, 9, "+ + 2?a 2?c 2=a,x 2=c,x 2!", "1 2 none none ok ok @1", []api.Record{known(1, 0, 0, "ac", "ac")}},
		{2, 9, "+ + 2?a 2?c 2?e 2=a,x 2=c,x 2=e,x 2!", "1 2 none none none ok ok ok @1", []api.Record{
			{First: 1, Last: 1, Reads: []api.Span{ac, span.Point("e")}, Writes: []api.Span{ac, span.Point("e")}}}},
		{1, 9, "+ + 2?a 2?c 2?e 2=a,x 2=c,x 2=e,x 2!", "1 2 none none none ok ok ok @1", []api.Record{
			{First: 1, Last: 1, Reads: []api.Span{ae}, Writes: []api.Span{ae}}}},
		// marks are made fewer as they come: what comes behind may lie in them
		{2, 9, "+ + 2?e 2?a 2?c 2?b 2!", "1 2 none none none none @0", []api.Record{
			{First: 1, Last: 1, Reads: []api.Span{ac, span.Point("e")}}}},
		{2, 9, "+ + 2?a 2?c 2?e 2:b,d 2!", "1 2 none none none () @0", []api.Record{
			{First: 1, Last: 1, Reads: []api.Span{to("a", "d"), span.Point("e")}}}},
		{2, 9, "+ + 2:b,d 2?a 2?c 2?e 2!", "1 2 () none none none @0", []api.Record{
			{First: 1, Last: 1, Reads: []api.Span{to("a", "d"), span.Point("e")}}}},
		{3, 9, "+ + 2?a 2?c 2?e 2?g 2:b,f 2!", "1 2 none none none none () @0", []api.Record{
			{First: 1, Last: 1, Reads: []api.Span{to("a", "f"), span.Point("g")}}}},
		// so are those that come as a key goes that has nothing
		{1, 9, "+ + 2-e 2?c 2-a 2=c,x 2!", "1 2 ok none ok ok @1", []api.Record{
			{First: 1, Last: 1, Reads: []api.Span{ae}, Writes: at("c")}}},
		// records are joined, the first two first
		{9, 2, "+ + 2=a,x 2! + 3=b,x 3!", "1 2 ok @1 3 ok @2", []api.Record{known(1, 0, 0, "", "a"), known(2, 1, 0, "", "b")}},
		{9, 2, "+ + 2=a,x 2! + 3?a 3=b,x 3! + 4=c,x 4!", "1 2 ok @1 3 +x ok @2 4 ok @3", []api.Record{
			{First: 1, Last: 2, Began: 1, Reads: at("a"), Writes: at("ab")}, known(3, 2, 0, "", "c")}},
		{9, 1, "+ + 2=a,x 2! + 3?a 3=b,x 3! + 4=c,x 4!", "1 2 ok @1 3 +x ok @2 4 ok @3", []api.Record{
			{First: 1, Last: 3, Began: 2, Reads: at("a"), Writes: at("abc")}}},
		{1, 1, "+ + 2=a,x 2! + 3?a 3=e,x 3! + 4=c,x 4!", "1 2 ok @1 3 +x ok @2 4 ok @3", []api.Record{
			{First: 1, Last: 3, Began: 2, Reads: at("a"), Writes: []api.Span{ae}}}},
		// what is forgotten is so ahead of that
		{9, 1, "+ + 2=a,x 2! + + 1~ 3=b,x 3!", "1 2 ok @1 3 4 ok ok @2", []api.Record{known(2, 1, 0, "", "b")}},
		{9, 1, "+ + 2=a,x 2! + + 1=c,x 1!", "1 2 ok @1 3 4 ok @2", []api.Record{known(2, 0, 0, "", "c")}},
		{9, 1, "+ 1?a 1! + 2=b,x + 2!", "1 none @0 2 ok 3 @1", []api.Record{{First: 1, Last: 1, Reads: at("a"), Writes: at("b")}}},
	} {
		b := runs(t, few(x.marks, x.records), x.ops, x.answers)
		isKnown(t, x.ops, b.Records(), x.known)
	}
}

// P11.4: fewer marks, and fewer records, may find danger where there is none, as they cover more.
func TestFitRefuses(t *testing.T) {
	const skew = "+ + 1?a 1?c 1=x,1 2?x 2=b,1 1! 2!"
	runs(t, few(2, 9), skew, "1 2 none none ok none ok @1 @2")
	runs(t, few(1, 9), skew, "1 2 none none ok none ok @1 E101")
	const writes = "+ + 1?b 1=x,1 1=z,1 2?y 2=b,1 1! 2!"
	runs(t, few(2, 9), writes, "1 2 none ok ok none ok @1 @2")
	runs(t, few(1, 9), writes, "1 2 none ok ok none ok @1 E101")
	const joined = "+ + 2=a,1 2! + 3?b 3=c,1 3! 1?a 1=b,1 1!"
	runs(t, few(9, 2), joined, "1 2 ok @1 3 none ok @2 none ok E101")
	const apart = "+ + 2?b 2=c,1 2! + 3=a,1 3! 1?a 1=b,1 1!"
	runs(t, few(9, 2), apart, "1 2 none ok @1 3 ok @2 none ok @3")
	runs(t, few(9, 1), apart, "1 2 none ok @1 3 ok @2 none ok E101")
}

// P11.4: a full store: who finds no room has ended, and has written nothing. What the one itself reads, as of when it began, does not go to make room for it.
func TestFull(t *testing.T) {
	room := func(keys, versions, bytes int, end uint64) api.Limits {
		return but(func(l *api.Limits) { l.Keys, l.Versions, l.Bytes, l.Last = keys, versions, bytes, end })
	}
	for _, x := range []struct {
		lim          api.Limits
		ops, answers string
		all          string
		sizes        api.Sizes
	}{
		{room(1, 9, 9, 9), "+ 1=a,x 1=b,x 1! + 2=b,x 2!", "1 ok ok E5 2 ok @1", "b=x", api.Sizes{Keys: 1, Versions: 1, Bytes: 2}},
		{room(9, 9, 3, 9), "+ 1=a,123 1! + 2=a,12 2!", "1 ok E5 2 ok @1", "a=12", api.Sizes{Keys: 1, Versions: 1, Bytes: 3}},
		{room(9, 2, 9, 9), "+ 1=a,x 1! + 2=a,y 2! + 3=a,z 3!", "1 ok @1 2 ok @2 3 ok @3", "a=z", api.Sizes{Keys: 1, Versions: 2, Bytes: 3}},
		// as of 1 the first version is read still: by another one, or by the one that commits
		{room(9, 2, 9, 9), "+ 1=a,x 1! + + 2=a,y 2! + 4=b,z 4!", "1 ok @1 2 3 ok @2 4 ok E5", "a=y", api.Sizes{Keys: 1, Versions: 2, Bytes: 3}},
		{room(9, 2, 9, 9), "+ 1=a,x 1! + + 2=a,y 2! 3=b,z 3! + 4=b,w 4!", "1 ok @1 2 3 ok @2 ok E5 4 ok @3", "a=y b=w", api.Sizes{Keys: 2, Versions: 2, Bytes: 4}},
		{room(9, 2, 9, 9), "+ 1=a,x 1! + + 2=a,y 2! 3~ + 4=b,z 4!", "1 ok @1 2 3 ok @2 ok 4 ok @3", "a=y b=z", api.Sizes{Keys: 2, Versions: 2, Bytes: 4}},
		// the last time: who writes nothing commits still
		{room(9, 9, 9, 1), "+ 1=a,x 1! + 2=a,y 2! + 3?a 3-b 3! + 4:, 4!", "1 ok @1 2 ok E5 3 +x ok @1 4 (a=x) @1", "a=x", api.Sizes{Keys: 1, Versions: 1, Bytes: 2}},
		// conflicts are told ahead of it
		{room(9, 9, 9, 1), "+ + 1=a,x 1! 2=a,y 2!", "1 2 ok @1 ok E100", "a=x", api.Sizes{Keys: 1, Versions: 1, Bytes: 2}},
		{room(9, 9, 9, 1), "+ + 1?b 1=a,x 1! 2?a 2=b,y 2!", "1 2 none ok @1 none ok E101", "a=x", api.Sizes{Keys: 1, Versions: 1, Bytes: 2}},
		{room(9, 9, 9, 1), "+ + 1?b 1=a,x 1! 2=b,y 2!", "1 2 none ok @1 ok E5", "a=x", api.Sizes{Keys: 1, Versions: 1, Bytes: 2}},
		// what goes that has nothing takes no room
		{room(1, 1, 2, 9), "+ 1=a,x 1-b 1-c 1!", "1 ok ok ok @1", "a=x", api.Sizes{Keys: 1, Versions: 1, Bytes: 2}},
	} {
		b := runs(t, x.lim, x.ops, x.answers)
		if pairs(b.All()) != x.all || b.Count() != x.sizes {
			t.Errorf("%q leaves %q, %v", x.ops, pairs(b.All()), b.Count())
		}
	}
}

// P11.4: who ends has ended for all that is asked of it, and for none of the others.
func TestEnded(t *testing.T) {
	for _, end := range []string{"2!", "2~"} {
		for _, none := range []string{"2?a", "2:a,b", "2:b,a", "2=a,x", "2-a", "2=,x", "2!", "2~", "0!", "-1~", "4!", "4~", "-9223372036854775808!", "9223372036854775807~"} {
			_, got := ran(t, wide, ops("+ + + 2=a,x "+end+" "+none+" 1?a 3?a"))
			told := "@1"
			if end == "2~" {
				told = "ok"
			}
			if want := "1 2 3 ok " + told + " E4 none none"; got != want {
				t.Errorf("%s behind %s: %q, want %q", none, end, got, want)
			}
		}
	}
	b := made(t, wide)
	for _, id := range []int{math.MinInt, -1, 0, 1, 2, math.MaxInt} {
		if n, err := b.Commit(id); n != 0 || err != api.ErrNone {
			t.Errorf("Commit(%d) = %d, %d", id, n, err)
		}
		if err := b.Abort(id); err != api.ErrNone {
			t.Errorf("Abort(%d) = %d", id, err)
		}
	}
	if state(b) != state(modelled(wide)) {
		t.Errorf("there is %s", state(b))
	}
}

// P11.4: very many that commit, one behind the other, beside one that is live, so that all stay known; and a very long one.
func TestMany(t *testing.T) {
	const many = 4000
	b := made(t, wide)
	first, _ := b.Begin()
	for i := range many {
		id, _ := b.Begin()
		b.Read(id, strconv.Itoa(i-1))
		b.Write(id, api.Write{Key: strconv.Itoa(i), Data: []byte("x")})
		if n, err := b.Commit(id); n != uint64(i+1) || err != api.OK {
			t.Fatal(i, n, err)
		}
	}
	if len(b.Records()) != many || len(b.History()) != many || len(b.All()) != many {
		t.Errorf("%d records, %d in the history, %d keys", len(b.Records()), len(b.History()), len(b.All()))
	}
	long, _ := b.Begin()
	for i := range many {
		if l, is, err := b.Read(long, strconv.Itoa(i)); string(l) != "x" || !is || err != api.OK {
			t.Fatal(i, l, is, err)
		}
		b.Write(long, api.Write{Key: "n" + strconv.Itoa(i)})
	}
	if l, err := b.Scan(long, "", ""); len(l) != 2*many || err != api.OK {
		t.Errorf("%d keys, %d", len(l), err)
	}
	if n, err := b.Commit(long); n != many+1 || err != api.OK {
		t.Errorf("%d, %d", n, err)
	}
	if l, err := b.Scan(first, "", ""); len(l) != 0 || err != api.OK {
		t.Errorf("%d keys, %d", len(l), err)
	}
	if n, err := b.Commit(first); n != many+1 || err != api.OK || len(b.Records()) != 0 {
		t.Errorf("%d, %d, and %d records", n, err, len(b.Records()))
	}
}
