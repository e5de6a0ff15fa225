package order_test

import (
	"slices"
	"testing"

	"conductor/api"
	"conductor/order"
)

// roomySpans gives a list with something behind it.
func roomySpans(l []api.Span) []api.Span {
	all := append(slices.Clone(l), to("behind", "it"), to("", ""))
	return all[:len(l)]
}

// roomy gives the same, each list with something behind it.
func roomy(l []api.Done) []api.Done {
	all := append(slices.Clone(l), api.Done{Id: 77}, api.Done{Id: 78})
	for i, d := range l {
		all[i].Reads, all[i].Writes = roomySpans(d.Reads), roomySpans(d.Writes)
	}
	return all[:len(l)]
}

// whole gives a list in memory of its own, with what stands behind each list.
func whole(l []api.Done) []api.Done {
	l = slices.Clone(l[:cap(l)])
	for i, d := range l {
		l[i].Reads, l[i].Writes = slices.Clone(d.Reads[:cap(d.Reads)]), slices.Clone(d.Writes[:cap(d.Writes)])
	}
	return l
}

func isSame(a, b []api.Done) bool {
	return slices.EqualFunc(a, b, func(d, other api.Done) bool {
		same := d.Id == other.Id && d.Began == other.Began && d.At == other.At && d.Start == other.Start && d.End == other.End
		return same && slices.Equal(d.Reads, other.Reads) && slices.Equal(d.Writes, other.Writes)
	})
}

// isOwn asks of a list, and changes what was answered, and then what was handed in.
func isOwn(t *testing.T, l []api.Done, o []int) {
	t.Helper()
	given, handed := roomy(l), append(slices.Clone(o), 77, 78)[:len(o)]
	all, allHanded := whole(given), slices.Clone(handed[:cap(handed)])
	right := order.Right(given, handed)
	for _, d := range given {
		order.Edge(d, d)
	}
	told, is := order.Order(given)
	was := slices.Clone(told)
	for i := range told[:cap(told)] {
		told[:cap(told)][i] = -5
	}
	if !isSame(whole(given), all) || !slices.Equal(handed[:cap(handed)], allHanded) {
		t.Fatalf("%+v and %v have changed to %+v and %v", all, allHanded, given, handed)
	}
	told, again := order.Order(given)
	if again != is || !slices.Equal(told, was) || order.Right(given, handed) != right {
		t.Fatalf("%+v is told %v, %t, and then %v, %t", given, was, is, told, again)
	}
	for i := range given {
		given[i] = api.Done{Start: len(given) - i, End: -i}
	}
	for i := range handed {
		handed[i] = 0
	}
	if !slices.Equal(told, was) {
		t.Fatalf("what was told of %+v changes with it: %v, and was %v", all, told, was)
	}
}

// R4, R5
func TestAnswersAreOwn(t *testing.T) {
	for seed := range 5000 {
		c := chance(seed)
		for _, l := range [][]api.Done{c.anyOf(5), c.beside(8, 9), c.history(9, 4)} {
			o, _ := order.Order(l)
			isOwn(t, l, o)
			isOwn(t, l, places(c.of(3), c.of(3)))
		}
	}
}

// FuzzOrder: whatever comes.
func FuzzOrder(f *testing.F) {
	f.Add(uint64(1), 3, "\x00\x01\x02")
	f.Add(uint64(77), 9, "")
	f.Add(uint64(1<<40), 14, "\x02\x01\x00\xff")
	f.Fuzz(func(t *testing.T, seed uint64, most int, text string) {
		c := chance(seed)
		most = max(0, min(most, 14))
		var o []int
		for _, b := range []byte(text) {
			o = append(o, int(int8(b)))
		}
		for _, l := range [][]api.Done{c.anyOf(most), c.beside(most, 8), c.history(most, 5), c.shuffled(c.history(most, 3))} {
			if is := isLaid(t, l); is == inRing(l) {
				t.Fatalf("%+v is laid: %t", l, is)
			}
			if order.Right(l, o) != isRight(l, o) {
				t.Fatalf("Right(%+v, %v) is not %t", l, o, isRight(l, o))
			}
			isOwn(t, l, o)
		}
	})
}
