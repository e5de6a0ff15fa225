package span_test

import (
	"slices"
	"testing"

	"conductor/api"
	"conductor/span"
)

// roomy is a copy of l with room behind it, which has stretches, too.
func roomy(l []api.Span) []api.Span {
	c := append(slices.Clone(l), to("room", ""), to("q", "p"), to("", ""))
	return c[:len(l)]
}

// spoil changes all that a list has, and what room is behind it.
func spoil(l []api.Span) {
	l = l[:cap(l)]
	for i := range l {
		l[i] = to("spoiled", "\x00")
	}
}

// isOwn asks of lists, and changes what was answered, and then what was handed in.
func isOwn(t *testing.T, a, b []api.Span, n int) {
	t.Helper()
	given, other := roomy(a), roomy(b)
	all, allOther := given[:cap(given)], other[:cap(other)]
	ahead, aheadOther := slices.Clone(all), slices.Clone(allOther)
	s := to("b", "d")
	if len(b) > 0 {
		s = b[0]
	}
	ask := func() [][]api.Span {
		span.Normal(given)
		span.In(given, "b")
		span.Meet(given, other)
		span.Same(given, other)
		return [][]api.Span{span.Add(given, s), span.Join(given, other), span.Join(other, given), span.Fit(given, n), span.Add(nil, s), span.Join(nil, given), span.Join(given, nil)}
	}
	told := ask()
	var kept [][]api.Span
	for _, l := range told {
		kept = append(kept, slices.Clone(l))
		spoil(l)
	}
	if !slices.Equal(all, ahead) || !slices.Equal(allOther, aheadOther) {
		t.Fatalf("%q and %q are %q and %q when what was answered is changed", ahead, aheadOther, all, allOther)
	}
	told = ask()
	spoil(given)
	spoil(other)
	for i, l := range told {
		if !slices.Equal(l, kept[i]) {
			t.Fatalf("what was told of %q and %q changes with them, or is told anew: %q, and was %q", a, b, l, kept[i])
		}
	}
}

// R4, R5: what is answered shares nothing with what was handed in, nor does that change.
func TestAnswersAreOwn(t *testing.T) {
	all := listsOf(2, spansOf("", "a", "b")...)
	for _, a := range all {
		for i, b := range all {
			isOwn(t, a, b, i%4)
		}
	}
	for seed := range 1000 {
		c := chance(seed)
		isOwn(t, c.some(12), c.some(12), c.of(12))
	}
}

// FuzzSpan: whatever lists come.
func FuzzSpan(f *testing.F) {
	f.Add("b\nd\nc\nf", 1, 1)
	f.Add("a\na\x00\nc\nc\x00\ne\ne\x00", 2, 2)
	f.Add("z\ny\n\n\nb\na", 0, 0)
	f.Add("\x00\n\x00\x00\n\xff\n", 1, -1)
	f.Fuzz(func(t *testing.T, texts string, cut, n int) {
		var l []api.Span
		lo, has := "", false
		for i, from := 0, 0; i <= len(texts); i++ {
			if i < len(texts) && texts[i] != '\n' {
				continue
			}
			if has {
				l = append(l, to(lo, texts[from:i]))
			}
			lo, has, from = texts[from:i], !has, i+1
		}
		cut = max(0, min(cut, len(l)))
		a, b := l[:cut], l[cut:]
		want := normalOf(l, endsOf(l))
		isList(t, "Join", span.Join(a, b), want, a, b)
		isList(t, "Fit", span.Fit(l, n), fitted(want, n), l, n)
		isMet(t, a, b, endsOf(l))
		isOwn(t, a, b, n)
		if span.Normal(l) != isNormal(l) {
			t.Fatalf("Normal(%q) = %t", l, span.Normal(l))
		}
		for _, key := range endsOf(l) {
			if span.In(l, key) != isIn(l, key) {
				t.Fatalf("In(%q, %q) = %t", l, key, span.In(l, key))
			}
		}
	})
}
