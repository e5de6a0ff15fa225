package span_test

import (
	"slices"
	"testing"

	"conductor/api"
	"conductor/span"
)

// ends are those of the stretches that are made here, rising, some of them as close together as texts can be.
var ends = []string{"", "\x00", "a", "a\x00", "b", "ba", "c", "\xff"}

// probes are texts at ends, and close behind each, rising: what of them lies in a stretch between ends tells the stretch.
var probes = probesOf(ends)

func probesOf(l []string) []string {
	all := []string{""}
	for _, s := range l {
		all = append(all, s, s+"\x00", s+"\x00\x00", s+"\x01")
	}
	slices.Sort(all)
	return slices.Compact(all)
}

func to(lo, hi string) api.Span {
	return api.Span{Lo: lo, Hi: hi}
}

func list(l ...api.Span) []api.Span {
	return l
}

// spansOf gives all stretches between these ends, right or not.
func spansOf(ends ...string) []api.Span {
	var l []api.Span
	for _, lo := range ends {
		for _, hi := range ends {
			l = append(l, to(lo, hi))
		}
	}
	return l
}

// listsOf gives all lists of at most so many of these.
func listsOf(few int, spans ...api.Span) [][]api.Span {
	all := [][]api.Span{nil}
	shorter := all
	for range few {
		var next [][]api.Span
		for _, l := range shorter {
			for _, s := range spans {
				next = append(next, append(l[:len(l):len(l)], s))
			}
		}
		all = append(all, next...)
		shorter = next
	}
	return all
}

// The following are what the chapter says, in another way.

func isIn(l []api.Span, key string) bool {
	for _, s := range l {
		if s.Lo <= key && (len(s.Hi) == 0 || s.Hi > key) {
			return true
		}
	}
	return false
}

func isNormal(l []api.Span) bool {
	for i, s := range l {
		if len(s.Hi) > 0 && s.Hi <= s.Lo {
			return false
		}
		for _, early := range l[:i] {
			if len(early.Hi) == 0 || early.Hi >= s.Lo {
				return false
			}
		}
	}
	return true
}

// normalOf gives the normal list of what lies in l, of which the ends are some of these rising texts: a stretch begins where something lies in l for the first time, and ends where nothing does.
func normalOf(l []api.Span, texts []string) []api.Span {
	var all []api.Span
	open := false
	for _, s := range texts {
		is := isIn(l, s)
		switch {
		case is && !open:
			all = append(all, to(s, ""))
		case !is && open:
			all[len(all)-1].Hi = s
		}
		open = is
	}
	return all
}

// endsOf gives the ends of these lists, rising.
func endsOf(lists ...[]api.Span) []string {
	all := []string{""}
	for _, l := range lists {
		for _, s := range l {
			all = append(all, s.Lo, s.Hi)
		}
	}
	slices.Sort(all)
	return slices.Compact(all)
}

// fitted joins the first two of a normal list, again and again.
func fitted(l []api.Span, n int) []api.Span {
	for len(l) > n && len(l) > 1 {
		l = append(list(to(l[0].Lo, l[1].Hi)), l[2:]...)
	}
	return l
}

func both(a, b []api.Span) []api.Span {
	return append(a[:len(a):len(a)], b...)
}

// isList tells whether a call answered just what it must, in normal order.
func isList(t *testing.T, what string, got, want []api.Span, of ...any) {
	t.Helper()
	if !slices.Equal(got, want) || !span.Same(got, want) || !span.Normal(got) || !isNormal(got) {
		t.Fatalf("%s of %q = %q, want %q", what, of, got, want)
	}
}

// chance gives numbers that are the same each time.
type chance uint64

func (c *chance) of(n int) int {
	*c = *c*6364136223846793005 + 1442695040888963407
	return int(uint64(*c>>33) % uint64(n))
}

// text gives one of many short texts.
func (c *chance) text() string {
	letters := "\x00ab\xff"
	s := ""
	for range c.of(4) {
		i := c.of(len(letters))
		s += letters[i : i+1]
	}
	return s
}

// some gives a list of up to so many stretches, in no order, some of them not right, some touching.
func (c *chance) some(most int) []api.Span {
	var l []api.Span
	for range c.of(most + 1) {
		s := to(c.text(), c.text())
		switch c.of(4) {
		case 0:
			s = span.Point(s.Lo)
		case 1:
			s.Hi = s.Lo + s.Hi
		case 2:
			if len(l) > 0 {
				s.Lo = l[c.of(len(l))].Hi
			}
		}
		l = append(l, s)
	}
	return l
}
