package key_test

import (
	"cmp"
	"slices"
	"strings"
	"testing"

	"conductor/key"
)

// hasOrder tells unless the keys of two lists stand in the order of these.
func hasOrder(t *testing.T, a, b []string) {
	t.Helper()
	if got, want := cmp.Compare(key.Make('t', a...), key.Make('t', b...)), slices.Compare(a, b); got != want {
		t.Errorf("the keys of %q and %q stand as %d, want %d", a, b, got, want)
	}
}

// isAfter tells unless After(p) is p without its last bytes 255, and the last byte then one more.
func isAfter(t *testing.T, p string) {
	t.Helper()
	want := p
	for strings.HasSuffix(want, "\xff") {
		want = want[:len(want)-1]
	}
	if want != "" {
		last := len(want) - 1
		want = want[:last] + string([]byte{want[last] + 1})
	}
	if after := key.After(p); after != want {
		t.Errorf("After(%q) = %q, want %q", p, after, want)
	}
}

// P3.6
func TestKeysStandInOrder(t *testing.T) {
	lists := listsUpTo(2, textsUpTo(2))
	slices.SortFunc(lists, slices.Compare)
	for i := 1; i < len(lists); i++ {
		hasOrder(t, lists[i-1], lists[i])
		hasOrder(t, lists[i], lists[i-1])
		hasOrder(t, lists[i], lists[i])
	}
	few := listsUpTo(2, textsUpTo(1))
	for _, a := range few {
		for _, b := range few {
			hasOrder(t, a, b)
		}
	}
}

// P3.6: the first part that is another one decides, however long it is, and whatever stands behind.
func TestTheFirstOtherPartDecides(t *testing.T) {
	in := [][]string{
		nil,
		{""},
		{"", ""},
		{"", "", "z"},
		{"", "z"},
		{"\x00"},
		{"\x00", "z"},
		{"\x00\x00", "a"},
		{"\x00\x01", "a"},
		{"\x00\xff", "a"},
		{"\x01", "a"},
		{"a"},
		{"a", ""},
		{"a", "b"},
		{"a", "b", ""},
		{"a", "b\x00"},
		{"a\x00", ""},
		{"a\x00\x00"},
		{"a\x01"},
		{"aa", ""},
		{"ab"},
		{"b", "a"},
		{"\xff"},
		{"\xff\x00"},
		{"\xff\xff"},
	}
	for i, a := range in {
		for j, b := range in {
			hasOrder(t, a, b)
			if got := cmp.Compare(key.Make('i', a...), key.Make('i', b...)); got != cmp.Compare(i, j) {
				t.Errorf("the keys of %q and %q stand as %d", a, b, got)
			}
		}
	}
}

// P3.4
func TestAfter(t *testing.T) {
	for _, x := range []struct{ p, after string }{
		{"", ""},
		{"\xff", ""},
		{"\xff\xff\xff", ""},
		{"\x00", "\x01"},
		{"\x00\x00", "\x00\x01"},
		{"\xfe", "\xff"},
		{"\xfe\xff", "\xff"},
		{"\xff\xfe", "\xff\xff"},
		{"\xff\x00\xff", "\xff\x01"},
		{"ab", "ac"},
		{"a\xff", "b"},
		{"a\xff\xff", "b"},
		{"a\xffa", "a\xffb"},
		{"a\x7f", "a\x80"},
		{"ä", "\xc3\xa5"},
		{"t\x00\x01", "t\x00\x02"},
		{strings.Repeat("a", 1000) + strings.Repeat("\xff", 1000), strings.Repeat("a", 999) + "b"},
	} {
		if after := key.After(x.p); after != x.after {
			t.Errorf("After(%q) = %q, want %q", x.p, after, x.after)
		}
		isAfter(t, x.p)
	}
}

// P3.4: it is above all texts that begin with p, and no lesser text is.
func TestAfterIsTheLeastAbove(t *testing.T) {
	texts := textsUpTo(4)
	high := strings.Repeat("\xff", 9) // p and this is above each of these texts that is not above all that begin with p
	for _, p := range textsUpTo(3) {
		isAfter(t, p)
		after := key.After(p)
		for _, s := range texts {
			above := s > p+high
			if after == "" && above {
				t.Errorf("%q is above all that begin with %q, and After is nothing", s, p)
			}
			if after != "" && above != (s >= after) {
				t.Errorf("After(%q) = %q, but for %q", p, after, s)
			}
		}
	}
}

// liesIn tells whether k lies from lo on up to ahead of hi, or to the end, if hi is empty.
func liesIn(k, lo, hi string) bool {
	return k >= lo && (hi == "" || k < hi)
}

// P3.4
func TestUnder(t *testing.T) {
	for _, x := range []struct {
		kind   byte
		parts  []string
		lo, hi string
	}{
		{'t', nil, "t", "u"},
		{0, nil, "\x00", "\x01"},
		{254, nil, "\xfe", "\xff"},
		{255, nil, "\xff", ""},
		{255, []string{""}, "\xff\x00\x01", "\xff\x00\x02"},
		{'t', []string{""}, "t\x00\x01", "t\x00\x02"},
		{'t', []string{"x"}, "tx\x00\x01", "tx\x00\x02"},
		{'t', []string{"\xff", "\x00"}, "t\xff\x00\x01\x00\xff\x00\x01", "t\xff\x00\x01\x00\xff\x00\x02"},
	} {
		lo, hi := key.Under(x.kind, x.parts...)
		if lo != x.lo || hi != x.hi {
			t.Errorf("Under(%d, %q) = %q, %q, want %q, %q", x.kind, x.parts, lo, hi, x.lo, x.hi)
		}
	}
}

// P3.7
func TestUnderLieThoseThatBeginSo(t *testing.T) {
	lists := append(listsUpTo(2, textsUpTo(2)), listsUpTo(3, textsUpTo(1))...)
	for _, kind := range []byte{0, 't', 254, 255} {
		for _, a := range listsUpTo(2, textsUpTo(1)) {
			lo, hi := key.Under(kind, a...)
			for _, b := range lists {
				begins := len(b) >= len(a) && slices.Equal(a, b[:len(a)])
				if liesIn(key.Make(kind, b...), lo, hi) != begins {
					t.Errorf("%q lies under %q of the kind %d: %t", b, a, kind, !begins)
				}
			}
		}
	}
}

// P3.4: none of another kind lies there.
func TestUnderIsOfItsKind(t *testing.T) {
	for _, kind := range []byte{0, 1, 't', 254, 255} {
		for _, a := range listsUpTo(1, textsUpTo(1)) {
			lo, hi := key.Under(kind, a...)
			for other := range 256 {
				for _, b := range [][]string{nil, a, {"\xff\xff"}, {everyByte()}} {
					if other != int(kind) && liesIn(key.Make(byte(other), b...), lo, hi) {
						t.Errorf("%q of the kind %d lies under %q of the kind %d", b, other, a, kind)
					}
				}
			}
		}
	}
}
