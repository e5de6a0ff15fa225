package key_test

import (
	"slices"
	"strings"
	"testing"

	"conductor/api"
	"conductor/key"
)

// isKey tells unless k is the key of that kind and these parts.
func isKey(t *testing.T, k string, kind byte, parts []string) {
	t.Helper()
	for range 2 { // R5
		c, l, err := key.Parse(k)
		if c != kind || !slices.Equal(l, parts) || err != api.OK {
			t.Errorf("Parse(%q) = %d, %q, %d; want %d, %q", k, c, l, err, kind, parts)
		}
	}
}

// isNoKey tells unless k is refused, without anything else.
func isNoKey(t *testing.T, k string) {
	t.Helper()
	if c, l, err := key.Parse(k); c != 0 || len(l) != 0 || err != api.ErrKey {
		t.Errorf("Parse(%q) = %d, %q, %d; want ErrKey", k, c, l, err)
	}
}

// P3.1
func TestNames(t *testing.T) {
	for _, s := range []string{"a", "z", "m", "a0", "z9", "a-", "a-0", "a--", "abcdefghijklmnop", "q-----0123456789", "qrstuvwxyz"} {
		if !key.Name(s) {
			t.Errorf("Name(%q) = false", s)
		}
	}
	for _, s := range []string{"", "0", "9a", "-", "-a", "A", "aB", "a_", "a b", " a", "a ", "a.b", "a\x00", "\x00", "\xff", "a\xff", "ä", "aä", "a\n", "abcdefghijklmnopq", "abcdefghijklmno-Q", strings.Repeat("a", 1000)} {
		if key.Name(s) {
			t.Errorf("Name(%q) = true", s)
		}
	}
}

// P3.1: each byte at each place of a text of each length.
func TestNamesByteByByte(t *testing.T) {
	for long := 1; long <= api.MaxName+3; long++ {
		for place := range long {
			for c := range 256 {
				s := []byte(strings.Repeat("k", long))
				s[place] = byte(c)
				letter := c >= 'a' && c <= 'z'
				inside := letter || c >= '0' && c <= '9' || c == '-'
				is := long <= api.MaxName && (letter || inside && place > 0)
				if key.Name(string(s)) != is {
					t.Errorf("Name(%q) = %t", s, !is)
				}
			}
		}
	}
}

// P3.2
func TestMake(t *testing.T) {
	for _, x := range []struct {
		kind  byte
		parts []string
		k     string
	}{
		{'t', nil, "t"},
		{'t', []string{}, "t"},
		{0, nil, "\x00"},
		{255, nil, "\xff"},
		{'t', []string{""}, "t\x00\x01"},
		{'t', []string{"", ""}, "t\x00\x01\x00\x01"},
		{'t', []string{"ab", ""}, "t\x61\x62\x00\x01\x00\x01"},
		{'t', []string{"", "ab"}, "t\x00\x01ab\x00\x01"},
		{'t', []string{"a", "b"}, "ta\x00\x01b\x00\x01"},
		{'t', []string{"\x00"}, "t\x00\xff\x00\x01"},
		{'t', []string{"\x00\x00"}, "t\x00\xff\x00\xff\x00\x01"},
		{'t', []string{"\x00\x01"}, "t\x00\xff\x01\x00\x01"},
		{'t', []string{"\x00\xff"}, "t\x00\xff\xff\x00\x01"},
		{'t', []string{"a\x00b", "\xff"}, "ta\x00\xffb\x00\x01\xff\x00\x01"},
		{0, []string{"\x01"}, "\x00\x01\x00\x01"},
		{0, []string{"\xff"}, "\x00\xff\x00\x01"},
	} {
		if k := key.Make(x.kind, x.parts...); k != x.k {
			t.Errorf("Make(%d, %q) = %q, want %q", x.kind, x.parts, k, x.k)
		}
		isKey(t, x.k, x.kind, x.parts)
	}
}

// P3.2
func TestMakeOfAnyBytes(t *testing.T) {
	all := everyByte()
	lists := [][]string{nil, {all}, {all, all}, {"", all, ""}, {strings.Repeat("\x00", 1000)}, slices.Repeat([]string{"a", "", "\x00"}, 1000)}
	for kind := range 256 {
		for _, l := range lists {
			want := written(byte(kind), l)
			if k := key.Make(byte(kind), l...); k != want {
				t.Errorf("Make(%d, %.20q ..) is another key", kind, l)
			}
			isKey(t, want, byte(kind), l)
		}
	}
}

// P3.2
func TestParseRefuses(t *testing.T) {
	for _, k := range []string{
		// no kind
		"",
		// no end of the last part
		"ta", "t\x01", "t\xff", "ta\x00\x01b", "ta\x00\x01\x01",
		"t\x00\xff", "t\x00\xff\x01", "t\x00\xff\xff",
		// nothing behind a 0
		"t\x00", "\x00\x00", "ta\x00", "ta\x00\x01\x00", "t\x00\xff\x00",
		// something else behind a 0
		"t\x00\x00", "t\x00\x00\x01", "t\x00\x00\xff\x00\x01", "ta\x00\x02", "ta\x00\x02\x00\x01",
		"ta\x00\xfe\x00\x01", "ta\x00a\x00\x01", "ta\x00\x01\x00\x02", "ta\x00\x01\x00\x00\x01",
	} {
		isNoKey(t, k)
	}
}

// P3.2: of all short texts of the bytes that count just those are keys that are made.
func TestOnlyWhatIsMadeIsParsed(t *testing.T) {
	const long = 5 // behind the kind: three bytes in one part, or one in two
	made := map[string][]string{}
	for _, l := range listsUpTo(2, textsUpTo(3)) {
		if k := written('t', l); len(k) <= 1+long {
			made[k] = l
		}
	}
	for _, s := range textsUpTo(long) {
		if l, is := made["t"+s]; is {
			isKey(t, "t"+s, 't', l)
			delete(made, "t"+s)
		} else {
			isNoKey(t, "t"+s)
		}
	}
	if len(made) != 0 {
		t.Errorf("%d keys have other bytes", len(made))
	}
}

// P3.2, R4
func TestNothingIsShared(t *testing.T) {
	parts := []string{"a", "b", "c"}
	k := key.Make('t', parts[:2]...)
	lo, _ := key.Under('t', parts[:2]...)
	parts[0] = "x"
	if k != "ta\x00\x01b\x00\x01" || lo != k || !slices.Equal(parts, []string{"x", "b", "c"}) {
		t.Errorf("keys %q and %q, parts %q", k, lo, parts)
	}
	_, l, _ := key.Parse(k)
	l[0] = "y"
	_ = append(l[:1], "z")
	isKey(t, k, 't', []string{"a", "b"})
}

// P3.5
func TestThereAndBack(t *testing.T) {
	for _, l := range listsUpTo(2, textsUpTo(2)) {
		isKey(t, key.Make('i', l...), 'i', l)
	}
	for _, l := range listsUpTo(5, textsUpTo(1)[:5]) {
		isKey(t, key.Make('\x00', l...), '\x00', l)
	}
}

// P1, P3.2, P3.5: whatever comes.
func FuzzKey(f *testing.F) {
	f.Add("", byte(0), "", "")
	f.Add("ta\x00\x01", byte('t'), "a\x00", "\x00\x01")
	f.Add("t\x00\xff\x00\x01", byte(255), "\xff", "\x00\xff")
	f.Fuzz(func(t *testing.T, s string, kind byte, a, b string) {
		c, l, err := key.Parse(s)
		switch {
		case err != api.OK:
			isNoKey(t, s)
		case key.Make(c, l...) != s:
			t.Errorf("%q is parsed as %d, %q", s, c, l)
		}
		for _, l := range [][]string{nil, {a}, {a, b}, {s, a, b}} {
			k := key.Make(kind, l...)
			if k != written(kind, l) {
				t.Errorf("Make(%d, %q) = %q", kind, l, k)
			}
			isKey(t, k, kind, l)
		}
		hasOrder(t, []string{a, b}, []string{s, b})
		isAfter(t, a)
		if n, err := key.Digits(s); err == api.OK && key.Number(n) != s {
			t.Errorf("%q is read as %d", s, n)
		}
		if key.Name(s) && (len(s) > api.MaxName || strings.Trim(s, "abcdefghijklmnopqrstuvwxyz0123456789-") != "") {
			t.Errorf("%q is a name", s)
		}
	})
}
