package value_test

import (
	"fmt"
	"strconv"
	"strings"
	"testing"

	"conductor/api"
	"conductor/value"
)

// isParsed tells unless v is at the front of s, with so many bytes.
func isParsed(t *testing.T, s string, v api.Value, size int) {
	t.Helper()
	for range 2 { // R5
		got, n, err := value.Parse(s)
		if got != v || n != size || err != api.OK {
			t.Errorf("Parse(%q) = %v, %d, %d; want %v of %d bytes", s, got, n, err, v, size)
		}
	}
}

// isNotParsed tells unless s is refused with that error, without anything else.
func isNotParsed(t *testing.T, s string, err api.Errno) {
	t.Helper()
	if v, n, got := value.Parse(s); v != (api.Value{}) || n != 0 || got != err {
		t.Errorf("Parse(%q) = %v, %d, %d; want the error %d", s, v, n, got, err)
	}
}

// P4.3
func TestPrint(t *testing.T) {
	for _, x := range []struct {
		v api.Value
		s string
	}{
		{value.Int(0), "0"},
		{value.Int(7), "7"},
		{value.Int(-1), "-1"},
		{value.Int(-120), "-120"},
		{value.Int(9223372036854775807), "9223372036854775807"},
		{value.Int(-9223372036854775808), "-9223372036854775808"},
		{value.Bool(true), "true"},
		{value.Bool(false), "false"},
		{value.Text(""), `""`},
		{value.Text("ab 9-"), `"ab 9-"`},
		{value.Text(`"`), `"\""`},
		{value.Text(`\`), `"\\"`},
		{value.Text(`\"`), `"\\\""`},
		{value.Text("\x00\x0a\x1f ~\x7f\x80\xff"), `"\00\0a\1f ~\7f\80\ff"`},
		{value.Text("ä"), `"\c3\a4"`},
		{value.Text("true"), `"true"`},
		{value.Text(tooLong), `"` + tooLong + `"`},
	} {
		if s := value.Print(x.v); s != x.s {
			t.Errorf("Print(%v) = %s, want %s", x.v, s, x.s)
		}
	}
	for _, v := range anyValues() {
		if s := value.Print(v); (s == "none") != (v.Kind < api.VkInt || v.Kind > api.VkText) {
			t.Errorf("Print(%v) = %s", v, s)
		}
	}
}

// P4.3: each byte of a text.
func TestPrintByteByByte(t *testing.T) {
	for c := range 256 {
		b := string([]byte{byte(c)})
		want := b
		switch {
		case c == '"' || c == '\\':
			want = `\` + b
		case c < 32 || c > 126:
			want = fmt.Sprintf(`\%02x`, c)
		}
		if s := value.Print(value.Text("a" + b + b)); s != `"a`+want+want+`"` {
			t.Errorf("of the byte %d there is %s", c, s)
		}
	}
}

// P4.3
func TestParseNumbers(t *testing.T) {
	for _, x := range []struct {
		s    string
		n    int64
		size int
	}{
		{"0", 0, 1},
		{"12a", 12, 2},
		{"12.5", 12, 2},
		{"12-5", 12, 2},
		{"12 5", 12, 2},
		{"1_000", 1, 1},
		{"0x10", 0, 1},
		{"0-0", 0, 1},
		{"-1", -1, 2},
		{"-10-10", -10, 3},
		{"1e5", 1, 1},
		{"9\x00", 9, 1},
		{"9\xff", 9, 1},
		{"9223372036854775807", 1<<63 - 1, 19},
		{"-9223372036854775808", -1 << 63, 20},
		{"-9223372036854775808-9", -1 << 63, 20},
	} {
		isParsed(t, x.s, value.Int(x.n), x.size)
	}
}

// P4.3
func TestParseRefusesNumbers(t *testing.T) {
	for s, err := range map[string]api.Errno{
		"00":                     api.ErrForm,
		"01":                     api.ErrForm,
		"007 ":                   api.ErrForm,
		"-0":                     api.ErrForm,
		"-0 ":                    api.ErrForm,
		"-0a":                    api.ErrForm,
		"-00":                    api.ErrForm,
		"-01":                    api.ErrForm,
		"09223372036854775808":   api.ErrForm,
		"-09223372036854775809":  api.ErrForm,
		"9223372036854775808":    api.ErrOver,
		"-9223372036854775809":   api.ErrOver,
		"18446744073709551616":   api.ErrOver,
		"99999999999999999999 1": api.ErrOver,
		"-99999999999999999999":  api.ErrOver,
		"--1":                    api.ErrForm,
		"- 1":                    api.ErrForm,
		"+1":                     api.ErrForm,
		" 1":                     api.ErrForm,
		"-":                      api.ErrForm,
		"-a":                     api.ErrForm,
		"-true":                  api.ErrForm,
		".5":                     api.ErrForm,
		"٣":                      api.ErrForm,
	} {
		isNotParsed(t, s, err)
	}
	isNotParsed(t, "1"+strings.Repeat("0", 100000), api.ErrOver)
	isNotParsed(t, "0"+strings.Repeat("0", 100000), api.ErrForm)
}

// P4.3: of all short texts of these bytes just those are numbers that are written of one.
func TestOnlyWhatIsWrittenIsANumber(t *testing.T) {
	for _, s := range textsOf(5, []string{"-", "0", "1", "9", " ", "a"}) {
		size := 0
		for size < len(s) && (s[size] >= '0' && s[size] <= '9' || size == 0 && s[0] == '-') {
			size++
		}
		n, err := strconv.Atoi(s[:size])
		if err == nil && strconv.Itoa(n) == s[:size] {
			isParsed(t, s, value.Int(int64(n)), size)
		} else {
			isNotParsed(t, s, api.ErrForm)
		}
	}
}

// P4.3
func TestParseTruths(t *testing.T) {
	for _, x := range []struct {
		word string
		is   bool
	}{{"true", true}, {"false", false}} {
		isParsed(t, x.word, value.Bool(x.is), len(x.word))
		for c := range 256 {
			s := x.word + string([]byte{byte(c)}) + "e"
			if strings.Contains("abcdefghijklmnopqrstuvwxyz0123456789-", s[len(x.word):len(x.word)+1]) {
				isNotParsed(t, s, api.ErrForm)
			} else {
				isParsed(t, s, value.Bool(x.is), len(x.word))
			}
		}
		for size := range x.word {
			isNotParsed(t, x.word[:size], api.ErrForm)
			isNotParsed(t, x.word[:size]+" ", api.ErrForm)
			isNotParsed(t, x.word[:size]+strings.ToUpper(x.word[size:]), api.ErrForm)
		}
	}
	for _, s := range []string{"True", "TRUE", "truefalse", " true", "xtrue", "none", "a", "t", "f", "(", "\x00", "\xff", "ä", "'a'"} {
		isNotParsed(t, s, api.ErrForm)
	}
}

// P4.3
func TestParseTexts(t *testing.T) {
	for _, x := range []struct {
		s, text string
		size    int
	}{
		{`""`, "", 2},
		{`"""`, "", 2},
		{`"ab"cd"`, "ab", 4},
		{`"\""`, `"`, 4},
		{`"\\"`, `\`, 4},
		{`"\\""`, `\`, 4},
		{`"\00\1f\7f\80\ff"`, "\x00\x1f\x7f\x80\xff", 17},
		{`"\0a0a"`, "\n0a", 7},
		{`" ~"`, " ~", 4},
		{`"a"` + "\n", "a", 3},
		{`"` + longest + `"`, longest, 66},
		{`"` + strings.Repeat(`\ff`, 64) + `"`, strings.Repeat("\xff", 64), 194},
		{`"` + strings.Repeat(`\"`, 64) + `"`, strings.Repeat(`"`, 64), 130},
	} {
		isParsed(t, x.s, value.Text(x.text), x.size)
	}
}

// P4.3: from the left, the first error.
func TestParseRefusesTexts(t *testing.T) {
	for s, err := range map[string]api.Errno{
		// no quote ends it
		`"`:     api.ErrShort,
		`"a`:    api.ErrShort,
		`"\"`:   api.ErrShort,
		`"\\\"`: api.ErrShort,
		`"\0a`:  api.ErrShort,
		// a \ stands at the end
		`"\`:   api.ErrShort,
		`"a\`:  api.ErrShort,
		`"\\\`: api.ErrShort,
		// something else behind a \
		`"\a"`:   api.ErrForm,
		`"\n"`:   api.ErrForm,
		`"\ "`:   api.ErrForm,
		`"\0"`:   api.ErrForm,
		`"\0`:    api.ErrForm,
		`"\f`:    api.ErrForm,
		`"\x`:    api.ErrForm,
		`"\0g"`:  api.ErrForm,
		`"\g0"`:  api.ErrForm,
		`"\0A"`:  api.ErrForm,
		`"\FF"`:  api.ErrForm,
		`"\ 0a"`: api.ErrForm,
		"\"\\\n": api.ErrForm,
		// a byte that is not written so
		`"\41"`: api.ErrForm,
		`"\20"`: api.ErrForm,
		`"\7e"`: api.ErrForm,
		`"\22"`: api.ErrForm,
		`"\5c"`: api.ErrForm,
		// a byte by itself
		"\"\n\"":   api.ErrForm,
		"\"\x00\"": api.ErrForm,
		"\"\x1f\"": api.ErrForm,
		"\"\x7f\"": api.ErrForm,
		"\"\x80\"": api.ErrForm,
		"\"\xff\"": api.ErrForm,
		`"ä"`:      api.ErrForm,
		// the first one
		"\"\n":     api.ErrForm,
		"\"\n\\":   api.ErrForm,
		"\"\\41":   api.ErrForm,
		"\"a\xffb": api.ErrForm,
		// too long, behind all others
		`"` + tooLong + `"`:        api.ErrLong,
		`"` + tooLong + `" "`:      api.ErrLong,
		`"` + tooLong:              api.ErrShort,
		`"` + tooLong + `\`:        api.ErrShort,
		`"` + tooLong + `\x"`:      api.ErrForm,
		`"` + tooLong + "\n\"":     api.ErrForm,
		`"` + longest + `\ff"`:     api.ErrLong,
		`"` + longest + `\""`:      api.ErrLong,
		`"` + longest + `\"`:       api.ErrShort,
		`"` + tooLong + tooLong:    api.ErrShort,
		`"` + tooLong + `\41" "\n`: api.ErrForm,
	} {
		isNotParsed(t, s, err)
	}
	isNotParsed(t, `"`+strings.Repeat("a", 1<<16)+`"`, api.ErrLong)
	isNotParsed(t, "", api.ErrForm)
}

// P4.3: each two bytes behind a \, and each byte by itself.
func TestParseByteByByte(t *testing.T) {
	written := map[string]int{}
	for c := range 256 {
		s := value.Print(value.Text(string([]byte{byte(c)})))
		if len(s) == 5 {
			written[s[2:4]] = c
		}
		b := string([]byte{byte(c)})
		switch {
		case c == '"' || c == '\\': // they mean something
		case len(s) == 3:
			isParsed(t, `"`+b+`"`, value.Text(b), 3)
		default:
			isNotParsed(t, `"`+b+`"`, api.ErrForm)
		}
	}
	for i := range 1 << 16 {
		two := string([]byte{byte(i >> 8), byte(i)})
		s := `"\` + two + `"`
		c, is := written[two]
		v, n, err := value.Parse(s)
		switch {
		case is:
			isParsed(t, s, value.Text(string([]byte{byte(c)})), 5)
		case two[0] != '"' && two[0] != '\\':
			isNotParsed(t, s, api.ErrForm)
		case err == api.OK && value.Print(v) != s[:n]:
			t.Errorf("%q is parsed as %v", s, v)
		}
	}
	if len(written) != 256-95 {
		t.Errorf("%d bytes are written by their digits", len(written))
	}
}

// P4.5: whatever follows that may follow.
func TestTextsThereAndBack(t *testing.T) {
	for _, v := range rightValues() {
		s := value.Print(v)
		for _, behind := range []string{"", " ", "(", `"`, `\`, "\n", "\x00", "\xff", "+1", "A", "_"} {
			isParsed(t, s+behind, v, len(s))
		}
		if v.Kind != api.VkBool {
			isParsed(t, s+"-", v, len(s))
			isParsed(t, s+"a", v, len(s))
		}
		if v.Kind == api.VkText {
			isParsed(t, s+"9", v, len(s))
		}
	}
}

// P4.3, P4.5: each value has one text.
func TestTextsHaveOneForm(t *testing.T) {
	parsed := 0
	for _, s := range textsOf(6, []string{`"`, `\`, "0", "a", "\n", " "}) {
		v, size, err := value.Parse(s)
		switch {
		case err != api.OK:
			isNotParsed(t, s, err)
		case value.Print(v) != s[:size]:
			t.Errorf("%q is parsed as %v", s, v)
		default:
			parsed++
		}
	}
	if parsed == 0 {
		t.Error("nothing is parsed")
	}
}

// P1, P4.2, P4.3, P4.5: whatever comes.
func FuzzValue(f *testing.F) {
	for _, s := range []string{"", "-12a", "true-", `"a\"\0a"`, `"\41"`, "\x01\x01", "\x03\x02ab", "\x02\x02", "9223372036854775808"} {
		f.Add(s, int64(1), 2)
	}
	f.Fuzz(func(t *testing.T, s string, n int64, kind int) {
		if v, size, err := value.Parse(s); err != api.OK {
			isNotParsed(t, s, err)
		} else if value.Right(v) != api.OK || value.Print(v) != s[:size] {
			t.Errorf("%q is parsed as %v", s, v)
		}
		if v, size, err := value.Take([]byte(s)); err != api.OK {
			isNotTaken(t, []byte(s), err)
		} else if value.Right(v) != api.OK || string(value.Put(v)) != s[:size] {
			t.Errorf("%x is taken as %v", s, v)
		}
		for _, v := range []api.Value{value.Int(n), value.Bool(n > 0), value.Text(s), {Kind: kind, N: n, S: s}} {
			if value.Right(v) != wrong(v) {
				t.Errorf("Right(%v) = %d", v, value.Right(v))
			}
			b, text := value.Put(v), value.Print(v)
			if wrong(v) == api.OK {
				isTaken(t, append(b, s...), v, len(b))
				isParsed(t, text+" "+s, v, len(text))
			}
		}
	})
}
