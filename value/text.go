package value

import (
	"strconv"
	"strings"

	"conductor/api"
)

const (
	yes  = "true"
	no   = "false"
	none = "none"
	hex  = "0123456789abcdef"
)

// Print writes v as people read it.
func Print(v api.Value) string {
	switch v.Kind {
	case api.VkInt:
		return strconv.FormatInt(v.N, 10)
	case api.VkBool:
		if v.N == 1 {
			return yes
		}
		return no
	case api.VkText:
		return quoted(v.S)
	}
	return none
}

// Parse gives the value at the front of s, and how many bytes it has.
func Parse(s string) (api.Value, int, api.Errno) {
	digits := strings.TrimPrefix(s, "-")
	switch {
	case digits != "" && isDigit(digits[0]):
		return number(s, len(s)-len(digits))
	case strings.HasPrefix(s, `"`):
		return text(s)
	case isWord(s, yes):
		return Bool(true), len(yes), api.OK
	case isWord(s, no):
		return Bool(false), len(no), api.OK
	}
	return api.Value{}, 0, api.ErrForm
}

// number gives the number at the front of s, whose digits begin at first.
func number(s string, first int) (api.Value, int, api.Errno) {
	size := first
	for size < len(s) && isDigit(s[size]) {
		size++
	}
	if s[first] == '0' && size > 1 { // a 0 stands alone, so that each number has one text
		return api.Value{}, 0, api.ErrForm
	}
	n, err := strconv.ParseInt(s[:size], 10, 64)
	if err != nil { // its form is right, so it is too far from 0
		return api.Value{}, 0, api.ErrOver
	}
	return Int(n), size, api.OK
}

// text gives the text that the quote at the front of s begins. It is gone over up to its end even when it is too long, as that is told behind all else.
func text(s string) (api.Value, int, api.Errno) {
	var b []byte
	at := 1
text:
	for at < len(s) {
		switch c := s[at]; {
		case c == '"':
			break text
		case c == '\\':
			meant, size, err := escaped(s[at:])
			if err != api.OK {
				return api.Value{}, 0, err
			}
			b = append(b, meant)
			at += size
		case isPlain(c):
			b = append(b, c)
			at++
		default:
			return api.Value{}, 0, api.ErrForm
		}
	}
	switch {
	case at == len(s):
		return api.Value{}, 0, api.ErrShort
	case len(b) > api.MaxText:
		return api.Value{}, 0, api.ErrLong
	}
	return Text(string(b)), at + 1, api.OK
}

// escaped gives the byte that is meant by the \ at the front of s and what stands behind it, and how many bytes these are.
func escaped(s string) (byte, int, api.Errno) {
	switch {
	case len(s) == 1:
		return 0, 0, api.ErrShort
	case s[1] == '"' || s[1] == '\\':
		return s[1], 2, api.OK
	case len(s) == 2:
		return 0, 0, api.ErrForm
	}
	high, low := strings.IndexByte(hex, s[1]), strings.IndexByte(hex, s[2])
	if high < 0 || low < 0 {
		return 0, 0, api.ErrForm
	}
	meant := byte(16*high + low)
	if isPlain(meant) { // it is written in another way, and each text in one alone
		return 0, 0, api.ErrForm
	}
	return meant, 3, api.OK
}

func quoted(s string) string {
	b := []byte{'"'}
	for i := range len(s) {
		switch c := s[i]; {
		case c == '"' || c == '\\':
			b = append(b, '\\', c)
		case isPlain(c):
			b = append(b, c)
		default:
			b = append(b, '\\', hex[c/16], hex[c%16])
		}
	}
	return string(append(b, '"'))
}

// isWord tells whether the word stands at the front of s, and ends there.
func isWord(s, word string) bool {
	rest, is := strings.CutPrefix(s, word)
	return is && (rest == "" || !isDigit(rest[0]) && rest[0] != '-' && (rest[0] < 'a' || rest[0] > 'z'))
}

func isDigit(c byte) bool { return '0' <= c && c <= '9' }

// isPlain tells of which bytes a text may have any by themselves, but for the two that mean something.
func isPlain(c byte) bool { return 32 <= c && c <= 126 }
