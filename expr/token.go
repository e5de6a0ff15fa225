package expr

import (
	"conductor/api"
	"conductor/key"
	"conductor/value"
)

// Words that are no variables.
const (
	yes    = "true"
	no     = "false"
	has    = "has"
	length = "len"
)

// Kinds of tokens.
const (
	mark     = iota // a sign, a bracket, or the word of a call: told by its text
	literal         // the value v
	variable        // the variable text
	end             // nothing: the text is over
)

// token is what stands in a text from the byte at on up to ahead of the byte to.
type token struct {
	kind   int
	at, to int
	text   string
	v      api.Value
}

// next gives the token that begins at from, or behind blanks there. With an error, too, it has its place.
func next(text string, from int) (token, api.Errno) {
	for from < len(text) && text[from] == ' ' {
		from++
	}
	t := token{at: from, to: from}
	if from == len(text) {
		t.kind = end
		return t, api.OK
	}
	rest := text[from:]
	switch c := rest[0]; {
	case isDigit(c), c == '"':
		v, size, err := value.Parse(rest)
		t.kind, t.v, t.to = literal, v, from+size
		return t, err
	case isLetter(c):
		return word(rest[:wordSize(rest)], t)
	}
	size := signSize(rest)
	if size == 0 {
		return t, api.ErrForm
	}
	t.text, t.to = rest[:size], from+size
	return t, api.OK
}

// word makes t the token of a word.
func word(w string, t token) (token, api.Errno) {
	t.to = t.at + len(w)
	switch w {
	case yes, no:
		t.kind, t.v = literal, value.Bool(w == yes)
		return t, api.OK
	case has, length:
		t.text = w
		return t, api.OK
	}
	if !key.Name(w) { // of its form it is one, so it is too long
		return t, api.ErrName
	}
	t.kind, t.text = variable, w
	return t, api.OK
}

// isKept tells whether a word has a meaning of its own, so that no variable may be named so.
func isKept(w string) bool {
	return w == yes || w == no || w == has || w == length
}

func wordSize(s string) int {
	size := 0
	for size < len(s) && (isLetter(s[size]) || isDigit(s[size]) || s[size] == '-') {
		size++
	}
	return size
}

func isLetter(c byte) bool { return 'a' <= c && c <= 'z' }

func isDigit(c byte) bool { return '0' <= c && c <= '9' }
