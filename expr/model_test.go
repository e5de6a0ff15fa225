package expr_test

import (
	"regexp"
	"slices"
	"strconv"

	"conductor/api"
	"conductor/value"
)

// levels are the signs of two, the weakest first.
var levels = [][]string{{"||"}, {"&&"}, {"==", "!=", "<=", ">=", "<", ">"}, {"+", "-"}, {"*", "/", "%"}}

// ops are the Ops of the signs of two.
var ops = map[string]int{
	"||": api.OpOr, "&&": api.OpAnd,
	"==": api.OpEq, "!=": api.OpNe, "<=": api.OpLe, ">=": api.OpGe, "<": api.OpLt, ">": api.OpGt,
	"+": api.OpAdd, "-": api.OpSub,
	"*": api.OpMul, "/": api.OpDiv, "%": api.OpMod,
}

var (
	digits = regexp.MustCompile(`^[0-9]+`)
	word   = regexp.MustCompile(`^[a-z][a-z0-9-]*`)
	marks  = regexp.MustCompile(`^(\|\||&&|[=!<>]=|[<>+\-*/%!()])`)
)

// told is an error of a text, with its place (below 0: none).
type told struct {
	at  int
	err api.Errno
}

// model reads a text in another way than the package: strength by strength, going down. It panics with what is told.
type model struct {
	text    string
	most    int // brackets and signs of one that may be open
	at, to  int // the token that is looked at
	tok     string
	v       api.Value
	deep    int
	deepest int
	terms   []api.Term
}

// parsed gives the terms of a text of any length, of any number of terms, and how deep it goes, at most as deep as most; or its first error.
func parsed(text string, most int) (terms []api.Term, deep int, first *told) {
	m := &model{text: text, most: most}
	defer func() {
		if x, is := recover().(told); is {
			terms, deep, first = nil, 0, &x
		}
	}()
	m.move()
	m.level(0)
	m.want("")
	return m.terms, m.deepest, nil
}

// wanted is what Parse must answer.
func wanted(text string) ([]api.Term, *told) {
	if len(text) > 128 {
		return nil, &told{-1, api.ErrLong}
	}
	terms, _, first := parsed(text, 12)
	if first == nil && len(terms) > 40 {
		return nil, &told{-1, api.ErrLong}
	}
	return terms, first
}

func (m *model) fail(err api.Errno) { panic(told{m.at, err}) }

// move looks at the next token: its text, num or txt of a value, nothing at the end.
func (m *model) move() {
	m.at = m.to
	for m.at < len(m.text) && m.text[m.at:m.at+1] == " " {
		m.at++
	}
	rest := m.text[m.at:]
	switch {
	case rest == "":
		m.tok = ""
	case digits.MatchString(rest):
		m.tok = digits.FindString(rest)
		m.number()
		m.to, m.tok = m.at+len(m.tok), "num"
	case rest[0] == '"':
		v, size, err := value.Parse(rest)
		if err != api.OK {
			m.fail(err)
		}
		m.v, m.to, m.tok = v, m.at+size, "txt"
	case word.MatchString(rest):
		m.tok = word.FindString(rest)
		if len(m.tok) > 16 {
			m.fail(api.ErrName)
		}
		m.to = m.at + len(m.tok)
		m.tok = "word " + m.tok
	case marks.MatchString(rest):
		m.tok = marks.FindString(rest)
		m.to = m.at + len(m.tok)
	default:
		m.fail(api.ErrForm)
	}
}

func (m *model) number() {
	if len(m.tok) > 1 && m.tok[0] == '0' {
		m.fail(api.ErrForm)
	}
	n, err := strconv.ParseInt(m.tok, 10, 64)
	if err != nil {
		m.fail(api.ErrOver)
	}
	m.v = value.Int(n)
}

// want moves over that token.
func (m *model) want(tok string) {
	if m.tok != tok {
		m.refuse()
	}
	if tok != "" {
		m.move()
	}
}

func (m *model) refuse() {
	if m.tok == "" {
		m.fail(api.ErrShort)
	}
	m.fail(api.ErrForm)
}

func (m *model) put(t api.Term) { m.terms = append(m.terms, t) }

func (m *model) open() {
	m.deep++
	if m.deep > m.most {
		m.fail(api.ErrDeep)
	}
	m.deepest = max(m.deepest, m.deep)
}

func (m *model) level(n int) {
	if n == len(levels) {
		m.one()
		return
	}
	m.level(n + 1)
	for slices.Contains(levels[n], m.tok) {
		op := ops[m.tok]
		m.move()
		m.level(n + 1)
		m.put(api.Term{Op: op})
		if n == 2 { // who comes next can't take another one of these
			return
		}
	}
}

func (m *model) one() {
	op := api.OpNeg
	switch m.tok {
	case "!":
		op = api.OpNot
		fallthrough
	case "-":
		m.open()
		m.move()
		m.one()
		m.deep--
		m.put(api.Term{Op: op})
	default:
		m.value()
	}
}

func (m *model) value() {
	switch m.tok {
	case "num", "txt":
		m.put(api.Term{Op: api.OpVal, V: m.v})
		m.move()
	case "word true", "word false":
		m.put(api.Term{Op: api.OpVal, V: value.Bool(m.tok == "word true")})
		m.move()
	case "(":
		m.brackets(func() { m.level(0) })
	case "word len":
		m.move()
		m.brackets(func() { m.level(0) })
		m.put(api.Term{Op: api.OpLen})
	case "word has":
		m.move()
		m.brackets(func() { m.put(api.Term{Op: api.OpHas, Name: m.name()}) })
	default:
		m.put(api.Term{Op: api.OpVar, Name: m.name()})
	}
}

func (m *model) brackets(within func()) {
	if m.tok == "(" {
		m.open()
	}
	m.want("(")
	within()
	if m.tok == ")" {
		m.deep--
	}
	m.want(")")
}

func (m *model) name() string {
	if len(m.tok) < 6 || m.tok[:5] != "word " || slices.Contains([]string{"has", "len", "true", "false"}, m.tok[5:]) {
		m.refuse()
	}
	name := m.tok[5:]
	m.move()
	return name
}

// laid gives the text of terms that are right, of any length: a part stands in brackets just where it would be read as something else without them.
func laid(e []api.Term) string {
	s, rest := lay(e)
	if len(rest) > 0 {
		panic("terms are left")
	}
	return s
}

// lay gives the text of the last value, and the terms ahead of it.
func lay(e []api.Term) (string, []api.Term) {
	last, rest := e[len(e)-1], e[:len(e)-1]
	switch last.Op {
	case api.OpVal:
		return value.Print(last.V), rest
	case api.OpVar:
		return last.Name, rest
	case api.OpHas:
		return "has(" + last.Name + ")", rest
	case api.OpLen:
		within, rest := lay(rest)
		return "len(" + within + ")", rest
	case api.OpNeg, api.OpNot:
		sign := map[int]string{api.OpNeg: "-", api.OpNot: "!"}[last.Op]
		own := len(rest)
		within, rest := lay(rest)
		return sign + held(sign, within, "", e[len(rest):own], last), rest
	}
	sign := ""
	for s, op := range ops {
		if op == last.Op {
			sign = s
		}
	}
	end := len(rest)
	right, ahead := lay(rest)
	middle := len(ahead)
	left, ahead := lay(ahead)
	left = held("", left, sign+"x", e[len(ahead):middle], api.Term{Op: api.OpVar, Name: "x"}, last)
	right = held("x"+" "+sign, right, "", append([]api.Term{{Op: api.OpVar, Name: "x"}}, e[middle:end]...), last)
	return left + " " + sign + " " + right, ahead
}

// held gives a part as it stands between what is ahead and behind, so that the terms are read.
func held(ahead, part, behind string, terms []api.Term, more ...api.Term) string {
	got, _, first := parsed(ahead+" "+part+" "+behind, 1000)
	if first == nil && slices.Equal(got, append(slices.Clone(terms), more...)) {
		return part
	}
	return "(" + part + ")"
}

// wrong is what Check must answer.
func wrong(e []api.Term) api.Errno {
	if len(e) > 40 {
		return api.ErrLong
	}
	there := 0
	for _, t := range e {
		if err := wrongTerm(t); err != api.OK {
			return err
		}
		takes := map[bool]int{false: 2, true: 0}[t.Op < 3]
		if t.Op == api.OpNeg || t.Op == api.OpNot || t.Op == api.OpLen {
			takes = 1
		}
		if there < takes {
			return api.ErrShort
		}
		there += 1 - takes
	}
	if there == 0 {
		return api.ErrShort
	}
	if there > 1 {
		return api.ErrForm
	}
	if _, deep, _ := parsed(laid(e), 1000); deep > 12 {
		return api.ErrDeep
	}
	return api.OK
}

func wrongTerm(t api.Term) api.Errno {
	named := t.Op == api.OpVar || t.Op == api.OpHas
	if t.Op < 0 || t.Op > 18 || t.Op != api.OpVal && t.V != (api.Value{}) || !named && t.Name != "" {
		return api.ErrArg
	}
	if t.Op == api.OpVal && value.Right(t.V) != api.OK {
		return value.Right(t.V)
	}
	if t.V.Kind == api.VkInt && t.V.N < 0 {
		return api.ErrArg
	}
	if named && (word.FindString(t.Name) != t.Name || t.Name == "" || len(t.Name) > 16 || slices.Contains([]string{"has", "len", "true", "false"}, t.Name)) {
		return api.ErrName
	}
	return api.OK
}
