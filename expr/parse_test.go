package expr_test

import (
	"math"
	"math/rand"
	"slices"
	"testing"

	"conductor/api"
	"conductor/expr"
	"conductor/fault"
)

// P5.1
func TestParse(t *testing.T) {
	for s, e := range map[string][]api.Term{
		// values
		"0":                   list(num(0)),
		"12":                  list(num(12)),
		"9223372036854775807": list(num(math.MaxInt64)),
		"true":                list(is(true)),
		"false":               list(is(false)),
		`""`:                  list(txt("")),
		`"a - (b"`:            list(txt("a - (b")),
		`"\"\\\00"`:           list(txt("\"\\\x00")),
		"a":                   list(of("a")),
		"z9-":                 list(of("z9-")),
		"a--b":                list(of("a--b")),
		"truex":               list(of("truex")),
		"true-":               list(of("true-")),
		"has1":                list(of("has1")),
		"len-a":               list(of("len-a")),
		"abcdefghijklmnop":    list(of("abcdefghijklmnop")),
		// calls
		"has(a)":           list(got("a")),
		"has ( a ) ":       list(got("a")),
		"len(a)":           list(of("a"), do(api.OpLen)),
		"len ( ( 1 ) )":    list(num(1), do(api.OpLen)),
		"len(a + b) < 3":   list(of("a"), of("b"), do(api.OpAdd), do(api.OpLen), num(3), do(api.OpLt)),
		"len(len(\"a\"))":  list(txt("a"), do(api.OpLen), do(api.OpLen)),
		"len(has(a))":      list(got("a"), do(api.OpLen)),
		"has(a) && has(b)": list(got("a"), got("b"), do(api.OpAnd)),
		// signs of one
		"-1":       list(num(1), do(api.OpNeg)),
		"- - 1":    list(num(1), do(api.OpNeg), do(api.OpNeg)),
		"--a":      list(of("a"), do(api.OpNeg), do(api.OpNeg)),
		"!-a":      list(of("a"), do(api.OpNeg), do(api.OpNot)),
		"-!a":      list(of("a"), do(api.OpNot), do(api.OpNeg)),
		"-(a)":     list(of("a"), do(api.OpNeg)),
		"-(a+b)":   list(of("a"), of("b"), do(api.OpAdd), do(api.OpNeg)),
		"-a * b":   list(of("a"), do(api.OpNeg), of("b"), do(api.OpMul)),
		"a * -b":   list(of("a"), of("b"), do(api.OpNeg), do(api.OpMul)),
		"!a == b":  list(of("a"), do(api.OpNot), of("b"), do(api.OpEq)),
		"-len(a)":  list(of("a"), do(api.OpLen), do(api.OpNeg)),
		"!has(a)":  list(got("a"), do(api.OpNot)),
		"1--1":     list(num(1), num(1), do(api.OpNeg), do(api.OpSub)),
		"a -1":     list(of("a"), num(1), do(api.OpSub)),
		"-(-(1))":  list(num(1), do(api.OpNeg), do(api.OpNeg)),
		"-(a)+b":   list(of("a"), do(api.OpNeg), of("b"), do(api.OpAdd)),
		"!(a)==!b": list(of("a"), do(api.OpNot), of("b"), do(api.OpNot), do(api.OpEq)),
		// signs of two
		"a + 2 * b":     list(of("a"), num(2), of("b"), do(api.OpMul), do(api.OpAdd)),
		"a * 2 + b":     list(of("a"), num(2), do(api.OpMul), of("b"), do(api.OpAdd)),
		"(a + 2) * b":   list(of("a"), num(2), do(api.OpAdd), of("b"), do(api.OpMul)),
		"a - b - c":     list(of("a"), of("b"), do(api.OpSub), of("c"), do(api.OpSub)),
		"a - (b - c)":   list(of("a"), of("b"), of("c"), do(api.OpSub), do(api.OpSub)),
		"a / b % c * d": list(of("a"), of("b"), do(api.OpDiv), of("c"), do(api.OpMod), of("d"), do(api.OpMul)),
		"a || b && c":   list(of("a"), of("b"), of("c"), do(api.OpAnd), do(api.OpOr)),
		"a && b || c":   list(of("a"), of("b"), do(api.OpAnd), of("c"), do(api.OpOr)),
		"a || b || c":   list(of("a"), of("b"), do(api.OpOr), of("c"), do(api.OpOr)),
		"a<b&&c>=d":     list(of("a"), of("b"), do(api.OpLt), of("c"), of("d"), do(api.OpGe), do(api.OpAnd)),
		"a + 1 == b":    list(of("a"), num(1), do(api.OpAdd), of("b"), do(api.OpEq)),
		"a == b + 1":    list(of("a"), of("b"), num(1), do(api.OpAdd), do(api.OpEq)),
		"(a < b) < c":   list(of("a"), of("b"), do(api.OpLt), of("c"), do(api.OpLt)),
		"a < (b < c)":   list(of("a"), of("b"), of("c"), do(api.OpLt), do(api.OpLt)),
		"1-1":           list(num(1), num(1), do(api.OpSub)),
		"((a))":         list(of("a")),
		" a ":           list(of("a")),
		"(a)-(b)":       list(of("a"), of("b"), do(api.OpSub)),
		"\"a\"+\"b\"":   list(txt("a"), txt("b"), do(api.OpAdd)),
		"a!=b":          list(of("a"), of("b"), do(api.OpNe)),
		"a<=b":          list(of("a"), of("b"), do(api.OpLe)),
		"a>b":           list(of("a"), of("b"), do(api.OpGt)),
	} {
		isParsed(t, s, e)
	}
}

// P5.1
func TestParseRefuses(t *testing.T) {
	for _, x := range []struct {
		s   string
		at  int
		err api.Errno
	}{
		// no token begins there
		{"#", 0, api.ErrForm},
		{"a # b", 2, api.ErrForm},
		{"a = b", 2, api.ErrForm},
		{"a === b", 4, api.ErrForm},
		{"a & b", 2, api.ErrForm},
		{"a | b", 2, api.ErrForm},
		{"a &&& b", 4, api.ErrForm},
		{"A", 0, api.ErrForm},
		{"aB", 1, api.ErrForm},
		{"a_b", 1, api.ErrForm},
		{"a\t+ b", 1, api.ErrForm},
		{"1.5", 1, api.ErrForm},
		{"a +\n", 3, api.ErrForm},
		{"\x00", 0, api.ErrForm},
		{"ä", 0, api.ErrForm},
		{"'a'", 0, api.ErrForm},
		{"a, b", 1, api.ErrForm},
		// value.Parse's error
		{"007", 0, api.ErrForm},
		{"a + 00", 4, api.ErrForm},
		{"9223372036854775808", 0, api.ErrOver},
		{"-9223372036854775808", 1, api.ErrOver},
		{`1 + "x`, 4, api.ErrShort},
		{`"`, 0, api.ErrShort},
		{`"\41"`, 0, api.ErrForm},
		{"\"\n\"", 0, api.ErrForm},
		{`-"` + times(65, "a") + `"`, 1, api.ErrLong},
		// too long a word
		{times(17, "a"), 0, api.ErrName},
		{"a + true" + times(13, "-"), 4, api.ErrName},
		{"has(" + times(17, "a") + ")", 4, api.ErrName},
		// the text ends
		{"", 0, api.ErrShort},
		{"   ", 3, api.ErrShort},
		{"1 +", 3, api.ErrShort},
		{"1 + ", 4, api.ErrShort},
		{"-", 1, api.ErrShort},
		{"!", 1, api.ErrShort},
		{"(", 1, api.ErrShort},
		{"(a", 2, api.ErrShort},
		{"(a  ", 4, api.ErrShort},
		{"((a)", 4, api.ErrShort},
		{"(a + b", 6, api.ErrShort},
		{"has", 3, api.ErrShort},
		{"has(", 4, api.ErrShort},
		{"has(a", 5, api.ErrShort},
		{"len", 3, api.ErrShort},
		{"len(", 4, api.ErrShort},
		{"len(a", 5, api.ErrShort},
		{"len(a +", 7, api.ErrShort},
		{"a && ", 5, api.ErrShort},
		// what cannot stand there
		{"1 2", 2, api.ErrForm},
		{"12a", 2, api.ErrForm},
		{"a b", 2, api.ErrForm},
		{"a true", 2, api.ErrForm},
		{`a "b"`, 2, api.ErrForm},
		{"a has(b)", 2, api.ErrForm},
		{"a len(b)", 2, api.ErrForm},
		{"a (b)", 2, api.ErrForm},
		{"a(b)", 1, api.ErrForm},
		{"a !b", 2, api.ErrForm},
		{"(a)(b)", 3, api.ErrForm},
		{"+1", 0, api.ErrForm},
		{"* a", 0, api.ErrForm},
		{"a + + b", 4, api.ErrForm},
		{"a || && b", 5, api.ErrForm},
		{"-*a", 1, api.ErrForm},
		{")", 0, api.ErrForm},
		{"a)", 1, api.ErrForm},
		{"(a))", 3, api.ErrForm},
		{"()", 1, api.ErrForm},
		{"(a +)", 4, api.ErrForm},
		{"-)", 1, api.ErrForm},
		{"has a", 4, api.ErrForm},
		{"has)", 3, api.ErrForm},
		{"has + 1", 4, api.ErrForm},
		{"has()", 4, api.ErrForm},
		{"has(1)", 4, api.ErrForm},
		{"has(true)", 4, api.ErrForm},
		{`has("a")`, 4, api.ErrForm},
		{"has(has)", 4, api.ErrForm},
		{"has(len)", 4, api.ErrForm},
		{"has((a))", 4, api.ErrForm},
		{"has(-a)", 4, api.ErrForm},
		{"has(a + b)", 6, api.ErrForm},
		{"has(a b)", 6, api.ErrForm},
		{"has(a(", 5, api.ErrForm},
		{"len a", 4, api.ErrForm},
		{"len -a", 4, api.ErrForm},
		{"len)", 3, api.ErrForm},
		{"len()", 4, api.ErrForm},
		{"len(a b)", 6, api.ErrForm},
		{"len has(a)", 4, api.ErrForm},
		// of the third strength none follows another one
		{"a < b < c", 6, api.ErrForm},
		{"a == b != c", 7, api.ErrForm},
		{"1 <2!=true", 4, api.ErrForm},
		{"a + 1 <= b * 2 >= c", 15, api.ErrForm},
		{"a && b < c > d", 11, api.ErrForm},
		{"(a < b == c)", 7, api.ErrForm},
		{"a == -b == c", 8, api.ErrForm},
		// from the left, and of one token what is named first
		{"1 2 #", 2, api.ErrForm},
		{"1 + 2)  \"x", 5, api.ErrForm},
		{"1 99999999999999999999", 2, api.ErrOver},
		{`a "b`, 2, api.ErrShort},
		{"a " + times(17, "b"), 2, api.ErrName},
		{"has(99999999999999999999)", 4, api.ErrOver},
		{"has 99999999999999999999", 4, api.ErrOver},
		{`(a "b`, 3, api.ErrShort},
		{"a < b < " + times(17, "c"), 6, api.ErrForm},
		{times(17, "a") + " #", 0, api.ErrName},
	} {
		for range 2 { // R5
			isNotParsed(t, x.s, x.at, x.err)
		}
	}
}

// P5.1: brackets and signs of one, up to MaxDeep and beyond.
func TestParseDeep(t *testing.T) {
	neg := func(n int, e ...api.Term) []api.Term {
		return append(e, slices.Repeat(list(do(api.OpNeg)), n)...)
	}
	isParsed(t, times(12, "(")+"1"+times(12, ")"), list(num(1)))
	isParsed(t, times(12, "-")+"1", neg(12, num(1)))
	isParsed(t, times(6, "-(")+"1"+times(6, ")"), neg(6, num(1)))
	isParsed(t, times(12, "len(")+"a"+times(12, ")"), append(list(of("a")), slices.Repeat(list(do(api.OpLen)), 12)...))
	isParsed(t, times(11, "(")+"has(a)"+times(11, ")"), list(got("a")))
	isParsed(t, times(11, "-")+"has(a)", neg(11, got("a")))
	isParsed(t, times(12, "(")+"1-1"+times(12, ")"), list(num(1), num(1), do(api.OpSub))) // of two, it is not one of these
	// what is closed counts no more
	isParsed(t, times(12, "-")+"1+"+times(12, "-")+"2", append(append(neg(12, num(1)), neg(12, num(2))...), do(api.OpAdd)))
	isParsed(t, times(12, "(")+"1"+times(12, ")")+"+"+times(12, "-")+"2", append(neg(12, num(1), num(2)), do(api.OpAdd)))
	isParsed(t, times(11, "(")+"-1-(2)-has(a)"+times(11, ")"), list(num(1), do(api.OpNeg), num(2), do(api.OpSub), got("a"), do(api.OpSub)))
	isParsed(t, "-("+times(10, "(")+"1"+times(10, ")")+"-"+times(10, "-")+"2)", append(neg(10, num(1), num(2)), do(api.OpSub), do(api.OpNeg)))
	for _, x := range []struct {
		s   string
		at  int
		err api.Errno
	}{
		{times(13, "(") + "1" + times(13, ")"), 12, api.ErrDeep},
		{times(13, "(") + ")", 12, api.ErrDeep},
		{times(100, "("), 12, api.ErrDeep},
		{times(13, "-") + "1", 12, api.ErrDeep},
		{times(13, "!"), 12, api.ErrDeep},
		{times(13, " !"), 25, api.ErrDeep},
		{times(12, "-") + "(1)", 12, api.ErrDeep},
		{times(12, "(") + "-1", 12, api.ErrDeep},
		{times(12, "-") + "has(a)", 15, api.ErrDeep},
		{times(12, "(") + "len(a)", 15, api.ErrDeep},
		{times(13, "len(") + "a", 51, api.ErrDeep},
		{times(12, "(") + "1 + -2", 16, api.ErrDeep},
		{times(12, "(") + "1) + -(2)", 18, api.ErrDeep},
		// what is no token is told ahead of that, and what cannot stand there at all would not be open
		{times(12, "(") + "has #", 16, api.ErrForm},
		{times(12, "(") + "1(", 13, api.ErrForm},
		{times(12, "(") + "1!", 13, api.ErrForm},
		{times(11, "(") + "has((", 15, api.ErrForm},
	} {
		isNotParsed(t, x.s, x.at, x.err)
	}
}

// P5.1: how many bytes, and how many terms.
func TestParseLong(t *testing.T) {
	isParsed(t, "a"+times(127, " "), list(of("a")))
	isNotParsed(t, "a"+times(128, " "), -1, api.ErrLong)
	isNotParsed(t, times(129, "#"), -1, api.ErrLong)
	isNotParsed(t, times(1<<16, "("), -1, api.ErrLong)
	isNotParsed(t, times(128, "#"), 0, api.ErrForm)
	isNotParsed(t, "a"+times(126, " ")+"+", 128, api.ErrShort)
	// 40 terms, and 41
	sums := func(n int) []api.Term {
		e := list(num(1))
		for range n {
			e = append(e, num(1), do(api.OpAdd))
		}
		return e
	}
	isParsed(t, "1"+times(19, "+1"), sums(19))
	isParsed(t, "-(1"+times(19, "+1")+")", append(sums(19), do(api.OpNeg)))
	isNotParsed(t, "1"+times(20, "+1"), -1, api.ErrLong)
	isNotParsed(t, "1"+times(63, "+1"), -1, api.ErrLong)
	isNotParsed(t, "--(1"+times(19, "+1")+")", -1, api.ErrLong)
	// other errors are told ahead of that
	isNotParsed(t, "1"+times(60, "+1")+"+", 122, api.ErrShort)
	isNotParsed(t, "1"+times(60, "+1")+" 1", 122, api.ErrForm)
}

// P5.1: each two signs of two.
func TestParseSigns(t *testing.T) {
	for i, ones := range levels {
		for j, others := range levels {
			for _, x := range ones {
				for _, y := range others {
					s := "a " + x + " b " + y + " c"
					switch {
					case i == 2 && j == 2:
						isNotParsed(t, s, len("a "+x+" b "), api.ErrForm)
					case i >= j:
						isParsed(t, s, list(of("a"), of("b"), do(ops[x]), of("c"), do(ops[y])))
					default:
						isParsed(t, s, list(of("a"), of("b"), of("c"), do(ops[y]), do(ops[x])))
					}
					isParsed(t, "(a "+x+" b)"+y+"c", list(of("a"), of("b"), do(ops[x]), of("c"), do(ops[y])))
					isParsed(t, "a "+x+"(b "+y+"c)", list(of("a"), of("b"), of("c"), do(ops[y]), do(ops[x])))
				}
			}
		}
	}
}

// P5.1: each byte, where a value may stand, where a sign may stand, and in a word.
func TestParseByteByByte(t *testing.T) {
	parsed := 0
	for c := range 256 {
		b := string([]byte{byte(c)})
		for _, s := range []string{b, "a " + b, "a" + b, "a " + b + " b", b + " a", "1" + b + "1", "has(" + b + ")", "has" + b + "a)", "a " + b + "= b"} {
			if isAsTold(t, s) {
				parsed++
			}
		}
	}
	if parsed < 100 {
		t.Errorf("%d are parsed", parsed)
	}
}

// P5.1: all short texts of these pieces.
func TestParseShortTexts(t *testing.T) {
	parsed := 0
	for _, x := range []struct {
		long   int
		pieces []string
	}{
		{6, []string{"a", "(", ")", "-", "!", "<", "+"}},
		{5, []string{"1", "has", "len", "(", ")", " a", " "}},
		{5, []string{"<", ">", "=", "!", "&", "|", "a"}},
		{4, []string{"a", " ", "0", `"`, `\`, "-", "true", "*", "&&", "==", "#", "99999999999", "(", ")"}},
	} {
		textsOf(x.long, x.pieces, func(s string) {
			if isAsTold(t, s) {
				parsed++
			}
		})
	}
	if parsed < 1000 {
		t.Errorf("%d are parsed", parsed)
	}
}

// P5.1: long texts, most of them broken at one place.
func TestParseLongTexts(t *testing.T) {
	r := rand.New(rand.NewSource(5))
	parsed := 0
	for range 30000 {
		s, _ := loose(r, tree(r, 1+r.Intn(14)))
		if at := r.Intn(3 * len(s)); at < len(s) {
			pieces := []string{"", "(", ")", "-", "!", " ", "a", "1", "<", "has", "#", `"`, ") (", "-(", "&&"}
			s = s[:at] + pieces[r.Intn(len(pieces))] + s[at+r.Intn(2):]
		}
		if isAsTold(t, s) {
			parsed++
		}
	}
	if parsed < 5000 {
		t.Errorf("%d are parsed", parsed)
	}
}

// R4
func TestParsedTermsAreNotShared(t *testing.T) {
	one, _ := expr.Parse("a + 1")
	other, _ := expr.Parse("a + 1")
	for i := range one {
		one[i] = of("z")
	}
	_ = append(one[:1], of("y"), of("y"), of("y"))
	if want := list(of("a"), num(1), do(api.OpAdd)); !slices.Equal(other, want) {
		t.Errorf("what was parsed is %v now", other)
	}
	isParsed(t, "a + 1", list(of("a"), num(1), do(api.OpAdd)))
	_, err := expr.Parse("1 +")
	err.(*fault.Fault).Place = "elsewhere"
	isNotParsed(t, "1 +", 3, api.ErrShort)
}
