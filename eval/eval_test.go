package eval_test

import (
	"math"
	"math/rand"
	"slices"
	"testing"

	"conductor/api"
	"conductor/eval"
	"conductor/fault"
	"conductor/value"
)

// at is an error with the place.
func at(place string, err error) error { return fault.Wrap(place, err) }

// P6.3: texts of expressions, and what they come to with the fuel 100.
func TestEval(t *testing.T) {
	for s, want := range map[string]told{
		"1":              {num(1), 99, nil},
		"a + 1":          {num(8), 97, nil},
		"a - b":          {num(9), 97, nil},
		"b - a":          {num(-9), 97, nil},
		"a / b":          {num(-3), 97, nil},
		"a % b":          {num(1), 97, nil},
		"b % a":          {num(-2), 97, nil},
		"-min":           {api.Value{}, 98, api.ErrOver},
		"min / -1":       {api.Value{}, 96, api.ErrOver},
		"min % -1":       {num(0), 96, nil},
		"max + 1 - 1":    {api.Value{}, 97, api.ErrOver},
		"max - 1 + 1":    {num(math.MaxInt64), 95, nil},
		"1 / 0":          {api.Value{}, 97, api.ErrZero},
		`"a" < 1`:        {api.Value{}, 97, api.ErrKind},
		`s + "c"`:        {txt("abc"), 97, nil},
		`"c" + s`:        {txt("cab"), 97, nil},
		"len(s) * a":     {num(14), 96, nil},
		"!t":             {no, 98, nil},
		"!u":             {no, 98, nil},
		"a < 8 && t":     {yes, 95, nil},
		"s":              {txt("ab"), 99, nil},
		"u":              {api.Value{Kind: api.VkBool, N: 2}, 99, nil},
		"x":              {api.Value{}, 99, nil},
		"x == x":         {yes, 97, nil},
		"x < x":          {api.Value{}, 97, api.ErrKind},
		"has(a)":         {yes, 99, nil},
		"has(x)":         {yes, 99, nil},
		"has(none)":      {no, 99, nil},
		"none":           {api.Value{}, 99, at("none", api.ErrUnset)},
		"1 + none":       {api.Value{}, 98, at("none", api.ErrUnset)},
		"none + more":    {api.Value{}, 99, at("none", api.ErrUnset)},
		"1 / 0 + none":   {api.Value{}, 97, api.ErrZero},
		"none + 1 / 0":   {api.Value{}, 99, at("none", api.ErrUnset)},
		"true || none":   {api.Value{}, 98, at("none", api.ErrUnset)},
		"false && 1 / 0": {api.Value{}, 96, api.ErrZero},
		"true || 1":      {api.Value{}, 97, api.ErrKind},
	} {
		isTellsOf(t, terms(t, s), some(), 100, want)
	}
}

// P6.3: what get's errors come to.
func TestErrorsOfGet(t *testing.T) {
	for s, want := range map[string]told{
		"need":            {api.Value{}, 99, at("need", fault.Ask("lo", "hi"))},
		"has(need)":       {api.Value{}, 99, at("need", fault.Ask("lo", "hi"))},
		"a + need":        {api.Value{}, 98, at("need", fault.Ask("lo", "hi"))},
		"far":             {api.Value{}, 99, at("far", at("there", at("here", api.ErrNone)))},
		"!has(far)":       {api.Value{}, 99, at("far", at("there", at("here", api.ErrNone)))},
		"other":           {api.Value{}, 99, at("other", errOutside)},
		"has(other)":      {api.Value{}, 99, at("other", errOutside)},
		"other == far":    {api.Value{}, 99, at("other", errOutside)},
		"far == other":    {api.Value{}, 99, at("far", at("there", at("here", api.ErrNone)))},
		"1 / 0 < need":    {api.Value{}, 97, api.ErrZero},
		"none < need":     {api.Value{}, 99, at("none", api.ErrUnset)},
		"has(none) < 1":   {api.Value{}, 97, api.ErrKind},
		"panics":          {api.Value{}, 99, at("panics", api.ErrOther)},
		"1 - has(panics)": {api.Value{}, 98, at("panics", api.ErrOther)},
		"gone":            {api.Value{}, 99, at("gone", api.ErrUnset)},
		"has(gone)":       {no, 99, nil},
		"hostile":         {api.Value{}, 99, at("hostile", api.ErrOther)},
		"has(hostile)":    {api.Value{}, 99, at("hostile", api.ErrOther)},
		// whoever has ErrFuel has not taken his one
		"dry":          {api.Value{}, 100, at("dry", at("well", api.ErrFuel))},
		"1 + has(dry)": {api.Value{}, 99, at("dry", at("well", api.ErrFuel))},
	} {
		isTold(t, terms(t, s), moody, 100, want)
	}
	_, _, err := eval.Eval(terms(t, "other"), moody, 9)
	if f, is := err.(*fault.Fault); !is || f.Place != "other" || f.Err != errOutside {
		t.Errorf("get's error comes back as %#v", err)
	}
}

// P6.3, P1: get is not there.
func TestNoGet(t *testing.T) {
	for s, want := range map[string]told{
		"1 + 2":  {num(3), 6, nil},
		"a":      {api.Value{}, 8, at("a", api.ErrUnset)},
		"has(a)": {no, 8, nil},
	} {
		isTold(t, terms(t, s), nil, 9, want)
		isTellsOf(t, terms(t, s), nil, 9, want)
	}
}

// P6.3: Check's error is told first, and takes no fuel; get is not asked.
func TestErrorsOfCheck(t *testing.T) {
	get := func(string) (api.Value, bool, error) {
		t.Error("get is asked")
		return num(1), true, errOutside
	}
	long := slices.Repeat(list(of("a")), 41)
	deep := append(list(of("a")), slices.Repeat(list(do(api.OpNeg)), 13)...)
	for _, x := range []struct {
		e   []api.Term
		err api.Errno
	}{
		{nil, api.ErrShort},
		{list(), api.ErrShort},
		{list(of("a"), do(api.OpAdd)), api.ErrShort},
		{list(of("a"), of("b")), api.ErrForm},
		{list(val(num(1)), val(num(0)), do(api.OpDiv), do(19)), api.ErrArg},
		{list(of("a"), do(-1)), api.ErrArg},
		{list(val(num(-1))), api.ErrArg},
		{list(of("a"), of("A"), do(api.OpAdd)), api.ErrName},
		{list(got("len")), api.ErrName},
		{list(val(api.Value{})), api.ErrKind},
		{list(val(txt(times(65, "a")))), api.ErrLong},
		{long, api.ErrLong},
		{deep, api.ErrDeep},
	} {
		for _, fuel := range []int{100, 1, 0, -1, math.MinInt, math.MaxInt} {
			isTold(t, x.e, get, fuel, told{left: max(fuel, 0), err: x.err})
			isTellsOf(t, x.e, some(), fuel, told{left: max(fuel, 0), err: x.err})
		}
	}
}

// P6.3: get is asked of each variable as its term is gone over, as often as it stands there, and no more behind an error.
func TestGetIsAskedInOrder(t *testing.T) {
	for _, x := range []struct {
		s    string
		fuel int
		want []string
	}{
		{"1 + 2", 9, nil},
		{"a", 9, []string{"a"}},
		{"b + a", 9, []string{"b", "a"}},
		{"a + b * a", 9, []string{"a", "b", "a"}},
		{"has(b) || b == a || has(b)", 9, []string{"b", "b", "a", "b"}},
		{"t || a < b", 9, []string{"t", "a", "b"}},
		{"a + none + b", 9, []string{"a", "none"}},
		{"has(none) && t", 9, []string{"none", "t"}},
		{"need + b", 9, []string{"need"}},
		{"1 / 0 + b", 9, nil},
		{"!a && b", 9, []string{"a"}},
		{"a + b", 3, []string{"a", "b"}},
		{"a + b", 2, []string{"a", "b"}},
		{"a + b", 1, []string{"a"}},
		{"a + b", 0, nil},
		{"a + b", -1, nil},
		{"has(a)", 0, nil},
	} {
		var asked []string
		get := func(name string) (api.Value, bool, error) {
			asked = append(asked, name)
			return moody(name)
		}
		if eval.Eval(terms(t, x.s), get, x.fuel); !slices.Equal(asked, x.want) {
			t.Errorf("%s asks %q, want %q", x.s, asked, x.want)
		}
		asked = nil
		if eval.Test(terms(t, x.s), get, x.fuel); !slices.Equal(asked, x.want) {
			t.Errorf("Test of %s asks %q, want %q", x.s, asked, x.want)
		}
	}
}

// P6.3: what get tells may change from one time to the next, and get may evaluate, too.
func TestGetIsAskedEachTime(t *testing.T) {
	n := int64(0)
	count := func(string) (api.Value, bool, error) {
		n++
		v, _, err := eval.Of(terms(t, "n * n"), []api.Var{{Name: "n", V: value.Int(n)}}, 9)
		return v, n < 4, err
	}
	if v, left, err := eval.Eval(terms(t, "a - a + a"), count, 9); v != num(1-4+9) || left != 4 || err != nil {
		t.Errorf("a - a + a is %v, %d, %s", v, left, fault.Text(err))
	}
	if v, left, err := eval.Eval(terms(t, "has(a)"), count, 9); v != no || left != 8 || err != nil {
		t.Errorf("has(a) is %v, %d, %s", v, left, fault.Text(err))
	}
}

// P6.3, P1: what was checked is what is gone over, even if get changes the terms.
func TestGetChangesTheTerms(t *testing.T) {
	e := terms(t, "a + 1 - 1")
	get := func(string) (api.Value, bool, error) {
		for i := range e {
			e[i] = do(api.OpSub)
		}
		return num(5), true, nil
	}
	if v, left, err := eval.Eval(e, get, 9); v != num(5) || left != 4 || err != nil {
		t.Errorf("a + 1 - 1 is %v, %d, %s", v, left, fault.Text(err))
	}
}

// P6.3: Test tells truths alone.
func TestTest(t *testing.T) {
	for s, want := range map[string]struct {
		is   bool
		left int
		err  error
	}{
		"t":          {true, 8, nil},
		"!t":         {false, 7, nil},
		"u":          {true, 8, nil},
		"has(a)":     {true, 8, nil},
		"has(none)":  {false, 8, nil},
		"a < b":      {false, 6, nil},
		"a > b":      {true, 6, nil},
		"a":          {false, 8, api.ErrKind},
		"s":          {false, 8, api.ErrKind},
		"x":          {false, 8, api.ErrKind},
		"a + 1":      {false, 6, api.ErrKind},
		"none":       {false, 8, at("none", api.ErrUnset)},
		"has(need)":  {false, 8, at("need", fault.Ask("lo", "hi"))},
		"1 < 2 && 3": {false, 4, api.ErrKind},
		"dry":        {false, 9, at("dry", at("well", api.ErrFuel))},
	} {
		is, left, err := eval.Test(terms(t, s), moody, 9)
		if is != want.is || left != want.left || !sameError(err, want.err) {
			t.Errorf("%s is %t, %d, %q; want %t, %d, %q", s, is, left, fault.Text(err), want.is, want.left, fault.Text(want.err))
		}
	}
	get := func(n int64) getter {
		return func(string) (api.Value, bool, error) { return api.Value{Kind: api.VkBool, N: n}, true, nil }
	}
	for _, n := range numbers() {
		if is, _, err := eval.Test(list(of("a")), get(n), 1); is != (n != 0) || err != nil {
			t.Errorf("the truth %d is %t, %s", n, is, fault.Text(err))
		}
	}
}

// P6.3: of several variables of one name value.Get's is the one, and none needs to be right.
func TestOf(t *testing.T) {
	vars := []api.Var{{Name: "b", V: num(1)}, {Name: "a", V: num(2)}, {Name: "b", V: num(3)}, {Name: "A", V: num(4)}, {V: num(5)}}
	isTellsOf(t, terms(t, "a - b"), vars, 9, told{num(1), 6, nil})
	isTellsOf(t, terms(t, "has(c)"), vars, 9, told{no, 8, nil})
	isTellsOf(t, terms(t, "b == b"), nil, 9, told{api.Value{}, 8, at("b", api.ErrUnset)})
	isTellsOf(t, terms(t, "b"), []api.Var{}, 9, told{api.Value{}, 8, at("b", api.ErrUnset)})
}

// P6.1 to P6.3: long ones, beside the model.
func TestEvalOfMany(t *testing.T) {
	r := rand.New(rand.NewSource(1))
	var well int
	seen := map[api.Errno]int{}
	for range 20000 {
		e := whole(r, 1+r.Intn(30), 1+r.Intn(3))
		fuel := 100
		if r.Intn(4) == 0 {
			fuel = r.Intn(len(e)+2) - 1
		}
		isAsModelled(t, e, fuel)
		endAtFirst(t)
		_, _, err := eval.Eval(e, moody, fuel)
		if err == nil && len(e) > 4 {
			well++
		}
		seen[fault.Code(err)]++
	}
	if well < 2000 {
		t.Errorf("%d come to something", well)
	}
	for _, code := range []api.Errno{api.ErrKind, api.ErrOver, api.ErrZero, api.ErrUnset, api.ErrFuel, api.ErrNone, api.ErrOther} {
		if seen[code] < 20 {
			t.Errorf("%d have the error %d", seen[code], code)
		}
	}
}

// isAsModelled tells unless terms come to what the model says, and ask what it asks.
func isAsModelled(t *testing.T, e []api.Term, fuel int) {
	t.Helper()
	want, names := wanted(e, moody, fuel)
	isTold(t, e, moody, fuel, want)
	var asked []string
	eval.Eval(e, func(name string) (api.Value, bool, error) {
		asked = append(asked, name)
		return moody(name)
	}, fuel)
	if !slices.Equal(asked, names) {
		t.Errorf("%v asks %q, want %q", e, asked, names)
	}
}
