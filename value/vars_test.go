package value_test

import (
	"slices"
	"strings"
	"testing"

	"conductor/api"
	"conductor/value"
)

// named gives a variable of each name, in order.
func named(names ...string) []api.Var {
	var l []api.Var
	for i, name := range names {
		l = append(l, api.Var{Name: name, V: value.Int(int64(i))})
	}
	return l
}

// P4.4
func TestVars(t *testing.T) {
	wrongKind, wrongText, wrongTruth := api.Value{}, value.Text(tooLong), api.Value{Kind: api.VkBool, N: 2}
	for _, x := range []struct {
		l   []api.Var
		err api.Errno
	}{
		{nil, api.OK},
		{[]api.Var{}, api.OK},
		{named("a"), api.OK},
		{named("a", "b"), api.OK},
		{named("a", "a0", "aa", "b-", "b0", "c"), api.OK},
		{named("a", "b", "c", "d", "e", "f", "g", "h"), api.OK},
		{[]api.Var{{Name: "a", V: value.Bool(true)}, {Name: "b", V: value.Text(longest)}, {Name: "c", V: value.Int(-1)}}, api.OK},
		// too many, whatever they are
		{named("a", "b", "c", "d", "e", "f", "g", "h", "i"), api.ErrLong},
		{named("", "b", "c", "d", "e", "f", "g", "h", "i"), api.ErrLong},
		{make([]api.Var, 9), api.ErrLong},
		{make([]api.Var, 1000), api.ErrLong},
		// no name
		{named(""), api.ErrName},
		{named("A"), api.ErrName},
		{named("a", "9"), api.ErrName},
		{named("a", "b_"), api.ErrName},
		{named("a", strings.Repeat("b", 17)), api.ErrName},
		{named(strings.Repeat("b", 16)), api.OK},
		{make([]api.Var, 8), api.ErrName},
		// not above the one ahead
		{named("b", "a"), api.ErrForm},
		{named("a", "a"), api.ErrForm},
		{named("a", "c", "b"), api.ErrForm},
		{named("aa", "a"), api.ErrForm},
		{named("a", "b", "a"), api.ErrForm},
		// no right value
		{[]api.Var{{Name: "a", V: wrongKind}}, api.ErrKind},
		{[]api.Var{{Name: "a", V: wrongText}}, api.ErrLong},
		{[]api.Var{{Name: "a", V: wrongTruth}}, api.ErrArg},
		{append(named("a"), api.Var{Name: "b", V: wrongText}), api.ErrLong},
		// one by one, and of one what is named first
		{[]api.Var{{Name: "a", V: wrongKind}, {Name: ""}}, api.ErrKind},
		{[]api.Var{{Name: "b", V: wrongTruth}, {Name: "a", V: wrongKind}}, api.ErrArg},
		{[]api.Var{{Name: "", V: wrongKind}, {Name: "a", V: wrongText}}, api.ErrName},
		{append(named("b"), api.Var{Name: "a", V: wrongKind}), api.ErrForm},
		{append(named("b"), api.Var{Name: "", V: wrongKind}), api.ErrName},
		{append(named("b"), api.Var{Name: "B"}), api.ErrName},
		{append(named("c", "b"), api.Var{Name: ""}), api.ErrForm},
	} {
		ahead := slices.Clone(x.l)
		for range 2 { // R5
			if err := value.Vars(x.l); err != x.err {
				t.Errorf("Vars(%v) = %d, want %d", x.l, err, x.err)
			}
		}
		if !slices.Equal(x.l, ahead) {
			t.Errorf("Vars(%v) leaves %v", ahead, x.l)
		}
	}
}

// P4.4
func TestSet(t *testing.T) {
	x := func(name string) api.Var { return api.Var{Name: name, V: value.Text("new")} }
	old := func(name string, n int64) api.Var { return api.Var{Name: name, V: value.Int(n)} }
	for _, c := range []struct {
		l    []api.Var
		name string
		want []api.Var
	}{
		{nil, "a", []api.Var{x("a")}},
		{[]api.Var{}, "a", []api.Var{x("a")}},
		{named("b"), "a", []api.Var{x("a"), old("b", 0)}},
		{named("b"), "b", []api.Var{x("b")}},
		{named("b"), "c", []api.Var{old("b", 0), x("c")}},
		{named("b", "d"), "c", []api.Var{old("b", 0), x("c"), old("d", 1)}},
		{named("b", "d"), "d", []api.Var{old("b", 0), x("d")}},
		{named("b", "d"), "ba", []api.Var{old("b", 0), x("ba"), old("d", 1)}},
		// in no order: ahead of the first one whose name is above it
		{named("d", "a"), "c", []api.Var{x("c"), old("d", 0), old("a", 1)}},
		{named("a", "d", "b", "e"), "c", []api.Var{old("a", 0), x("c"), old("d", 1), old("b", 2), old("e", 3)}},
		{named("d", "a"), "a", []api.Var{old("d", 0), x("a")}},
		// twice: the first one
		{named("a", "b", "a"), "a", []api.Var{x("a"), old("b", 1), old("a", 2)}},
		// what is no name, and more than may be handed in
		{named("a"), "", []api.Var{x(""), old("a", 0)}},
		{named("a\x00"), "a", []api.Var{x("a"), old("a\x00", 0)}},
		{named("a"), "\xff", []api.Var{old("a", 0), x("\xff")}},
		{named("a", "b", "c", "d", "e", "f", "g", "h"), "i", append(named("a", "b", "c", "d", "e", "f", "g", "h"), x("i"))},
	} {
		if got := value.Set(c.l, x(c.name)); !slices.Equal(got, c.want) {
			t.Errorf("Set(%v, %s) = %v, want %v", c.l, c.name, got, c.want)
		}
	}
	if got := value.Set(named("a"), api.Var{Name: "a"}); !slices.Equal(got, []api.Var{{Name: "a"}}) {
		t.Errorf("a value of no kind is set as %v", got)
	}
}

// P4.4
func TestGet(t *testing.T) {
	for _, x := range []struct {
		l    []api.Var
		name string
		n    int64
		is   bool
	}{
		{nil, "", 0, false},
		{nil, "a", 0, false},
		{[]api.Var{}, "a", 0, false},
		{named("a"), "a", 0, true},
		{named("a"), "", 0, false},
		{named("a"), "A", 0, false},
		{named("a"), "aa", 0, false},
		{named("aa"), "a", 0, false},
		{named("a", "b", "c"), "a", 0, true},
		{named("a", "b", "c"), "b", 1, true},
		{named("a", "b", "c"), "c", 2, true},
		{named("a", "b", "c"), "d", 0, false},
		{named("c", "b", "b", "a"), "b", 1, true},
		{named("c", "b", "b", "a"), "a", 3, true},
		{named("", ""), "", 0, true},
	} {
		want := api.Value{}
		if x.is {
			want = value.Int(x.n)
		}
		for range 2 { // R5
			if v, is := value.Get(x.l, x.name); v != want || is != x.is {
				t.Errorf("Get(%v, %s) = %v, %t", x.l, x.name, v, is)
			}
		}
	}
	if v, is := value.Get([]api.Var{{Name: "a", V: api.Value{Kind: 9, N: 9}}}, "a"); v != (api.Value{Kind: 9, N: 9}) || !is {
		t.Errorf("a value that is not right is got as %v, %t", v, is)
	}
}

// rises tells whether the names rise.
func rises(l []api.Var) bool {
	for i := 1; i < len(l); i++ {
		if l[i].Name <= l[i-1].Name {
			return false
		}
	}
	return true
}

// P4.7: what was set is got, and all others as they were; rising variables stay so.
func TestWhatIsSetIsGot(t *testing.T) {
	for _, l := range listsOf(4, "abcde") {
		for _, name := range []string{"", "a", "b", "c", "d", "e", "f", "ab"} {
			x := api.Var{Name: name, V: value.Bool(true)}
			set := value.Set(l, x)
			if v, is := value.Get(set, name); v != x.V || !is {
				t.Errorf("of %s in %v there is %v", name, set, v)
			}
			for _, other := range []string{"", "a", "b", "c", "d", "e", "f", "ab"} {
				v, is := value.Get(l, other)
				now, isNow := value.Get(set, other)
				if other != name && (now != v || isNow != is) {
					t.Errorf("of %s there was %v in %v, and is %v in %v", other, v, l, now, set)
				}
			}
			if rises(l) && !rises(set) {
				t.Errorf("%v becomes %v", l, set)
			}
			grown := 1
			if _, is := value.Get(l, name); is {
				grown = 0
			}
			if len(set) != len(l)+grown {
				t.Errorf("%v becomes %v", l, set)
			}
		}
	}
}

// P4.4, R4
func TestListsAreNotShared(t *testing.T) {
	room := append(make([]api.Var, 0, 10), named("b", "d", "f")...)
	for _, name := range []string{"a", "b", "c", "d", "e", "f", "g"} {
		for _, l := range [][]api.Var{room, room[:1], room[1:2]} {
			want := slices.Clone(l)
			set := value.Set(l, api.Var{Name: name, V: value.Bool(true)})
			again := value.Set(l, api.Var{Name: name, V: value.Bool(true)})
			kept := slices.Clone(again)
			for i := range set {
				set[i] = api.Var{Name: "z", V: value.Int(99)}
			}
			_ = append(set, named("y", "z")...)
			if !slices.Equal(l, want) || !slices.Equal(again, kept) || !slices.Equal(room, named("b", "d", "f")) {
				t.Errorf("%s is set in %v: now that is %v, and the other one %v", name, want, l, again)
			}
			if behind := room[:10]; behind[3] != (api.Var{}) {
				t.Errorf("behind the list stands %v", behind[3])
			}
		}
	}
}
