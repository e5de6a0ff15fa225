package value_test

import (
	"math"
	"slices"
	"strings"
	"testing"

	"conductor/api"
	"conductor/value"
)

var (
	longest = strings.Repeat("k", api.MaxText)
	tooLong = strings.Repeat("k", api.MaxText+1)
)

// P4.1
func TestMade(t *testing.T) {
	for _, x := range []struct{ got, want api.Value }{
		{value.Int(0), api.Value{Kind: api.VkInt}},
		{value.Int(7), api.Value{Kind: api.VkInt, N: 7}},
		{value.Int(math.MinInt64), api.Value{Kind: api.VkInt, N: math.MinInt64}},
		{value.Int(math.MaxInt64), api.Value{Kind: api.VkInt, N: math.MaxInt64}},
		{value.Bool(false), api.Value{Kind: api.VkBool}},
		{value.Bool(true), api.Value{Kind: api.VkBool, N: 1}},
		{value.Text(""), api.Value{Kind: api.VkText}},
		{value.Text("ab"), api.Value{Kind: api.VkText, S: "ab"}},
		{value.Text("\x00\xff"), api.Value{Kind: api.VkText, S: "\x00\xff"}},
		{value.Text(longest), api.Value{Kind: api.VkText, S: longest}},
		{value.Text(tooLong), api.Value{Kind: api.VkText, S: tooLong}},
	} {
		if x.got != x.want {
			t.Errorf("%v is made, want %v", x.got, x.want)
		}
	}
}

// P4.1
func TestRight(t *testing.T) {
	for _, x := range []struct {
		v   api.Value
		err api.Errno
	}{
		{api.Value{}, api.ErrKind},
		{api.Value{Kind: -1}, api.ErrKind},
		{api.Value{Kind: 4}, api.ErrKind},
		{api.Value{Kind: 257}, api.ErrKind},
		{api.Value{N: 1}, api.ErrKind},
		{api.Value{Kind: 4, S: tooLong}, api.ErrKind},
		{api.Value{Kind: 4, N: 1, S: "a"}, api.ErrKind},
		{value.Text(longest), api.OK},
		{value.Text(tooLong), api.ErrLong},
		{api.Value{Kind: api.VkText, N: 1, S: tooLong}, api.ErrLong},
		{api.Value{Kind: api.VkText, N: 1, S: longest}, api.ErrArg},
		{api.Value{Kind: api.VkText, N: 1}, api.ErrArg},
		{api.Value{Kind: api.VkText, N: -1, S: "a"}, api.ErrArg},
		{api.Value{Kind: api.VkInt, S: "a"}, api.ErrArg},
		{api.Value{Kind: api.VkInt, N: 5, S: "5"}, api.ErrArg},
		{api.Value{Kind: api.VkInt, S: tooLong}, api.ErrArg},
		{api.Value{Kind: api.VkBool, S: "a"}, api.ErrArg},
		{api.Value{Kind: api.VkBool, N: 1, S: "\x00"}, api.ErrArg},
		{api.Value{Kind: api.VkBool, S: tooLong}, api.ErrArg},
		{api.Value{Kind: api.VkBool, N: 2}, api.ErrArg},
		{api.Value{Kind: api.VkBool, N: -1}, api.ErrArg},
		{api.Value{Kind: api.VkBool, N: math.MinInt64}, api.ErrArg},
		{api.Value{Kind: api.VkBool, N: math.MaxInt64}, api.ErrArg},
		{api.Value{Kind: api.VkBool, N: 1 << 32}, api.ErrArg},
		{api.Value{Kind: api.VkBool, N: 1<<32 + 1}, api.ErrArg},
	} {
		if err := value.Right(x.v); err != x.err {
			t.Errorf("Right(%v) = %d, want %d", x.v, err, x.err)
		}
	}
}

// P4.1
func TestRightOfAny(t *testing.T) {
	for _, v := range rightValues() {
		if err := value.Right(v); err != api.OK {
			t.Errorf("Right(%v) = %d", v, err)
		}
	}
	for _, v := range anyValues() {
		for range 2 { // R5
			if err := value.Right(v); err != wrong(v) {
				t.Errorf("Right(%v) = %d, want %d", v, err, wrong(v))
			}
		}
	}
}

// P4.1
func TestCompare(t *testing.T) {
	rising := []api.Value{
		{Kind: -1, N: 9, S: "z"},
		{},
		{S: "a"},
		{N: 1},
		value.Int(math.MinInt64),
		value.Int(-2),
		value.Int(-1),
		value.Int(0),
		{Kind: api.VkInt, S: "z"},
		value.Int(1),
		value.Int(2),
		value.Int(10),
		value.Int(math.MaxInt64),
		value.Bool(false),
		value.Bool(true),
		{Kind: api.VkBool, N: 2},
		{Kind: api.VkText, N: -1, S: "z"},
		value.Text(""),
		value.Text("\x00"),
		value.Text("A"),
		value.Text("B"),
		value.Text("a"),
		value.Text("a\x00"),
		value.Text("aa"),
		value.Text("b"),
		value.Text("ä"),
		value.Text("\xff"),
		{Kind: api.VkText, N: 1},
		{Kind: 4},
		{Kind: 300},
	}
	for i, a := range rising {
		for j, b := range rising {
			want := 0
			if i < j {
				want = -1
			} else if i > j {
				want = 1
			}
			if got := value.Compare(a, b); got != want {
				t.Errorf("Compare(%v, %v) = %d, want %d", a, b, got, want)
			}
		}
	}
}

// P4.6
func TestCompareIsATotalOrder(t *testing.T) {
	all := slices.Concat(anyValues(), rightValues()[:60])
	slices.SortFunc(all, value.Compare)
	for i, a := range all {
		for j, b := range all {
			got := value.Compare(a, b)
			if got != -value.Compare(b, a) {
				t.Errorf("Compare of %v and %v is the same both ways", a, b)
			}
			if (got == 0) != (a == b) {
				t.Errorf("Compare(%v, %v) = %d", a, b, got)
			}
			if i < j && got > 0 || i > j && got < 0 { // one that goes round in a circle cannot be laid in order
				t.Errorf("in order %v stands at %d, %v at %d", a, i, b, j)
			}
		}
	}
}
