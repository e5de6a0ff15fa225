package pack_test

import (
	"bytes"
	"encoding/binary"
	"math"
	"strings"
	"testing"

	"conductor/pack"
)

// edges are numbers at which the count of bytes changes, and those beside them.
func edges() []uint64 {
	l := []uint64{0, 1, 2, 3, 300, 12345, math.MaxInt64, math.MaxInt64 + 1, math.MaxUint64 - 1, math.MaxUint64}
	for bit := range 64 {
		n := uint64(1) << bit
		l = append(l, n-1, n, n+1)
	}
	return l
}

// signed are numbers on both sides of 0, out to the last ones.
func signed() []int64 {
	l := []int64{math.MinInt64, math.MinInt64 + 1, math.MaxInt64 - 1, math.MaxInt64}
	for _, n := range edges() {
		l = append(l, int64(n), -int64(n))
	}
	return l
}

// texts are of bytes of all kinds, and of lengths at which the count of the length's bytes changes.
func texts() []string {
	l := []string{"", "a", "ab", "\x00", "\xff\x80\x00", "é"}
	for _, n := range []int{126, 127, 128, 129, 16383, 16384, 16385} {
		l = append(l, strings.Repeat("x", n))
	}
	return l
}

// P1.1
func TestJoinLaysPartsBehindOneAnother(t *testing.T) {
	for _, x := range []struct {
		parts [][]byte
		want  string
	}{
		{nil, ""},
		{[][]byte{nil}, ""},
		{[][]byte{{}, nil, {}}, ""},
		{[][]byte{{1, 2}}, "\x01\x02"},
		{[][]byte{{1}, nil, {2, 3}, {}, {1}}, "\x01\x02\x03\x01"},
	} {
		if got := pack.Join(x.parts...); string(got) != x.want {
			t.Errorf("Join(%v) = %x, want %x", x.parts, got, x.want)
		}
	}
}

// P1.1, R4
func TestJoinIsNewMemory(t *testing.T) {
	a, b := []byte{1, 2, 0, 0}, []byte{3}
	parts := [][]byte{a[:2], b}
	joined := pack.Join(parts...)
	one := pack.Join(a)
	for i := range joined {
		joined[i] = 9
	}
	one[0] = 9
	if !bytes.Equal(a, []byte{1, 2, 0, 0}) || !bytes.Equal(b, []byte{3}) {
		t.Error("a part changed with what was joined", a, b)
	}
	again := pack.Join(parts...)
	a[0], b[0] = 7, 7
	if !bytes.Equal(again, []byte{1, 2, 3}) {
		t.Error("what was joined changed with a part", again)
	}
}

// P1.1
func TestUintIsWritten(t *testing.T) {
	for _, x := range []struct {
		n    uint64
		want string
	}{
		{0, "\x00"},
		{1, "\x01"},
		{127, "\x7f"},
		{128, "\x80\x01"},
		{300, "\xac\x02"},
		{16383, "\xff\x7f"},
		{16384, "\x80\x80\x01"},
		{math.MaxInt64, "\xff\xff\xff\xff\xff\xff\xff\xff\x7f"},
		{1 << 63, "\x80\x80\x80\x80\x80\x80\x80\x80\x80\x01"},
		{math.MaxUint64, "\xff\xff\xff\xff\xff\xff\xff\xff\xff\x01"},
	} {
		if got := pack.Uint(x.n); string(got) != x.want {
			t.Errorf("Uint(%d) = %x, want %x", x.n, got, x.want)
		}
	}
	for _, n := range edges() {
		if got, want := pack.Uint(n), binary.AppendUvarint(nil, n); !bytes.Equal(got, want) {
			t.Errorf("Uint(%d) = %x, want %x", n, got, want)
		}
	}
}

// P1.1
func TestIntIsWritten(t *testing.T) {
	for _, x := range []struct {
		n    int64
		want uint64
	}{
		{0, 0}, {-1, 1}, {1, 2}, {-2, 3}, {2, 4}, {63, 126}, {-64, 127}, {64, 128}, {-65, 129},
		{math.MaxInt64, math.MaxUint64 - 1}, {math.MinInt64, math.MaxUint64},
	} {
		if got, want := pack.Int(x.n), pack.Uint(x.want); !bytes.Equal(got, want) {
			t.Errorf("Int(%d) = %x, want %x", x.n, got, want)
		}
	}
	for _, n := range signed() {
		if got, want := pack.Int(n), binary.AppendVarint(nil, n); !bytes.Equal(got, want) {
			t.Errorf("Int(%d) = %x, want %x", n, got, want)
		}
	}
}

// P1.1
func TestTextIsWritten(t *testing.T) {
	if got := pack.Text("ab"); string(got) != "\x02ab" {
		t.Errorf("Text(ab) = %x", got)
	}
	if got := pack.Text(""); string(got) != "\x00" {
		t.Errorf("Text() = %x", got)
	}
	for _, s := range texts() {
		want := append(binary.AppendUvarint(nil, uint64(len(s))), s...)
		if got := pack.Text(s); !bytes.Equal(got, want) {
			t.Errorf("Text of %d bytes = %x", len(s), got)
		}
	}
}

// P1.1, R4
func TestWhatIsWrittenIsNewMemory(t *testing.T) {
	for _, write := range []func() []byte{
		func() []byte { return pack.Uint(5) },
		func() []byte { return pack.Int(-1 << 40) },
		func() []byte { return pack.Text("ab") },
	} {
		first := write()
		want := string(first)
		for i := range first {
			first[i] ^= 0xff
		}
		if got := write(); string(got) != want {
			t.Errorf("written again %x, want %x", got, want)
		}
	}
}
