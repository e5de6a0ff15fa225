package value_test

import (
	"bytes"
	"math"
	"strings"
	"testing"

	"conductor/api"
	"conductor/value"
)

// isTaken tells unless v is at the front of b, with so many bytes.
func isTaken(t *testing.T, b []byte, v api.Value, size int) {
	t.Helper()
	ahead := bytes.Clone(b)
	for range 2 { // R5
		got, n, err := value.Take(b)
		if got != v || n != size || err != api.OK {
			t.Errorf("Take(%x) = %v, %d, %d; want %v of %d bytes", b, got, n, err, v, size)
		}
	}
	if !bytes.Equal(b, ahead) {
		t.Errorf("Take(%x) leaves %x", ahead, b)
	}
}

// isNotTaken tells unless b is refused with that error, without anything else.
func isNotTaken(t *testing.T, b []byte, err api.Errno) {
	t.Helper()
	if v, n, got := value.Take(b); v != (api.Value{}) || n != 0 || got != err {
		t.Errorf("Take(%x) = %v, %d, %d; want the error %d", b, v, n, got, err)
	}
}

// P4.2
func TestPut(t *testing.T) {
	for _, x := range []struct {
		v api.Value
		b string
	}{
		{value.Int(0), "\x01\x00"},
		{value.Int(-1), "\x01\x01"},
		{value.Int(1), "\x01\x02"},
		{value.Int(63), "\x01\x7e"},
		{value.Int(-64), "\x01\x7f"},
		{value.Int(64), "\x01\x80\x01"},
		{value.Int(150), "\x01\xac\x02"},
		{value.Int(math.MaxInt64), "\x01\xfe\xff\xff\xff\xff\xff\xff\xff\xff\x01"},
		{value.Int(math.MinInt64), "\x01\xff\xff\xff\xff\xff\xff\xff\xff\xff\x01"},
		{value.Bool(false), "\x02\x00"},
		{value.Bool(true), "\x02\x02"},
		{value.Text(""), "\x03\x00"},
		{value.Text("ab"), "\x03\x02ab"},
		{value.Text("\x00\xff"), "\x03\x02\x00\xff"},
		{value.Text(longest), "\x03\x40" + longest},
	} {
		if b := value.Put(x.v); string(b) != x.b {
			t.Errorf("Put(%v) = %x, want %x", x.v, b, x.b)
		}
		isTaken(t, []byte(x.b), x.v, len(x.b))
	}
}

// P4.2
func TestPutOfWhatIsNotRight(t *testing.T) {
	for _, v := range anyValues() {
		b := value.Put(v)
		if (len(b) == 0) != (wrong(v) != api.OK) {
			t.Errorf("Put(%v) = %x", v, b)
		}
	}
}

// P4.2
func TestTakeRefuses(t *testing.T) {
	for _, x := range []struct {
		b   string
		err api.Errno
	}{
		{"", api.ErrShort},
		// no kind
		{"\x00", api.ErrKind},
		{"\x00\x00", api.ErrKind},
		{"\x04", api.ErrKind},
		{"\x04\x00", api.ErrKind},
		{"\xff\x80", api.ErrKind},
		{"1", api.ErrKind},
		// pack's errors of a number
		{"\x01", api.ErrShort},
		{"\x01\x80", api.ErrShort},
		{"\x01\x80\x00", api.ErrForm},
		{"\x01\xff\xff\xff\xff\xff\xff\xff\xff\xff\x02", api.ErrOver},
		{"\x02", api.ErrShort},
		{"\x02\xff", api.ErrShort},
		{"\x02\x82\x00", api.ErrForm},
		{"\x02\xff\xff\xff\xff\xff\xff\xff\xff\xff\x80", api.ErrOver},
		// neither 0 nor 1
		{"\x02\x01", api.ErrArg},
		{"\x02\x03", api.ErrArg},
		{"\x02\x04", api.ErrArg},
		{"\x02\x80\x01", api.ErrArg},
		{"\x02\xff\xff\xff\xff\xff\xff\xff\xff\xff\x01", api.ErrArg},
		// pack's errors of a text
		{"\x03", api.ErrShort},
		{"\x03\x01", api.ErrShort},
		{"\x03\x02a", api.ErrShort},
		{"\x03\x80", api.ErrShort},
		{"\x03\x80\x00", api.ErrForm},
		{"\x03\x40" + longest[1:], api.ErrShort},
		{"\x03\x41", api.ErrLong},
		{"\x03\x41" + tooLong, api.ErrLong},
		{"\x03\xff\xff\xff\xff\xff\xff\xff\xff\xff\x01", api.ErrLong},
		{"\x03\xff\xff\xff\xff\xff\xff\xff\xff\xff\x02", api.ErrOver},
	} {
		isNotTaken(t, []byte(x.b), x.err)
	}
	isNotTaken(t, nil, api.ErrShort)
	for kind := range 256 {
		if kind < api.VkInt || kind > api.VkText {
			isNotTaken(t, []byte{byte(kind)}, api.ErrKind)
			isNotTaken(t, []byte{byte(kind), 1, 'a'}, api.ErrKind)
		}
	}
}

// P4.2, P4.5: whatever follows.
func TestBytesThereAndBack(t *testing.T) {
	for _, v := range rightValues() {
		b := value.Put(v)
		for _, behind := range []string{"", "\x00", "\x01", "\x80", "\xff\xff", "a", string(b)} {
			isTaken(t, append(bytes.Clone(b), behind...), v, len(b))
		}
		for size := range b { // nothing that is cut off is taken
			isNotTaken(t, b[:size:size], api.ErrShort)
		}
	}
}

// P4.5: bytes that are taken are those of the value.
func TestBytesHaveOneForm(t *testing.T) {
	taken := 0
	for _, s := range textsOf(5, []string{"\x00", "\x01", "\x02", "\x03", "\x04", "\x7f", "\x80", "\xff"}) {
		v, size, err := value.Take([]byte(s))
		switch {
		case err != api.OK:
			isNotTaken(t, []byte(s), err)
		case string(value.Put(v)) != s[:size]:
			t.Errorf("%x is taken as %v", s, v)
		default:
			taken++
		}
	}
	if taken == 0 {
		t.Error("nothing is taken")
	}
}

// R4
func TestBytesAreNotShared(t *testing.T) {
	b := []byte("\x03\x02ab")
	v, _, _ := value.Take(b)
	b[2] = 'x'
	if v != value.Text("ab") {
		t.Errorf("what was taken is %v now", v)
	}
	put := value.Put(v)
	put[2] = 'y'
	_ = append(put[:1], strings.Repeat("z", 9)...)
	if again := value.Put(v); string(again) != "\x03\x02ab" || v.S != "ab" {
		t.Errorf("Put(%v) = %x", v, again)
	}
}
