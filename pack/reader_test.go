package pack_test

import (
	"math"
	"strings"
	"testing"

	"conductor/api"
	"conductor/pack"
)

// hasError tells unless r has just that error, with so many bytes left, and reads nothing any more.
func hasError(t *testing.T, r *pack.Reader, err api.Errno, left int) {
	t.Helper()
	for range 2 {
		if r.Err() != err || r.End() != err || r.Left() != left {
			t.Errorf("Err %d, End %d, Left %d; want %d, with %d left", r.Err(), r.End(), r.Left(), err, left)
		}
		if n, i, b, s := r.Uint(math.MaxUint64), r.Int(), r.Byte(), r.Text(math.MaxInt); n != 0 || i != 0 || b != 0 || s != "" {
			t.Errorf("a Reader with the error %d read %d, %d, %d, %q", err, n, i, b, s)
		}
		r.Text(-1) // an error of a later call takes no other's place
		r.Uint(0)
	}
}

// isFine tells unless r has no error, with so many bytes left.
func isFine(t *testing.T, r *pack.Reader, left int) {
	t.Helper()
	end := api.OK
	if left > 0 {
		end = api.ErrRest
	}
	if r.Err() != api.OK || r.End() != end || r.Left() != left || r.Err() != api.OK {
		t.Errorf("Err %d, End %d, Left %d; want no error, with %d left", r.Err(), r.End(), r.Left(), left)
	}
}

// P1.2, P1.3
func TestReadBegins(t *testing.T) {
	isFine(t, pack.Read(nil), 0)
	isFine(t, pack.Read([]byte{}), 0)
	isFine(t, pack.Read([]byte{0x80}), 1)
	isFine(t, pack.Read(make([]byte, 1000)), 1000)
}

// P1.2, R4
func TestReadKeepsACopy(t *testing.T) {
	b := []byte{2, 'a', 'b', 5}
	r, other := pack.Read(b), pack.Read(b)
	b[1], b[3] = 'x', 6
	if s := r.Text(2); s != "ab" {
		t.Errorf("Text = %q, want ab", s)
	}
	b[0], b[3] = 9, 7
	if c := r.Byte(); c != 5 {
		t.Errorf("Byte = %d, want 5", c)
	}
	isFine(t, other, 4)
	if s := other.Text(2); s != "ab" {
		t.Errorf("the other one's Text = %q, want ab", s)
	}
	if string(b) != "\x09xb\x07" {
		t.Errorf("what was handed in is %x now", b)
	}
}

// P1.2
func TestByteIsRead(t *testing.T) {
	all := make([]byte, 256)
	for i := range all {
		all[i] = byte(i)
	}
	r := pack.Read(all)
	for i := range all {
		if b := r.Byte(); b != byte(i) {
			t.Fatalf("byte %d is %d", i, b)
		}
		isFine(t, r, 255-i)
	}
	if b := r.Byte(); b != 0 {
		t.Errorf("Byte at the end = %d", b)
	}
	hasError(t, r, api.ErrShort, 0)
}

const nine = "\xff\xff\xff\xff\xff\xff\xff\xff\xff" // the first nine bytes of the greatest number

// P1.2
func TestUintIsRead(t *testing.T) {
	for _, x := range []struct {
		b    string
		most uint64
		n    uint64
		left int
	}{
		{"\x00", 0, 0, 0},
		{"\x00\x00", 0, 0, 1},
		{"\x01\x80", 1, 1, 1},
		{"\x7f", 127, 127, 0},
		{"\x80\x01", 128, 128, 0},
		{"\xac\x02\x00", 300, 300, 1},
		{"\xac\x02", math.MaxUint64, 300, 0},
		{"\x80\x80\x01", 16384, 16384, 0},
		{nine + "\x01", math.MaxUint64, math.MaxUint64, 0},
		{nine + "\x01\xff", math.MaxUint64, math.MaxUint64, 1},
		{"\x80\x80\x80\x80\x80\x80\x80\x80\x80\x01", 1 << 63, 1 << 63, 0},
		{"\x80\x80\x80\x80\x80\x80\x80\x80\x02", 1 << 57, 1 << 57, 0},
	} {
		r := pack.Read([]byte(x.b))
		if n := r.Uint(x.most); n != x.n {
			t.Errorf("Uint(%d) of %x = %d, want %d", x.most, x.b, n, x.n)
		}
		isFine(t, r, x.left)
	}
}

// P1.2: of several errors the one that is named first.
func TestUintHasItsFirstError(t *testing.T) {
	for _, x := range []struct {
		b    string
		most uint64
		err  api.Errno
	}{
		{"", 9, api.ErrShort},
		{"\x80", 9, api.ErrShort},
		{"\xff\xff", 0, api.ErrShort},
		{nine, 9, api.ErrShort},
		{nine + "\x02", math.MaxUint64, api.ErrOver},
		{nine + "\x02", 0, api.ErrOver},
		{nine + "\x7f", 9, api.ErrOver},
		{nine + "\x80", 9, api.ErrOver},
		{nine + "\x81", 9, api.ErrOver},
		{nine + "\xff\x00", 9, api.ErrOver},
		{"\x80\x80\x80\x80\x80\x80\x80\x80\x80\x02", math.MaxUint64, api.ErrOver},
		{"\x80\x00", math.MaxUint64, api.ErrForm},
		{"\x80\x00\x05", 0, api.ErrForm},
		{"\xff\x00", 5, api.ErrForm},
		{"\x80\x80\x00", 0, api.ErrForm},
		{nine + "\x00", 0, api.ErrForm},
		{"\x01", 0, api.ErrLong},
		{"\x65\x00", 100, api.ErrLong},
		{"\xac\x02", 299, api.ErrLong},
		{nine + "\x01", math.MaxUint64 - 1, api.ErrLong},
	} {
		r := pack.Read([]byte(x.b))
		if n := r.Uint(x.most); n != 0 {
			t.Errorf("Uint(%d) of %x = %d", x.most, x.b, n)
		}
		hasError(t, r, x.err, len(x.b))
	}
}

// P1.2
func TestIntIsRead(t *testing.T) {
	for _, x := range []struct {
		b    string
		n    int64
		left int
	}{
		{"\x00", 0, 0},
		{"\x01", -1, 0},
		{"\x02", 1, 0},
		{"\x03\x03", -2, 1},
		{"\x7f", -64, 0},
		{"\x80\x01", 64, 0},
		{"\xfe" + nine[1:] + "\x01", math.MaxInt64, 0},
		{nine + "\x01\x00", math.MinInt64, 1},
	} {
		r := pack.Read([]byte(x.b))
		if n := r.Int(); n != x.n {
			t.Errorf("Int of %x = %d, want %d", x.b, n, x.n)
		}
		isFine(t, r, x.left)
	}
	for _, x := range []struct {
		b   string
		err api.Errno
	}{
		{"", api.ErrShort},
		{"\x81", api.ErrShort},
		{nine, api.ErrShort},
		{nine + "\x02", api.ErrOver},
		{"\x81\x00", api.ErrForm},
		{nine + "\x00", api.ErrForm},
	} {
		r := pack.Read([]byte(x.b))
		if n := r.Int(); n != 0 {
			t.Errorf("Int of %x = %d", x.b, n)
		}
		hasError(t, r, x.err, len(x.b))
	}
}

// P1.2
func TestTextIsRead(t *testing.T) {
	for _, x := range []struct {
		b    string
		most int
		s    string
		left int
	}{
		{"\x00", 0, "", 0},
		{"\x00ab", 9, "", 2},
		{"\x02ab", 2, "ab", 0},
		{"\x02abc", 9, "ab", 1},
		{"\x02ab", math.MaxInt, "ab", 0},
		{"\x03\x00\xff\x80", 3, "\x00\xff\x80", 0},
		{"\x80\x01" + strings.Repeat("x", 130), 128, strings.Repeat("x", 128), 2},
	} {
		r := pack.Read([]byte(x.b))
		if s := r.Text(x.most); s != x.s {
			t.Errorf("Text(%d) of %x = %q, want %q", x.most, x.b, s, x.s)
		}
		isFine(t, r, x.left)
	}
}

// P1.2: of several errors the one that is named first.
func TestTextHasItsFirstError(t *testing.T) {
	for _, x := range []struct {
		b    string
		most int
		err  api.Errno
	}{
		{"", 9, api.ErrShort},
		{"", -1, api.ErrShort},
		{"\x82", 9, api.ErrShort},
		{"\x82", -1, api.ErrShort},
		{nine + "\x02", 9, api.ErrOver},
		{nine + "\x02", -1, api.ErrOver},
		{"\x80\x00", 9, api.ErrForm},
		{"\x80\x00", math.MinInt, api.ErrForm},
		{"\x82\x00ab", 1, api.ErrForm},
		{"\x02ab", 1, api.ErrLong},
		{"\x02a", 1, api.ErrLong},
		{"\x01a", 0, api.ErrLong},
		{"\x00", -1, api.ErrLong},
		{"\x01a", -1, api.ErrLong},
		{"\x01", -1, api.ErrLong},
		{"\x00", math.MinInt, api.ErrLong},
		{nine + "\x01", -1, api.ErrLong},
		{nine + "\x01", math.MaxInt, api.ErrLong},
		{"\x01", 9, api.ErrShort},
		{"\x03ab", 9, api.ErrShort},
		{"\x80\x01" + strings.Repeat("x", 127), 128, api.ErrShort},
		{nine[:8] + "\x7f", math.MaxInt, api.ErrShort},
	} {
		r := pack.Read([]byte(x.b))
		if s := r.Text(x.most); s != "" {
			t.Errorf("Text(%d) of %x = %q", x.most, x.b, s)
		}
		hasError(t, r, x.err, len(x.b))
	}
}

// P1.2, P1.3: the error stays, and what was read ahead of it stays read.
func TestTheFirstErrorStays(t *testing.T) {
	for _, x := range []struct {
		rest string
		read func(*pack.Reader)
		err  api.Errno
	}{
		{"", func(r *pack.Reader) { r.Byte() }, api.ErrShort},
		{"\x05\x01", func(r *pack.Reader) { r.Uint(4) }, api.ErrLong},
		{"\x80\x00\x01", func(r *pack.Reader) { r.Int() }, api.ErrForm},
		{nine + "\x03\x01", func(r *pack.Reader) { r.Uint(4) }, api.ErrOver},
		{"\x04abc", func(r *pack.Reader) { r.Text(4) }, api.ErrShort},
	} {
		r := pack.Read([]byte("\x07\x02ab" + x.rest))
		if b, s := r.Byte(), r.Text(2); b != 7 || s != "ab" {
			t.Errorf("read %d and %q ahead of the error", b, s)
		}
		isFine(t, r, len(x.rest))
		x.read(r)
		hasError(t, r, x.err, len(x.rest))
	}
}

// P1.3
func TestEndIsNotKept(t *testing.T) {
	r := pack.Read([]byte{1, 2})
	isFine(t, r, 2)
	if b := r.Byte(); b != 1 {
		t.Errorf("Byte behind End = %d", b)
	}
	isFine(t, r, 1)
	if n := r.Uint(2); n != 2 {
		t.Errorf("Uint behind End = %d", n)
	}
	isFine(t, r, 0)
}

// P1.3, R6
func TestReaderThatNoCallMade(t *testing.T) {
	hasError(t, nil, api.ErrMade, 0)
	hasError(t, &pack.Reader{}, api.ErrMade, 0)
	var zero pack.Reader
	hasError(t, &zero, api.ErrMade, 0)
}

// R5: one Reader is not seen by another one.
func TestReadersStandAlone(t *testing.T) {
	b := []byte{5, 6}
	a := pack.Read(b)
	a.Uint(1)
	c := pack.Read(b)
	isFine(t, c, 2)
	if n := c.Uint(5); n != 5 {
		t.Errorf("Uint = %d, want 5", n)
	}
	hasError(t, a, api.ErrLong, 2)
	isFine(t, c, 1)
}
