package pack_test

import (
	"bytes"
	"math"
	"testing"

	"conductor/api"
	"conductor/pack"
)

// piece is something that is written, and what tells whether it is read again.
type piece struct {
	b    []byte
	read func(*pack.Reader) bool
}

func uintPiece(n uint64) piece {
	return piece{pack.Uint(n), func(r *pack.Reader) bool { return r.Uint(n) == n && r.Err() == api.OK }}
}

func intPiece(n int64) piece {
	return piece{pack.Int(n), func(r *pack.Reader) bool { return r.Int() == n && r.Err() == api.OK }}
}

func textPiece(s string) piece {
	return piece{pack.Text(s), func(r *pack.Reader) bool { return r.Text(len(s)) == s && r.Err() == api.OK }}
}

func bytePiece(b byte) piece {
	return piece{[]byte{b}, func(r *pack.Reader) bool { return r.Byte() == b && r.Err() == api.OK }}
}

// pieces are of all kinds, by turns, so that each kind stands behind each.
func pieces() []piece {
	var l []piece
	for _, n := range edges() {
		l = append(l, uintPiece(n))
	}
	for _, n := range signed() {
		l = append(l, intPiece(n), bytePiece(byte(n)))
	}
	for _, s := range texts() {
		l = append(l, textPiece(s), textPiece(""), uintPiece(uint64(len(s))), intPiece(int64(-len(s))))
	}
	return l
}

// readAll tells whether all pieces are read, and nothing is left.
func readAll(r *pack.Reader, l []piece) bool {
	for _, p := range l {
		if !p.read(r) {
			return false
		}
	}
	return r.End() == api.OK && r.Left() == 0
}

// P1.4
func TestThereAndBack(t *testing.T) {
	l := pieces()
	var parts [][]byte
	for i, p := range l {
		parts = append(parts, p.b)
		if !readAll(pack.Read(p.b), l[i:i+1]) {
			t.Errorf("%x is not read again", p.b)
		}
	}
	if !readAll(pack.Read(pack.Join(parts...)), l) {
		t.Error("one behind the other is not read again")
	}
}

// P1.4: whatever stands behind.
func TestThereAndBackWithARest(t *testing.T) {
	rest := []byte{0x80, 0x00, 0xff, 0x01}
	for _, p := range pieces() {
		r := pack.Read(pack.Join(p.b, rest))
		if !p.read(r) {
			t.Errorf("%x is not read again ahead of %x", p.b, rest)
		}
		isFine(t, r, len(rest))
	}
}

// P1.6
func TestCutOffIsNotReadWhole(t *testing.T) {
	for _, p := range pieces() {
		for n := range min(len(p.b), 300) {
			r := pack.Read(p.b[:n])
			if p.read(r) {
				t.Fatalf("%x is read of %x", p.b, p.b[:n])
			}
			hasError(t, r, api.ErrShort, n)
		}
	}
}

// P1.6: of several pieces just those that stand whole ahead of the cut are read.
func TestSeveralCutOff(t *testing.T) {
	l := []piece{uintPiece(300), textPiece(""), intPiece(math.MinInt64), bytePiece(0x80), textPiece("abc"), uintPiece(0), uintPiece(math.MaxUint64), textPiece("\xff")}
	var parts [][]byte
	for _, p := range l {
		parts = append(parts, p.b)
	}
	whole := pack.Join(parts...)
	for n := range whole {
		if readAll(pack.Read(whole[:n]), l) {
			t.Errorf("all is read of %d of %d bytes", n, len(whole))
		}
		r := pack.Read(whole[:n])
		ahead := 0
		for _, p := range l {
			fits := ahead+len(p.b) <= n
			if p.read(r) != fits {
				t.Errorf("cut at %d: a piece at %d is read otherwise", n, ahead)
			}
			if !fits {
				break
			}
			ahead += len(p.b)
		}
		hasError(t, r, api.ErrShort, n-ahead)
	}
}

// checkOneForm tells unless what is read of b is just what is written of it.
func checkOneForm(t *testing.T, b []byte) {
	t.Helper()
	for _, take := range []func(*pack.Reader) []byte{
		func(r *pack.Reader) []byte { return pack.Uint(r.Uint(math.MaxUint64)) },
		func(r *pack.Reader) []byte { return pack.Int(r.Int()) },
		func(r *pack.Reader) []byte { return pack.Text(r.Text(math.MaxInt)) },
	} {
		r := pack.Read(b)
		written := take(r)
		if r.Err() != api.OK {
			hasError(t, r, r.Err(), len(b))
			continue
		}
		if read := b[:len(b)-r.Left()]; !bytes.Equal(read, written) {
			t.Errorf("%x is read, of which %x is written", read, written)
		}
		isFine(t, r, len(b)-len(written))
	}
}

// P1.5: all that has at most two bytes; and longer ones of the bytes at which something changes.
func TestOneForm(t *testing.T) {
	checkOneForm(t, nil)
	for a := range 256 {
		checkOneForm(t, []byte{byte(a)})
		for b := range 256 {
			checkOneForm(t, []byte{byte(a), byte(b)})
		}
	}
	kinds := []byte{0x00, 0x01, 0x02, 0x7f, 0x80, 0x81, 0xff}
	for n := range 7 * 7 * 7 * 7 {
		last := []byte{kinds[n%7], kinds[n/7%7], kinds[n/49%7], kinds[n/343]}
		for _, ahead := range []string{"", "\x80", nine[:5], nine[:7], nine[:8], "\x80\x80\x80\x80\x80\x80\x80\x80"} {
			checkOneForm(t, pack.Join([]byte(ahead), last))
		}
	}
}

// P1.5: what is not written of any number is not read, and has the error that it asks for.
func TestOnlyWhatIsWrittenIsRead(t *testing.T) {
	written := map[string]uint64{}
	for n := range uint64(1 << 14) {
		written[string(pack.Uint(n))] = n
	}
	if len(written) != 1<<14 {
		t.Fatalf("%d forms of %d numbers", len(written), 1<<14)
	}
	for n := range 1 << 16 {
		b := []byte{byte(n >> 8), byte(n)}
		r := pack.Read(b)
		got := r.Uint(math.MaxUint64)
		one, isOne := written[string(b[:1])]
		two, isTwo := written[string(b)]
		switch {
		case isOne && (got != one || r.Left() != 1 || r.Err() != api.OK):
			t.Errorf("%x is read as %d, with %d left", b, got, r.Left())
		case isTwo && (got != two || r.Left() != 0 || r.Err() != api.OK):
			t.Errorf("%x is read as %d, with %d left", b, got, r.Left())
		case !isOne && !isTwo && b[1] >= 128 && r.Err() != api.ErrShort:
			t.Errorf("%x has the error %d, want ErrShort", b, r.Err())
		case !isOne && !isTwo && b[1] < 128 && r.Err() != api.ErrForm:
			t.Errorf("%x has the error %d, want ErrForm", b, r.Err())
		}
	}
}

// P1: no call panics, whatever bytes come and whatever is asked of them.
func FuzzReader(f *testing.F) {
	f.Add([]byte(nil), []byte{0, 1, 2, 3}, uint64(0), 0)
	f.Add([]byte{0x80, 0}, []byte{1, 0, 3}, uint64(9), -1)
	f.Add([]byte{3, 'a', 'b'}, []byte{3, 3}, uint64(math.MaxUint64), math.MaxInt)
	f.Add([]byte(nine+"\x02"), []byte{0}, uint64(math.MaxUint64), math.MinInt)
	f.Fuzz(func(t *testing.T, b, calls []byte, most uint64, long int) {
		checkOneForm(t, b)
		r := pack.Read(b)
		for _, c := range calls {
			before, err := r.Left(), r.Err()
			switch c % 4 {
			case 0:
				if n := r.Uint(most); n > most {
					t.Errorf("Uint(%d) = %d", most, n)
				}
			case 1:
				r.Int()
			case 2:
				r.Byte()
			case 3:
				if s := r.Text(long); len(s) > max(long, 0) {
					t.Errorf("Text(%d) has %d bytes", long, len(s))
				}
			}
			if err != api.OK && r.Err() != err {
				t.Errorf("the error %d became %d", err, r.Err())
			}
			if took := before - r.Left(); took < 0 || (took == 0) != (r.Err() != api.OK) {
				t.Errorf("%d bytes are taken, with the error %d", took, r.Err())
			}
		}
	})
}
