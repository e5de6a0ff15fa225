package pack

import (
	"math"

	"conductor/api"
)

// Reader takes numbers and texts from the front of bytes, till one of them has an error.
type Reader struct {
	made bool // a Reader that no call made has the error ErrMade
	left []byte
	err  api.Errno
}

// Read gives a Reader at the beginning of b.
func Read(b []byte) *Reader {
	return &Reader{made: true, left: Join(b)}
}

// Uint takes a number of at most most.
func (r *Reader) Uint(most uint64) uint64 {
	if r.Err() != api.OK {
		return 0
	}
	n, size, err := number(r.left, most)
	r.take(size, err)
	return n
}

// Int takes a number that Int wrote.
func (r *Reader) Int() int64 {
	n := r.Uint(math.MaxUint64)
	half := int64(n / 2)
	if n%2 == 1 {
		return -1 - half
	}
	return half
}

// Byte takes one byte.
func (r *Reader) Byte() byte {
	if r.Err() != api.OK {
		return 0
	}
	if len(r.left) == 0 {
		r.take(0, api.ErrShort)
		return 0
	}
	b := r.left[0]
	r.take(1, api.OK)
	return b
}

// Text takes a text of at most most bytes.
func (r *Reader) Text(most int) string {
	if r.Err() != api.OK {
		return ""
	}
	s, size, err := text(r.left, most)
	r.take(size, err)
	return s
}

// Left tells how many bytes are left.
func (r *Reader) Left() int {
	if r == nil {
		return 0
	}
	return len(r.left)
}

// Err tells the first error.
func (r *Reader) Err() api.Errno {
	if r == nil || !r.made {
		return api.ErrMade
	}
	return r.err
}

// End tells whether all was read, and rightly. That bytes are left is not kept, as they may still be read.
func (r *Reader) End() api.Errno {
	if err := r.Err(); err != api.OK {
		return err
	}
	if len(r.left) > 0 {
		return api.ErrRest
	}
	return api.OK
}

// take leaves what was read behind. With an error size is 0: all that was there ahead of the call is left.
func (r *Reader) take(size int, err api.Errno) {
	r.left = r.left[size:]
	r.err = err
}

// number tells the number at the front of b, and how many bytes it has.
func number(b []byte, most uint64) (uint64, int, api.Errno) {
	n := uint64(0)
	for i, c := range b {
		n += uint64(c%more) << (7 * i)
		switch {
		case i == lastPlace && c > 1:
			return 0, 0, api.ErrOver
		case c >= more:
			continue
		case i > 0:
			if c == 0 {
				return 0, 0, api.ErrForm
			}
			fallthrough // it ends the number as a first byte does, and may have the same error
		default:
			if n > most {
				return 0, 0, api.ErrLong
			}
			return n, i + 1, api.OK
		}
	}
	return 0, 0, api.ErrShort
}

// text tells the text at the front of b, and how many bytes it has with its length.
func text(b []byte, most int) (string, int, api.Errno) {
	n, size, err := number(b, uint64(max(most, 0)))
	switch {
	case err != api.OK:
		return "", 0, err
	case most < 0: // not even the empty text is short enough
		return "", 0, api.ErrLong
	case n > uint64(len(b)-size):
		return "", 0, api.ErrShort
	}
	end := size + int(n)
	return string(b[size:end]), end, api.OK
}
