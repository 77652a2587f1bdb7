package octet

import (
	"slices"

	"sextant/api"
)

// lastPlace is the place of a uvarint's tenth byte, which has room for the highest of 64 bits alone.
const lastPlace = 9

// Reader reads bytes from the left. One that NewReader did not make has nothing to read, and says so.
type Reader struct {
	made bool
	left []byte
}

// NewReader answers a reader at the beginning of b.
func NewReader(b []byte) *Reader {
	// A copy: the caller may change b while the reader is in use.
	return &Reader{made: true, left: slices.Clone(b)}
}

func (r *Reader) usable() bool { return r != nil && r.made }

// U8 reads a byte.
func (r *Reader) U8() (byte, api.Errno) {
	if !r.usable() {
		return 0, api.ErrNil
	}
	if len(r.left) == 0 {
		return 0, api.ErrShort
	}
	c := r.left[0]
	r.left = r.left[1:]
	return c, api.OK
}

// Uvarint reads a number.
func (r *Reader) Uvarint() (uint64, api.Errno) {
	if !r.usable() {
		return 0, api.ErrNil
	}
	v, size, e := front(r.left)
	if e != api.OK {
		return 0, e
	}
	r.left = r.left[size:]
	return v, api.OK
}

// Varint reads a number with a sign.
func (r *Reader) Varint() (int64, api.Errno) {
	u, e := r.Uvarint()
	if e != api.OK {
		return 0, e
	}
	return unfold(u), api.OK
}

// Text reads a text.
func (r *Reader) Text() (string, api.Errno) {
	if !r.usable() {
		return "", api.ErrNil
	}
	n, size, e := front(r.left)
	if e != api.OK {
		return "", e
	}
	rest := r.left[size:]
	// Held against each other as 64 bits: n may be above every int.
	if n > uint64(len(rest)) {
		return "", api.ErrShort
	}
	r.left = rest[n:]
	return string(rest[:n]), api.OK
}

// Left tells how many bytes are left.
func (r *Reader) Left() int {
	if !r.usable() {
		return 0
	}
	return len(r.left)
}

// End tells whether all bytes were read.
func (r *Reader) End() api.Errno {
	switch {
	case !r.usable():
		return api.ErrNil
	case len(r.left) > 0:
		return api.ErrTail
	}
	return api.OK
}

// front answers the uvarint with which b begins, and how many bytes it has.
func front(b []byte) (uint64, int, api.Errno) {
	var v uint64
	for i, c := range b {
		if i == lastPlace && c != 1 {
			return 0, 0, api.ErrFar
		}
		v |= uint64(c&^more) << (7 * i)
		if c >= more {
			continue
		}
		if c == 0 && i > 0 {
			return 0, 0, api.ErrFar
		}
		return v, i + 1, api.OK
	}
	return 0, 0, api.ErrShort
}
