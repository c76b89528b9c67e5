package wire

import (
	"bytes"

	"rostrum/api"
)

// place is how far bytes are read.
type place struct {
	all []byte
	at  int
}

func (p *place) rest() []byte { return p.all[p.at:] }

func (p *place) skip(n int) { p.at += n }

// Reader reads numbers and texts, one behind the other.
type Reader struct {
	place
	made bool // a reader of no bytes is one too, so the bytes can't tell it from a plain Reader{}
}

// Over is one at the beginning of bytes.
func Over(b []byte) *Reader {
	return &Reader{place: place{all: bytes.Clone(b)}, made: true}
}

func (r *Reader) missing() bool { return r == nil || !r.made }

// Uint reads a number; an error has the reader stay where it was, as with Byte and Text.
func (r *Reader) Uint() (int, api.Errno) {
	if r.missing() {
		return 0, api.ErrNil
	}
	n, size, e := number(r.rest())
	r.skip(size)
	return n, e
}

// Byte reads a byte.
func (r *Reader) Byte() (byte, api.Errno) {
	if r.missing() {
		return 0, api.ErrNil
	}
	b := r.rest()
	if len(b) == 0 {
		return 0, api.ErrShort
	}
	r.skip(1)
	return b[0], api.OK
}

// Text reads a text of at most so many bytes.
func (r *Reader) Text(most int) (string, api.Errno) {
	if r.missing() {
		return "", api.ErrNil
	}
	n, size, e := number(r.rest())
	if e != api.OK {
		return "", e
	}
	if n > max(most, 0) {
		return "", api.ErrLong
	}
	b := r.rest()[size:]
	if len(b) < n {
		return "", api.ErrShort
	}
	r.skip(size + n)
	return string(b[:n]), api.OK
}

// End tells whether all was read.
func (r *Reader) End() api.Errno {
	if r.missing() {
		return api.ErrNil
	}
	if r.Left() > 0 {
		return api.ErrMore
	}
	return api.OK
}

// Left is how many bytes were not read.
func (r *Reader) Left() int {
	if r.missing() {
		return 0
	}
	return len(r.rest())
}
