package net

import (
	"rostrum/api"
	"rostrum/wire"
)

// codec is how a part of a message is written from its place, and how it is read into it.
type codec struct {
	write func(b []byte) []byte
	read  func(r *wire.Reader) api.Errno
}

// join is codecs one behind the other.
func join(l ...codec) codec {
	return codec{
		write: func(b []byte) []byte {
			for _, c := range l {
				b = c.write(b)
			}
			return b
		},
		read: func(r *wire.Reader) api.Errno {
			for _, c := range l {
				if e := c.read(r); e != api.OK {
					return e
				}
			}
			return api.OK
		},
	}
}

// mark is a byte that is always the same.
func mark(m byte) codec {
	return codec{
		write: func(b []byte) []byte { return append(b, m) },
		read: func(r *wire.Reader) api.Errno {
			if got, e := r.Byte(); e != api.OK || got != m {
				return api.ErrForm
			}
			return api.OK
		},
	}
}

func number(n *int) codec {
	return codec{
		write: func(b []byte) []byte { return wire.Put(b, *n) },
		read: func(r *wire.Reader) (e api.Errno) {
			*n, e = r.Uint()
			return e
		},
	}
}

func text(s *string, most int) codec {
	return codec{
		write: func(b []byte) []byte { return wire.Text(b, *s) },
		read: func(r *wire.Reader) (e api.Errno) {
			*s, e = r.Text(most)
			return e
		},
	}
}

// message is what is written, in a frame.
func (c codec) message() ([]byte, api.Errno) { return wire.Frame(c.write(nil)) }

// reads tells whether bytes are a frame of all parts, and nothing else.
func (c codec) reads(b []byte) bool {
	p, behind, e := wire.Unframe(b)
	if e != api.OK || len(behind) > 0 {
		return false
	}
	r := wire.Over(p)
	return c.read(r) == api.OK && r.End() == api.OK
}
