package code

import (
	"bytes"

	"rostrum/api"
	"rostrum/datum"
	"rostrum/wire"
)

// Encode is code as bytes.
func Encode(c api.Code) ([]byte, api.Errno) {
	if Verify(c) != api.OK {
		return nil, api.ErrCode
	}
	var w writer
	w.numbers(len(c.Instrs))
	for _, in := range c.Instrs {
		w.numbers(in.Op, in.A, in.B)
	}
	w.numbers(len(c.Consts))
	for _, d := range c.Consts {
		w.text(datum.Print(d))
	}
	w.numbers(len(c.Names))
	for _, s := range c.Names {
		w.text(s)
	}
	return w.bytes, api.OK
}

// writer appends by itself, since each of wire's calls would copy all that is ahead.
type writer struct{ bytes []byte }

func (w *writer) numbers(l ...int) {
	for _, n := range l {
		w.bytes = append(w.bytes, wire.Put(nil, n)...)
	}
}

func (w *writer) text(s string) { w.bytes = append(w.bytes, wire.Text(nil, s)...) }

// Decode is the code of bytes.
func Decode(b []byte) (api.Code, api.Errno) {
	c, ok := read(b)
	if !ok {
		return api.Code{}, api.ErrCode
	}
	if again, e := Encode(c); e != api.OK || !bytes.Equal(again, b) {
		return api.Code{}, api.ErrCode
	}
	return c, api.OK
}

// read is the code that bytes say. They need not be its bytes: a constant may be written otherwise, or something stand behind.
func read(b []byte) (api.Code, bool) {
	r := &reader{Reader: wire.Over(b)}
	c := api.Code{Instrs: list(r, r.instruction), Consts: list(r, r.constant), Names: list(r, r.text)}
	return c, !r.wrong
}

// list is as many parts as a number ahead of them says, up to one that is wrong.
func list[T any](r *reader, part func() T) []T {
	var l []T
	for range r.number() {
		l = append(l, part())
		if r.wrong {
			break
		}
	}
	return l
}

// reader remembers that something was wrong, so that parts can be read one behind the other.
type reader struct {
	*wire.Reader
	wrong bool
}

func (r *reader) number() int {
	n, e := r.Uint()
	r.wrong = r.wrong || e != api.OK
	return n
}

func (r *reader) text() string {
	s, e := r.Text(r.Left())
	r.wrong = r.wrong || e != api.OK
	return s
}

func (r *reader) instruction() api.Instr {
	return api.Instr{Op: r.number(), A: r.number(), B: r.number()}
}

func (r *reader) constant() api.Datum {
	l, err := datum.Read(r.text())
	if err != nil || len(l) != 1 {
		r.wrong = true
		return api.Datum{}
	}
	return l[0]
}

// Hash is a number that tells code apart.
func Hash(c api.Code) uint32 {
	b, e := Encode(c)
	if e != api.OK {
		return 0
	}
	return wire.Sum(b)
}
