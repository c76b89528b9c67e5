package aries

import (
	"rostrum/api"
	"rostrum/wire"
)

// Kinds of records.
const (
	update       = 1
	compensation = 2
	commit       = 3
	end          = 4
)

const maxNumber = 1 << 40 // of a transaction

// record is what the log is told.
type record struct {
	kind, tx  int
	page, off int    // where an update or a compensation changes bytes
	ahead     string // the bytes that stood there ahead of an update
	behind    string // those that stand there behind it, or behind a compensation
	names     int    // the number of the update that a compensation takes back
}

func (r record) changes() bool { return r.kind == update || r.kind == compensation }

func (r record) encode() []byte {
	b := wire.Put(wire.Put(nil, r.kind), r.tx)
	if r.changes() {
		b = wire.Put(wire.Put(b, r.page), r.off)
	}
	switch r.kind {
	case update:
		b = wire.Text(wire.Text(b, r.ahead), r.behind)
	case compensation:
		b = wire.Put(wire.Text(b, r.behind), r.names)
	}
	return b
}

// size is how many bytes of a log's room a record takes.
func (r record) size() int { return len(wire.Text(nil, string(r.encode()))) }

// parts reads the parts of a record; it remembers that one of them was wrong, so that they can be read one behind the other.
type parts struct {
	*wire.Reader
	wrong bool
}

func (p *parts) number() int {
	n, e := p.Uint()
	p.wrong = p.wrong || e != api.OK
	return n
}

func (p *parts) text() string {
	s, e := p.Text(api.Load)
	p.wrong = p.wrong || e != api.OK
	return s
}

// decode is the record of bytes, if it can be, of transactions over so many pages.
func decode(b []byte, pages int) (record, bool) {
	p := &parts{Reader: wire.Over(b)}
	r := record{kind: p.number(), tx: p.number()}
	if r.changes() {
		r.page, r.off = p.number(), p.number()
	}
	switch r.kind {
	case update:
		r.ahead, r.behind = p.text(), p.text()
	case compensation:
		r.behind, r.names = p.text(), p.number()
	}
	return r, !p.wrong && p.End() == api.OK && r.canBe(pages)
}

func (r record) canBe(pages int) bool {
	if r.kind < update || r.kind > end || r.tx > maxNumber {
		return false
	}
	if r.kind == update && len(r.ahead) != len(r.behind) {
		return false
	}
	return !r.changes() || r.page < pages && r.behind != "" && r.off <= api.Load-len(r.behind)
}
