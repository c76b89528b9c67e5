package vm

import (
	"rostrum/api"
	"rostrum/code"
	"rostrum/prims"
	"rostrum/serial"
	"rostrum/wire"
)

// Save is a suspended machine as bytes; Load is one that goes on with a datum.
func (m *Machine) Save() ([]byte, api.Errno) {
	if m.missing() {
		return nil, api.ErrNil
	}
	if m.state != api.Suspended {
		return nil, api.ErrState
	}
	c, e := code.Encode(m.code)
	if e != api.OK {
		return nil, e
	}
	w, e := m.heap.Make(api.KVector, m.get(frame), m.get(globals), m.get(winds))
	if e != api.OK {
		return nil, e
	}
	b, e := serial.Encode(m.heap, w)
	if e != api.OK {
		m.heap.Collect(false) // what was made for it goes again
		return nil, e
	}
	return wire.Text(wire.Text(nil, string(c)), string(b)), api.OK
}

func Load(b []byte, d api.Datum, young, old int) (*Machine, api.Errno) {
	program, saved, ok := twoTexts(b)
	if !ok {
		return nil, api.ErrForm
	}
	c, e := code.Decode([]byte(program))
	if e != api.OK {
		return nil, e
	}
	m, e := withCode(c, young, old)
	if e != api.OK {
		return nil, e
	}
	if e := m.restore([]byte(saved)); e != api.OK {
		return nil, e
	}
	w, e := prims.Load(m.heap, d)
	if e != api.OK {
		return nil, e
	}
	if e := m.giveBack(w); e != api.OK {
		m.state, m.why = api.Failed, e
	}
	return m, api.OK
}

// twoTexts is the two that bytes are.
func twoTexts(b []byte) (string, string, bool) {
	r := wire.Over(b)
	first, e := r.Text(len(b))
	second, f := r.Text(len(b))
	return first, second, e == api.OK && f == api.OK && r.End() == api.OK
}

// restore has frame, globals and winds be what was saved.
func (m *Machine) restore(b []byte) api.Errno {
	w, e := serial.Decode(m.heap, b)
	if e != api.OK {
		return e
	}
	if !m.isVector(w, 3) || !m.isVector(m.part(w, 1), len(m.code.Names)) {
		return api.ErrCode
	}
	return m.set(
		register{frame, m.part(w, 0)},
		register{globals, m.part(w, 1)},
		register{winds, m.part(w, 2)},
	)
}
