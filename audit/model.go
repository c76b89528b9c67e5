package audit

import (
	"bytes"
	"maps"
	"slices"

	"rostrum/api"
	"rostrum/net"
	"rostrum/vm"
)

const (
	mostSession  = 40 * 1400 // bytes of a session
	mostSessions = 9999
)

// Model is what requests mean, one behind the other, without a disk, workers, crashes.
type Model struct {
	roots    map[string][]byte // nil only of a plain Model{}
	sessions [][]byte          // that of number 1 is the first
}

// New is one without roots.
func New() *Model { return &Model{roots: map[string][]byte{}} }

func (m *Model) missing() bool { return m == nil || m.roots == nil }

// Do answers a request, Roots is the roots then, Sessions how many sessions there are.
func (m *Model) Do(r api.Request) (api.Reply, api.Errno) {
	if m.missing() {
		return api.Reply{}, api.ErrNil
	}
	if _, e := net.Ask(r); e != api.OK {
		return api.Reply{}, e
	}
	p, e := m.does(r)
	if e != api.OK {
		p = api.Reply{Status: api.RepFailed, Why: int(e)}
	}
	p.ID = r.ID
	return p, api.OK
}

func (m *Model) Roots() []api.Slot {
	if m.missing() {
		return nil
	}
	var l []api.Slot
	for _, name := range slices.Sorted(maps.Keys(m.roots)) {
		l = append(l, api.Slot{Name: name, Bytes: bytes.Clone(m.roots[name])})
	}
	return l
}

func (m *Model) Sessions() int {
	if m.missing() {
		return 0
	}
	return len(m.sessions)
}

// does is the reply to a request that does not fail, and has what it changes be there; else its error.
func (m *Model) does(r api.Request) (api.Reply, api.Errno) {
	x, e := m.machine(r)
	if e != api.OK {
		return api.Reply{}, e
	}
	w := world{roots: m.roots, put: map[string][]byte{}}
	switch x.Run(mostFuel, w) {
	case api.Done:
		return api.Reply{Status: api.RepDone, Text: shown(x)}, m.keep(w.put)
	case api.Suspended:
		return m.suspend(x, w.put)
	case api.Failed:
		return api.Reply{}, x.Why()
	}
	return api.Reply{}, api.ErrFuel
}

// suspend has a machine's session be the next one.
func (m *Model) suspend(x *vm.Machine, put map[string][]byte) (api.Reply, api.Errno) {
	b, e := x.Save()
	if e != api.OK {
		return api.Reply{}, e
	}
	if len(b) > mostSession || len(m.sessions) >= mostSessions {
		return api.Reply{}, api.ErrFull
	}
	if e := m.keep(put); e != api.OK {
		return api.Reply{}, e
	}
	m.sessions = append(m.sessions, b)
	return api.Reply{Status: api.RepSession, Session: len(m.sessions), Text: shown(x)}, api.OK
}

// keep has what was put be roots: all of it, or nothing.
func (m *Model) keep(put map[string][]byte) api.Errno {
	for name, b := range put {
		if name == "" || len(b) > api.MaxBytes {
			return api.ErrFull
		}
	}
	maps.Copy(m.roots, put)
	return api.OK
}
