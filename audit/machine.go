package audit

import (
	"bytes"
	"errors"
	"strings"

	"rostrum/api"
	"rostrum/code"
	"rostrum/datum"
	"rostrum/vm"
)

// Sizes of a machine's heap, how much it may run in all, and how much of a value is told. (They stand here as well as in work: a model that leaned on a job's code would share its faults.)
const (
	youngCells = 4000
	oldCells   = 40000
	mostFuel   = 20000
	mostShown  = 1000
)

// machine is a request's, ahead of what it has to do.
func (m *Model) machine(r api.Request) (*vm.Machine, api.Errno) {
	if r.Kind == api.AskResume {
		return m.resumed(r.Session, r.Text)
	}
	c, err := code.Source(r.Text)
	if err != nil {
		return nil, whyOf(err)
	}
	return vm.New(c, youngCells, oldCells)
}

// resumed is a session's machine, which goes on with the datum of a text.
func (m *Model) resumed(id int, text string) (*vm.Machine, api.Errno) {
	if id > len(m.sessions) {
		return nil, api.ErrSession
	}
	l, err := datum.Read(text)
	if err != nil {
		return nil, whyOf(err)
	}
	if len(l) != 1 {
		return nil, api.ErrRead
	}
	return vm.Load(m.sessions[id-1], l[0], youngCells, oldCells)
}

// whyOf is the number that a fault tells.
func whyOf(err error) api.Errno {
	var f api.Fault
	errors.As(err, &f)
	return f.Why
}

// shown is what a reply tells of a machine's value.
func shown(x *vm.Machine) string {
	s := x.Value()
	return strings.Clone(s[:min(len(s), mostShown)])
}

// world is the roots as a request sees them: what it put itself stands ahead of them.
type world struct{ roots, put map[string][]byte }

func (w world) Get(name string) ([]byte, api.Errno) {
	if b, there := w.put[name]; there {
		return bytes.Clone(b), api.OK
	}
	return bytes.Clone(w.roots[name]), api.OK
}

func (w world) Put(name string, b []byte) api.Errno {
	w.put[name] = bytes.Clone(b)
	return api.OK
}
