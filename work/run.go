package work

import (
	"errors"
	"strings"

	"rostrum/api"
	"rostrum/code"
	"rostrum/datum"
	"rostrum/session"
	"rostrum/vm"
)

// Sizes of a machine's heap, how much it may run in all, and how much of a value is told.
const (
	youngCells = 4000
	oldCells   = 40000
	mostFuel   = 20000
	mostShown  = 1000
)

// begin begins, at first or again.
func (j *Job) begin() {
	j.tries++
	j.renew()
	m, e := j.newMachine()
	if e != api.OK {
		j.fail(e)
		return
	}
	j.phase, j.machine = running, m
}

// renew forgets what was tried, and gives it a transaction that read nothing. (The one that it had holds no lock: it clashed, or its request failed.)
func (j *Job) renew() {
	tx, _ := j.space.Begin()
	j.attempt = attempt{tx: tx}
}

func (j *Job) beginAgain() {
	if j.tries > api.Retries {
		j.renew()
		j.fail(api.ErrClash)
		return
	}
	j.begin()
}

// newMachine is the request's, ahead of what it has to do.
func (j *Job) newMachine() (*vm.Machine, api.Errno) {
	if j.request.Kind == api.AskResume {
		return j.resumed()
	}
	c, err := code.Source(j.request.Text)
	if err != nil {
		return nil, numberOf(err)
	}
	return vm.New(c, youngCells, oldCells)
}

// resumed is a session's machine, which goes on with the request's datum.
func (j *Job) resumed() (*vm.Machine, api.Errno) {
	b, e := session.Unpack(j.store, j.request.Session)
	if e != api.OK {
		return nil, e
	}
	l, err := datum.Read(j.request.Text)
	if err != nil {
		return nil, numberOf(err)
	}
	if len(l) != 1 {
		return nil, api.ErrRead
	}
	return vm.Load(b, l[0], youngCells, oldCells)
}

// numberOf is the number that a fault tells.
func numberOf(err error) api.Errno {
	var f api.Fault
	errors.As(err, &f)
	return f.Why
}

// run is phase 0.
func (j *Job) run(fuel int) api.Errno {
	m := j.machine
	switch m.Run(min(fuel, mostFuel-m.Used()), j.tx) {
	case api.Running:
		if m.Used() >= mostFuel {
			j.fail(api.ErrFuel)
		}
	case api.Done:
		j.comeTo(api.Reply{Status: api.RepDone, Text: shown(m)})
	case api.Suspended:
		j.suspend()
	case api.Failed:
		if m.Why() == api.ErrClash {
			return api.ErrClash
		}
		j.fail(m.Why())
	}
	return api.OK
}

func (j *Job) suspend() {
	b, e := j.machine.Save()
	if e != api.OK {
		j.fail(e)
		return
	}
	j.session = b
	j.comeTo(api.Reply{Status: api.RepSession, Text: shown(j.machine)})
}

// shown is what a reply tells of a machine's value. (A copy, lest all that was shown be kept with it.)
func shown(m *vm.Machine) string {
	s := m.Value()
	return strings.Clone(s[:min(len(s), mostShown)])
}

// fail has the request fail. What it read stays read: it must be as it was for the failure, too.
func (j *Job) fail(why api.Errno) {
	j.tx.Drop()
	j.comeTo(api.Reply{Status: api.RepFailed, Why: int(why)})
}

// comeTo has its reply be one that is still to be committed; the machine has nothing to do any more.
func (j *Job) comeTo(r api.Reply) {
	r.ID = j.request.ID
	j.reply, j.machine, j.phase = r, nil, locking
}
