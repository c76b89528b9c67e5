package stm

import (
	"bytes"

	"rostrum/api"
)

// Phases of a transaction.
const (
	open = iota
	locked
	checked
	published
	givenUp
)

// Tx is a transaction.
type Tx struct {
	space  *Space
	time   int // the clock when it began
	reads  map[string]struct{}
	writes map[string][]byte
	phase  int
}

func (t *Tx) missing() bool { return t == nil || t.space == nil }

// refuse is why a call can't be made in any phase but these.
func (t *Tx) refuse(phases ...int) api.Errno {
	if t.missing() {
		return api.ErrNil
	}
	for _, p := range phases {
		if t.phase == p {
			return api.OK
		}
	}
	return api.ErrState
}

// refuseName is why a name can't be read or written now.
func (t *Tx) refuseName(name string) api.Errno {
	if e := t.refuse(open); e != api.OK {
		return e
	}
	if !isName(name) {
		return api.ErrName
	}
	return api.OK
}

// Get is a slot's bytes as the transaction sees them, Put gives it others.
func (t *Tx) Get(name string) ([]byte, api.Errno) {
	if e := t.refuseName(name); e != api.OK {
		return nil, e
	}
	if b, wrote := t.writes[name]; wrote {
		return bytes.Clone(b), api.OK
	}
	if t.isTaken(name) || t.isNewer(name) {
		return nil, t.clash()
	}
	t.reads[name] = struct{}{}
	return bytes.Clone(t.space.slots[name].bytes), api.OK
}

func (t *Tx) Put(name string, b []byte) api.Errno {
	if e := t.refuseName(name); e != api.OK {
		return e
	}
	t.writes[name] = bytes.Clone(b)
	return api.OK
}

// isTaken tells whether another one holds a slot's lock.
func (t *Tx) isTaken(name string) bool {
	owner := t.space.locks[name]
	return owner != nil && owner != t
}

// isNewer tells whether a slot was changed since the transaction began.
func (t *Tx) isNewer(name string) bool { return t.space.slots[name].version > t.time }

// clash gives it up.
func (t *Tx) clash() api.Errno {
	t.end(givenUp)
	return api.ErrClash
}

// end lets its locks go.
func (t *Tx) end(phase int) {
	for name := range inOrder(t.writes) {
		if t.space.locks[name] == t {
			delete(t.space.locks, name)
		}
	}
	t.phase = phase
}

// Lock locks all that is written, Check looks whether what was read is as it was, Publish makes it seen, Abort ends it.
func (t *Tx) Lock() api.Errno {
	if e := t.refuse(open); e != api.OK {
		return e
	}
	for name := range inOrder(t.writes) {
		if t.isTaken(name) {
			return t.clash()
		}
	}
	for name := range inOrder(t.writes) {
		t.space.locks[name] = t
	}
	t.phase = locked
	return api.OK
}

func (t *Tx) Check() api.Errno {
	if e := t.refuse(locked, checked); e != api.OK {
		return e
	}
	if t.isStale() {
		return t.clash()
	}
	t.phase = checked
	return api.OK
}

// isStale tells whether something that was read is not, or may soon not be, what it was.
func (t *Tx) isStale() bool {
	for name := range inOrder(t.reads) {
		if t.isTaken(name) || t.isNewer(name) {
			return true
		}
	}
	return false
}

func (t *Tx) Publish() api.Errno {
	if e := t.refuse(checked); e != api.OK {
		return e
	}
	if t.isStale() {
		return t.clash()
	}
	if len(t.writes) > 0 {
		t.space.clock++
	}
	for name, b := range inOrder(t.writes) {
		t.space.slots[name] = slot{version: t.space.clock, bytes: b}
	}
	t.end(published)
	return api.OK
}

func (t *Tx) Abort() api.Errno {
	if e := t.refuse(open, locked, checked); e != api.OK {
		return e
	}
	t.end(givenUp)
	return api.OK
}

// Drop forgets what was written.
func (t *Tx) Drop() api.Errno {
	if e := t.refuse(open); e != api.OK {
		return e
	}
	clear(t.writes)
	return api.OK
}

// Reads and Writes are the names that were read, and the slots that are to be written, rising; Phase is how far it is.
func (t *Tx) Reads() []string {
	if t.missing() {
		return nil
	}
	var l []string
	for name := range inOrder(t.reads) {
		l = append(l, name)
	}
	return l
}

func (t *Tx) Writes() []api.Slot {
	if t.missing() {
		return nil
	}
	var l []api.Slot
	for name, b := range inOrder(t.writes) {
		l = append(l, api.Slot{Name: name, Bytes: bytes.Clone(b)})
	}
	return l
}

func (t *Tx) Phase() int {
	if t.missing() {
		return givenUp
	}
	return t.phase
}
