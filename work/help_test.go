package work_test

import (
	"bytes"
	"fmt"
	"maps"
	"slices"
	"strings"
	"testing"

	"rostrum/api"
	"rostrum/code"
	"rostrum/datum"
	"rostrum/disk"
	"rostrum/heap"
	"rostrum/prims"
	"rostrum/serial"
	"rostrum/session"
	"rostrum/stm"
	"rostrum/store"
	"rostrum/vm"
	"rostrum/wire"
	"rostrum/work"
)

const (
	logs  = 300
	pages = 300
	young = 4000
	old   = 40000
	fuel  = 20000 // all that a job has
	most  = 1 << 40
)

// place is where jobs are done.
type place struct {
	t  *testing.T
	d  *disk.Disk
	st *store.Store
	sp *stm.Space
}

func newPlace(t *testing.T, slots ...api.Slot) *place {
	t.Helper()
	d, e := disk.New(logs + pages)
	want(t, "disk.New", e, api.OK)
	p := &place{t: t, d: d}
	p.st, e = store.Open(d, logs, pages)
	want(t, "store.Open", e, api.OK)
	p.sp, e = stm.New(slots)
	want(t, "stm.New", e, api.OK)
	return p
}

func want(t *testing.T, what string, e, why api.Errno) {
	t.Helper()
	if e != why {
		t.Fatalf("%s: %v, want %v", what, e, why)
	}
}

func running(id, text string) api.Request {
	return api.Request{ID: id, Kind: api.AskRun, Text: text}
}

func resuming(id string, session int, text string) api.Request {
	return api.Request{ID: id, Kind: api.AskResume, Session: session, Text: text}
}

func (p *place) start(r api.Request) *work.Job {
	p.t.Helper()
	j, e := work.Start(p.sp, p.st, r)
	if j == nil || e != api.OK || j.Tries() != 1 || j.Request() != r {
		p.t.Fatalf("Start(%v): %v", r, e)
	}
	p.wantNoReply("begun", j)
	return j
}

func (p *place) run(text string) *work.Job { p.t.Helper(); return p.start(running("q", text)) }

func (p *place) wantNoReply(what string, j *work.Job) {
	p.t.Helper()
	if r, ok := j.Reply(); ok || r != (api.Reply{}) {
		p.t.Fatalf("%s: %v, %v", what, r, ok)
	}
}

// wantAt: how far a job is.
func (p *place) wantAt(what string, j *work.Job, phase, tries int) {
	p.t.Helper()
	if j.Phase() != phase || j.Tries() != tries {
		p.t.Fatalf("%s: phase %d, tries %d; want %d, %d", what, j.Phase(), j.Tries(), phase, tries)
	}
	if phase < 4 {
		p.wantNoReply(what, j)
	}
}

// goes takes a job so many steps further.
func (p *place) goes(j *work.Job, steps int) {
	p.t.Helper()
	for range steps {
		want(p.t, "Go", j.Go(most), api.OK)
	}
}

// ends takes a job to its end, from a phase on.
func (p *place) ends(what string, j *work.Job, phase int) api.Reply {
	p.t.Helper()
	tries := j.Tries()
	for ; phase < 4; phase++ {
		p.wantAt(what, j, phase, tries)
		want(p.t, what, j.Go(most), api.OK)
	}
	p.wantAt(what, j, 4, tries)
	r, ok := j.Reply()
	if !ok {
		p.t.Fatalf("%s: no reply", what)
	}
	return r
}

// asks is the reply to a request that nobody clashes with.
func (p *place) asks(r api.Request) api.Reply {
	p.t.Helper()
	j := p.start(r)
	return p.ends(r.Text, j, j.Phase())
}

func doneWith(id, text string) api.Reply {
	return api.Reply{ID: id, Status: api.RepDone, Text: text}
}

func failedWith(id string, why api.Errno) api.Reply {
	return api.Reply{ID: id, Status: api.RepFailed, Why: int(why)}
}

func suspendedWith(id string, session int, text string) api.Reply {
	return api.Reply{ID: id, Status: api.RepSession, Session: session, Text: text}
}

func (p *place) wantReply(what string, got, r api.Reply) {
	p.t.Helper()
	if got != r {
		p.t.Errorf("%.200s: %.300s, want %.300s", what, fmt.Sprint(got), fmt.Sprint(r))
	}
}

// wantKept: a reply is kept in the store.
func (p *place) wantKept(what string, r api.Reply) {
	p.t.Helper()
	if got, ok, e := session.Cached(p.st, r.ID); got != r || !ok || e != api.OK {
		p.t.Errorf("%.200s: kept is %v, %v, %v; want %v", what, got, ok, e, r)
	}
}

// wantKeys: the store has just these keys.
func (p *place) wantKeys(what string, keys ...string) {
	p.t.Helper()
	if l, e := p.st.Keys(); e != api.OK || !slices.Equal(l, keys) {
		p.t.Errorf("%.200s: keys %q, %v; want %q", what, l, e, keys)
	}
}

// wantRoots: the space has just these slots, and the store the same roots.
func (p *place) wantRoots(what string, clock int, want map[string]string) {
	p.t.Helper()
	got, kept := map[string]string{}, map[string]string{}
	for _, x := range p.sp.Slots() {
		got[x.Name] = string(x.Bytes)
	}
	l, e := session.Roots(p.st)
	for _, x := range l {
		kept[x.Name] = string(x.Bytes)
	}
	if p.sp.Clock() != clock || !maps.Equal(got, want) || e != api.OK || !maps.Equal(kept, want) {
		p.t.Errorf("%.200s: clock %d, slots %q, roots %q, %v; want %d, %q", what, p.sp.Clock(), got, kept, e, clock, want)
	}
}

// value is the bytes of a datum as a root.
func value(t *testing.T, text string) string {
	t.Helper()
	l, err := datum.Read(text)
	if err != nil || len(l) != 1 {
		t.Fatalf("%s: %v", text, err)
	}
	h, _ := heap.New(young, old)
	w, e := prims.Load(h, l[0])
	want(t, "prims.Load", e, api.OK)
	b, e := serial.Encode(h, w)
	want(t, "serial.Encode", e, api.OK)
	return string(b)
}

func slot(t *testing.T, name, text string) api.Slot {
	t.Helper()
	return api.Slot{Name: name, Bytes: []byte(value(t, text))}
}

func (p *place) begin() *stm.Tx {
	p.t.Helper()
	tx, e := p.sp.Begin()
	want(p.t, "stm.Begin", e, api.OK)
	return tx
}

// locks is another transaction, which holds a slot.
func (p *place) locks(name, text string) *stm.Tx {
	p.t.Helper()
	tx := p.begin()
	want(p.t, "Put", tx.Put(name, []byte(value(p.t, text))), api.OK)
	want(p.t, "Lock", tx.Lock(), api.OK)
	return tx
}

// publishes has another transaction change a slot.
func (p *place) publishes(name, text string) {
	p.t.Helper()
	tx := p.locks(name, text)
	want(p.t, "Check", tx.Check(), api.OK)
	want(p.t, "Publish", tx.Publish(), api.OK)
}

// wantFree: nobody holds a slot.
func (p *place) wantFree(what, name string) {
	p.t.Helper()
	tx := p.begin()
	tx.Put(name, nil)
	if e := tx.Lock(); e != api.OK {
		p.t.Errorf("%s: Lock of %s: %v", what, name, e)
	}
	tx.Abort()
}

func (p *place) wantHeld(what, name string) {
	p.t.Helper()
	tx := p.begin()
	tx.Put(name, nil)
	if e := tx.Lock(); e != api.ErrClash {
		p.t.Errorf("%s: Lock of %s: %v", what, name, e)
	}
}

func (p *place) batch(l ...api.Change) {
	p.t.Helper()
	want(p.t, "Batch", p.st.Batch(l), api.OK)
}

// packed has the store have a session.
func (p *place) packed(id int, b []byte) {
	p.t.Helper()
	l, e := session.Pack(id, b)
	want(p.t, "Pack", e, api.OK)
	p.batch(l...)
}

// machine is one that ran a program alone, as a job's does.
func machine(t *testing.T, text string, env vm.Env) *vm.Machine {
	t.Helper()
	m := freshMachine(t, text)
	m.Run(fuel, env)
	return m
}

func freshMachine(t *testing.T, text string) *vm.Machine {
	t.Helper()
	c, err := code.Source(text)
	if err != nil {
		t.Fatalf("%.100s: %v", text, err)
	}
	m, e := vm.New(c, young, old)
	want(t, "vm.New", e, api.OK)
	return m
}

// resumedMachine is one that goes on with the datum of a text.
func resumedMachine(t *testing.T, b []byte, text string) *vm.Machine {
	t.Helper()
	l, err := datum.Read(text)
	if err != nil || len(l) != 1 {
		t.Fatalf("%s: %v", text, err)
	}
	m, e := vm.Load(b, l[0], young, old)
	want(t, "vm.Load", e, api.OK)
	return m
}

// saved is the bytes of a program that is suspended.
func saved(t *testing.T, text string) []byte {
	t.Helper()
	b, e := machine(t, text, nil).Save()
	want(t, "Save", e, api.OK)
	return b
}

// handMade is the bytes of a session whose frame is a word that no machine saves.
func handMade(t *testing.T, frame api.Word) []byte {
	t.Helper()
	c, e := code.Encode(api.Code{Instrs: []api.Instr{{Op: api.OpHalt}}})
	want(t, "code.Encode", e, api.OK)
	h, _ := heap.New(young, old)
	globals, e := h.Make(api.KVector)
	want(t, "Make", e, api.OK)
	w, e := h.Make(api.KVector, frame, globals, api.Nil)
	want(t, "Make", e, api.OK)
	b, e := serial.Encode(h, w)
	want(t, "serial.Encode", e, api.OK)
	return wire.Text(wire.Text(nil, string(c)), string(b))
}

// memory is a world outside of a machine that runs alone.
type memory map[string]string

func (m memory) Get(name string) ([]byte, api.Errno) { return []byte(m[name]), api.OK }

func (m memory) Put(name string, b []byte) api.Errno {
	m[name] = string(b)
	return api.OK
}

func rep(s string, n int) string { return strings.Repeat(s, n) }

// wantSameDisk: two disks hold the same, durable or not.
func wantSameDisk(t *testing.T, what string, a, b *disk.Disk) {
	t.Helper()
	same := slices.EqualFunc(a.Image(), b.Image(), bytes.Equal)
	same = same && slices.EqualFunc(a.Pending(), b.Pending(), func(x, y api.Sent) bool {
		return x.Sector == y.Sector && bytes.Equal(x.Bytes, y.Bytes)
	})
	if !same {
		t.Errorf("%s: the disks part", what)
	}
}
