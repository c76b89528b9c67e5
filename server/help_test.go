package server_test

import (
	"bytes"
	"fmt"
	"maps"
	"slices"
	"strings"
	"testing"

	"rostrum/api"
	"rostrum/aries"
	"rostrum/btree"
	"rostrum/code"
	"rostrum/datum"
	"rostrum/disk"
	"rostrum/heap"
	"rostrum/net"
	"rostrum/prims"
	"rostrum/serial"
	"rostrum/server"
	"rostrum/store"
	"rostrum/vm"
)

const (
	sectors = 600
	logs    = 300
	fuel    = 20000 // all that a request has
	most    = 1 << 40
)

// place is a server under test.
type place struct {
	t *testing.T
	d *disk.Disk
	s *server.Server
}

func newDisk(t *testing.T, sectors int) *disk.Disk {
	t.Helper()
	d, e := disk.New(sectors)
	want(t, "disk.New", e, api.OK)
	return d
}

func newPlace(t *testing.T, workers int) *place {
	t.Helper()
	return onDisk(t, newDisk(t, sectors), workers)
}

func onDisk(t *testing.T, d *disk.Disk, workers int) *place {
	t.Helper()
	s, e := server.New(d, workers)
	if s == nil || e != api.OK || s.Disk() != d {
		t.Fatalf("New: %v", e)
	}
	return &place{t, d, s}
}

func want(t *testing.T, what string, e, why api.Errno) {
	t.Helper()
	if e != why {
		t.Fatalf("%s: %v, want %v", what, e, why)
	}
}

// does does a step that sends no reply.
func (p *place) does(what string, x api.Step) {
	p.t.Helper()
	p.refuses(what, x, api.OK)
}

func (p *place) refuses(what string, x api.Step, why api.Errno) {
	p.t.Helper()
	if r, ok, e := p.s.Do(x); r != (api.Reply{}) || ok || e != why {
		p.t.Fatalf("%s: %v, %v, %v; want no reply, %v", what, r, ok, e, why)
	}
}

// tells does a step in which a reply is sent.
func (p *place) tells(what string, x api.Step, r api.Reply) {
	p.t.Helper()
	if got, ok, e := p.s.Do(x); got != r || !ok || e != api.OK {
		p.t.Fatalf("%s: %v, %v, %v; want %v", what, got, ok, e, r)
	}
}

func send(b []byte) api.Step     { return api.Step{Kind: api.StepSend, Bytes: b} }
func drop(n int) api.Step        { return api.Step{Kind: api.StepDrop, N: n} }
func twice(n int) api.Step       { return api.Step{Kind: api.StepTwice, N: n} }
func deliver(n int) api.Step     { return api.Step{Kind: api.StepDeliver, N: n} }
func run(n, m int) api.Step      { return api.Step{Kind: api.StepRun, N: n, M: m} }
func collect(n int) api.Step     { return api.Step{Kind: api.StepCollect, N: n} }
func flush() api.Step            { return api.Step{Kind: api.StepFlush} }
func check() api.Step            { return api.Step{Kind: api.StepCheck} }
func crash(mask uint64) api.Step { return api.Step{Kind: api.StepCrash, Mask: mask} }

func running(id, text string) api.Request {
	return api.Request{ID: id, Kind: api.AskRun, Text: text}
}

func resuming(id string, session int, text string) api.Request {
	return api.Request{ID: id, Kind: api.AskResume, Session: session, Text: text}
}

func message(t *testing.T, r api.Request) []byte {
	t.Helper()
	b, e := net.Ask(r)
	want(t, "net.Ask", e, api.OK)
	return b
}

// begins has the first worker that is free begin a request; no message may be on the way.
func (p *place) begins(r api.Request) {
	p.t.Helper()
	p.does("send", send(message(p.t, r)))
	p.does("deliver", deliver(0))
}

// ends takes a worker's job to its end.
func (p *place) ends(worker int) api.Reply {
	p.t.Helper()
	for range 100 {
		r, ok, e := p.s.Do(run(worker, most))
		want(p.t, "run", e, api.OK)
		if ok {
			return r
		}
	}
	p.t.Fatal("it does not end")
	return api.Reply{}
}

// asks is the reply to a request that the first worker takes.
func (p *place) asks(r api.Request) api.Reply {
	p.t.Helper()
	p.begins(r)
	return p.ends(0)
}

func (p *place) wantAsked(r api.Request, reply api.Reply) {
	p.t.Helper()
	if got := p.asks(r); got != reply {
		p.t.Fatalf("%v: %v, want %v", r, got, reply)
	}
}

func doneWith(id, text string) api.Reply {
	return api.Reply{ID: id, Status: api.RepDone, Text: text}
}

func failedWith(id string, why api.Errno) api.Reply {
	return api.Reply{ID: id, Status: api.RepFailed, Why: int(why)}
}

func suspendedWith(id string, session int, text string) api.Reply {
	return api.Reply{ID: id, Status: api.RepSession, Session: session, Text: text}
}

func entry(kind int, r api.Reply) api.Entry { return api.Entry{Kind: kind, ID: r.ID, Reply: r} }

func (p *place) wantJournal(what string, l ...api.Entry) {
	p.t.Helper()
	if got := p.s.Journal(); !slices.Equal(got, l) {
		p.t.Errorf("%s: the journal is %v, want %v", what, got, l)
	}
}

func (p *place) wantBusy(what string, l ...string) {
	p.t.Helper()
	if got := p.s.Busy(); !slices.Equal(got, l) {
		p.t.Errorf("%s: busy are %q, want %q", what, got, l)
	}
}

func (p *place) wantQueue(what string, l ...[]byte) {
	p.t.Helper()
	if got := p.s.Queue(); !slices.EqualFunc(got, l, bytes.Equal) {
		p.t.Errorf("%s: on the way are %q, want %q", what, got, l)
	}
}

func (p *place) wantSessions(what string, l ...int) {
	p.t.Helper()
	if got := p.s.Sessions(); !slices.Equal(got, l) {
		p.t.Errorf("%s: sessions %v, want %v", what, got, l)
	}
}

// wantRoots: each text is a name, and behind a = the datum that it has.
func (p *place) wantRoots(what string, l ...string) {
	p.t.Helper()
	m := memory{}
	for _, x := range l {
		name, text, _ := strings.Cut(x, "=")
		m[name] = value(p.t, text)
	}
	p.wantMemory(what, m)
}

func (p *place) wantMemory(what string, m memory) {
	p.t.Helper()
	got := p.s.Roots()
	names := slices.Sorted(maps.Keys(m))
	same := slices.EqualFunc(got, names, func(x api.Slot, name string) bool {
		return x.Name == name && x.Version == 0 && string(x.Bytes) == m[name]
	})
	if !same {
		p.t.Errorf("%s: roots %v, want %q", what, got, m)
	}
}

// value is the bytes of a datum as a root.
func value(t *testing.T, text string) string {
	t.Helper()
	h, _ := heap.New(4000, 40000)
	w, e := prims.Load(h, oneDatum(t, text))
	want(t, "prims.Load", e, api.OK)
	b, e := serial.Encode(h, w)
	want(t, "serial.Encode", e, api.OK)
	return string(b)
}

func oneDatum(t *testing.T, text string) api.Datum {
	t.Helper()
	l, err := datum.Read(text)
	if err != nil || len(l) != 1 {
		t.Fatalf("%s: %v", text, err)
	}
	return l[0]
}

// same tells whether two disks hold the same, durable or not.
func same(a, b *disk.Disk) bool {
	return slices.EqualFunc(a.Image(), b.Image(), bytes.Equal) && slices.EqualFunc(a.Pending(), b.Pending(), func(x, y api.Sent) bool {
		return x.Sector == y.Sector && bytes.Equal(x.Bytes, y.Bytes)
	})
}

// within changes the pages of a disk in a transaction of its own.
func within(t *testing.T, d *disk.Disk, do func(m *aries.Manager, tx int)) {
	t.Helper()
	m, e := aries.Open(d, logs, d.Sectors()-logs, api.MaxBuffers)
	want(t, "aries.Open", e, api.OK)
	tx, e := m.Begin()
	want(t, "Begin", e, api.OK)
	do(m, tx)
	want(t, "Commit", m.Commit(tx), api.OK)
}

// oddRoot has a disk's store have a root that can't be told: session.Roots is ErrNode.
func oddRoot(t *testing.T, d *disk.Disk) {
	t.Helper()
	within(t, d, func(m *aries.Manager, tx int) {
		want(t, "btree.Put", btree.Put(m, tx, "vodd", "odd"), api.OK)
	})
}

// kept has a new disk's store have some keys: each text is a key, and its bytes behind a =.
func kept(t *testing.T, l ...string) *disk.Disk {
	t.Helper()
	d := newDisk(t, sectors)
	s, e := store.Open(d, logs, sectors-logs)
	want(t, "store.Open", e, api.OK)
	for _, x := range l {
		key, b, _ := strings.Cut(x, "=")
		want(t, "Batch", s.Batch([]api.Change{{Key: key, Bytes: []byte(b)}}), api.OK)
	}
	return d
}

// memory is roots as a machine that runs alone has them.
type memory map[string]string

func (m memory) Get(name string) ([]byte, api.Errno) { return []byte(m[name]), api.OK }

func (m memory) Put(name string, b []byte) api.Errno {
	m[name] = string(b)
	return api.OK
}

// model is what requests mean, one behind the other.
type model struct {
	t        *testing.T
	roots    memory
	sessions [][]byte
}

func newModel(t *testing.T) *model { return &model{t: t, roots: memory{}} }

func (m *model) do(r api.Request) api.Reply {
	m.t.Helper()
	if r.Kind == api.AskRun {
		c, err := code.Source(r.Text)
		if err != nil {
			return failedWith(r.ID, err.(api.Fault).Why)
		}
		x, e := vm.New(c, 4000, 40000)
		want(m.t, "vm.New", e, api.OK)
		return m.came(r.ID, x)
	}
	if r.Session > len(m.sessions) {
		return failedWith(r.ID, api.ErrSession)
	}
	x, e := vm.Load(m.sessions[r.Session-1], oneDatum(m.t, r.Text), 4000, 40000)
	want(m.t, "vm.Load", e, api.OK)
	return m.came(r.ID, x)
}

// came is the reply of a machine that runs over the roots.
func (m *model) came(id string, x *vm.Machine) api.Reply {
	m.t.Helper()
	env := maps.Clone(m.roots)
	switch x.Run(fuel, env) {
	case api.Done:
		m.roots = env
		return doneWith(id, x.Value())
	case api.Suspended:
		b, e := x.Save()
		want(m.t, "Save", e, api.OK)
		m.roots, m.sessions = env, append(m.sessions, b)
		return suspendedWith(id, len(m.sessions), x.Value())
	case api.Failed:
		return failedWith(id, x.Why())
	}
	return failedWith(id, api.ErrFuel)
}

func rep(s string, n int) string { return strings.Repeat(s, n) }

func text(x any) string { return fmt.Sprint(x) }
