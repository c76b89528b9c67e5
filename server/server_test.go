package server_test

import (
	"testing"

	"rostrum/api"
	"rostrum/disk"
	"rostrum/server"
)

// P22.1

func TestNewRefuses(t *testing.T) {
	refused := func(what string, d *disk.Disk, workers int, why api.Errno) {
		t.Helper()
		was := d.Copy()
		if s, e := server.New(d, workers); s != nil || e != why {
			t.Errorf("%s: a server %v, %v, want %v", what, s != nil, e, why)
		}
		if was != nil && !same(d, was) {
			t.Errorf("%s: the disk is another one", what)
		}
	}
	for _, workers := range []int{0, 1, 9} {
		refused("no disk", nil, workers, api.ErrNil)
		refused("a plain disk", &disk.Disk{}, workers, api.ErrNil)
	}
	for _, workers := range []int{0, -1, api.MaxWorkers + 1, most, -most} {
		refused("another count of workers", newDisk(t, sectors), workers, api.ErrArg)
	}
	for _, n := range []int{1, 300, 309} {
		refused("a small disk", newDisk(t, n), 1, api.ErrArg)
	}
	odd := newDisk(t, sectors)
	want(t, "Write", odd.Write(logs, []byte(rep("x", api.Size))), api.OK)
	refused("a page that can't be, pending", odd, 1, api.ErrSum)
	refused("a page that can't be, and too many workers", odd, 5, api.ErrArg)
	want(t, "Flush", odd.Flush(), api.OK)
	refused("a page that can't be", odd, 1, api.ErrSum)
	d := kept(t, "vx="+value(t, "5"), "ra=no reply")
	oddRoot(t, d)
	refused("a root that can't be told", d, 1, api.ErrNode)
}

func TestNewTakesTheEdges(t *testing.T) {
	for _, n := range []int{310, 311, api.MaxSectors} {
		for workers := 1; workers <= api.MaxWorkers; workers++ {
			p := onDisk(t, newDisk(t, n), workers)
			p.wantBusy("at first", make([]string, workers)...)
			p.wantRoots("at first")
			p.wantSessions("at first")
			p.wantQueue("at first")
			p.wantJournal("at first")
			p.wantAsked(running("a", "(+ 1 2)"), doneWith("a", "3"))
		}
	}
}

// TestNewOnADiskThatWasUsed: roots, sessions and replies are there; messages, jobs and the journal were the other server's.
func TestNewOnADiskThatWasUsed(t *testing.T) {
	p := newPlace(t, 2)
	p.wantAsked(running("a", "(root-set! 'x 5)"), doneWith("a", "#!void"))
	p.wantAsked(running("b", "(+ (root-ref 'x) (suspend 1))"), suspendedWith("b", 1, "1"))
	p.begins(running("c", "(root-set! 'x 6)"))
	p.does("run", run(0, most))
	p.does("send", send(nil))
	q := onDisk(t, p.d.Copy(), 1)
	q.wantBusy("anew", "")
	q.wantQueue("anew")
	q.wantJournal("anew")
	q.wantRoots("anew", "x=5")
	q.wantSessions("anew", 1)
	q.does("send", send(message(t, running("a", "(root-set! 'x 7)"))))
	q.tells("deliver", deliver(0), doneWith("a", "#!void"))
	q.wantAsked(resuming("d", 1, "10"), doneWith("d", "15"))
	q.wantRoots("at the end", "x=5")
}

// TestWhereItsPagesAre: a log of 300 sectors, all others pages. (One more or less, and the store of the same layout would not find it.)
func TestWhereItsPagesAre(t *testing.T) {
	d := kept(t, "vx="+value(t, "5"))
	p := onDisk(t, d, 1)
	p.wantRoots("of another store", "x=5")
	pages := func(n int) int { // how many replies have room
		p := onDisk(t, newDisk(t, n), 1)
		for i := 0; ; i++ {
			if p.asks(running(text(i), "1")).Status != api.RepDone {
				return i
			}
		}
	}
	if a, b := pages(320), pages(330); a < 5 || b < a+7 {
		t.Errorf("%d replies on 20 pages, %d on 30", a, b)
	}
}

// P22.2: what is told

func TestAnswersAreNewMemory(t *testing.T) {
	p := newPlace(t, 1)
	p.wantAsked(running("a", "(root-set! 'x 5)"), doneWith("a", "#!void"))
	p.wantAsked(running("b", "(suspend 5)"), suspendedWith("b", 1, "5"))
	b := append(message(t, running("c", "5")), "spare room"...)
	m := b[:len(b)-10]
	p.does("send", send(m))
	for i := range b {
		b[i] = '!'
	}
	c := message(t, running("c", "5"))
	first, second := doneWith("a", "#!void"), suspendedWith("b", 1, "5")
	journal := []api.Entry{entry(api.LogDone, first), entry(api.LogSent, first), entry(api.LogDone, second), entry(api.LogSent, second)}
	for range 2 {
		p.wantQueue("queue", c)
		p.wantRoots("roots", "x=5")
		p.wantSessions("sessions", 1)
		p.wantJournal("journal", journal...)
		p.s.Queue()[0][0]++
		p.s.Roots()[0].Bytes[0]++
		p.s.Sessions()[0]++
		p.s.Journal()[0].ID = "z"
		p.s.Busy()[0] = "z"
	}
	longer := append(p.s.Journal(), api.Entry{ID: "z"})
	p.does("crash", crash(0))
	if last := longer[len(longer)-1]; last.ID != "z" {
		t.Errorf("the room behind the journal: %v", last)
	}
	p.does("deliver", deliver(0))
	p.wantBusy("busy", "c")
}

func TestObjectsThatNoCallMade(t *testing.T) {
	var none *server.Server
	for _, s := range []*server.Server{none, {}} {
		for kind := -1; kind <= api.NumSteps; kind++ {
			if r, ok, e := s.Do(api.Step{Kind: kind}); r != (api.Reply{}) || ok || e != api.ErrNil {
				t.Errorf("Do: %v, %v, %v", r, ok, e)
			}
		}
		if len(s.Roots())+len(s.Sessions())+len(s.Queue())+len(s.Busy())+len(s.Journal()) > 0 || s.Disk() != nil {
			t.Error("values that are not zero")
		}
	}
}
