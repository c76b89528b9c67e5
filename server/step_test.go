package server_test

import (
	"testing"

	"rostrum/api"
	"rostrum/aries"
	"rostrum/disk"
	"rostrum/store"
)

// P22.2: steps

func TestKindsThatAreNone(t *testing.T) {
	p := newPlace(t, 1)
	was := p.d.Copy()
	for _, kind := range []int{0, -1, api.NumSteps, most, -most} {
		p.refuses("another kind", api.Step{Kind: kind, Bytes: []byte("x"), Mask: 1}, api.ErrArg)
	}
	p.wantQueue("behind what was refused")
	p.wantJournal("behind what was refused")
	if !same(p.d, was) {
		t.Error("the disk is another one")
	}
}

func TestSendDropTwice(t *testing.T) {
	p := newPlace(t, 1)
	a, b := []byte("a"), []byte{}
	for _, x := range []api.Step{drop(0), twice(0), drop(-1), twice(-1), deliver(0), deliver(-1), deliver(most)} {
		p.refuses("no message", x, api.ErrNet)
	}
	p.refuses("a long message", send(make([]byte, 4097)), api.ErrLong)
	long := make([]byte, 4096)
	for _, m := range [][]byte{a, b, long} {
		p.does("send", send(m))
	}
	p.wantQueue("sent", a, b, long)
	p.does("twice", twice(0))
	p.wantQueue("twice", a, b, long, a)
	p.does("drop", drop(1))
	p.wantQueue("dropped", a, long, a)
	for _, n := range []int{-1, 3, most} {
		p.refuses("no such message", drop(n), api.ErrNet)
		p.refuses("no such message", twice(n), api.ErrNet)
		p.refuses("no such message", deliver(n), api.ErrNet)
	}
	for range api.MaxQueue - 3 {
		p.does("send", send(a))
	}
	p.refuses("too many", send(a), api.ErrFull)
	p.refuses("too many", twice(0), api.ErrFull)
	p.refuses("too many, and too long", send(make([]byte, 4097)), api.ErrLong)
	p.wantJournal("messages alone")
	if n := len(p.s.Queue()); n != api.MaxQueue {
		t.Errorf("%d messages", n)
	}
}

// TestOneRequest is the chapter's example.
func TestOneRequest(t *testing.T) {
	p := newPlace(t, 2)
	m := message(t, running("a", "(root-set! 'x 5) (root-ref 'x)"))
	p.does("send", send(m))
	p.wantQueue("sent", m)
	p.wantBusy("sent", "", "")
	p.does("deliver", deliver(0))
	p.wantQueue("delivered")
	p.wantBusy("delivered", "a", "")
	for range 3 {
		p.does("run", run(0, 100))
		p.wantBusy("running", "a", "")
		p.wantRoots("running")
		p.wantJournal("running")
	}
	r := doneWith("a", "5")
	p.tells("the last one", run(0, 100), r)
	p.wantBusy("done", "", "")
	p.wantRoots("done", "x=5")
	p.wantJournal("done", entry(api.LogDone, r), entry(api.LogSent, r))
	p.refuses("no job any more", run(0, 100), api.ErrBusy)
}

func TestDeliver(t *testing.T) {
	p := newPlace(t, 2)
	a, b, c := message(t, running("a", "1")), message(t, running("b", "2")), message(t, running("c", "3"))
	other := message(t, running("a", "(root-set! 'x 9)"))
	for _, m := range [][]byte{a, a, b, other, c, b} {
		p.does("send", send(m))
	}
	p.does("the first worker", deliver(1))
	p.wantBusy("the first worker", "a", "")
	p.wantQueue("the first worker", a, b, other, c, b)
	p.does("the same one", deliver(0))
	p.wantQueue("the same one", b, other, c, b)
	p.does("the second worker", deliver(0))
	p.wantBusy("the second worker", "a", "b")
	p.refuses("no worker is free", deliver(1), api.ErrBusy)
	p.wantQueue("no worker is free", other, c, b)
	p.does("the same name, though no worker is free", deliver(0))
	p.wantQueue("the same name", c, b)
	p.does("the same again", deliver(1))
	p.wantQueue("the same again", c)
	p.wantBusy("the same again", "a", "b")
	r := doneWith("a", "1")
	if got := p.ends(0); got != r {
		t.Errorf("%v", got)
	}
	p.does("the worker that is free", deliver(0))
	p.wantBusy("the worker that is free", "c", "b")
	p.does("send", send(other))
	p.tells("a reply that is kept, though no worker is free", deliver(0), r)
	p.wantQueue("a reply that is kept")
	p.wantBusy("a reply that is kept", "c", "b")
	p.wantJournal("a reply that is kept", entry(api.LogDone, r), entry(api.LogSent, r), entry(api.LogSent, r))
	p.wantRoots("a reply that is kept")
}

func TestDeliverWhatIsNoRequest(t *testing.T) {
	p := newPlace(t, 1)
	good := message(t, running("a", "1"))
	turned := append([]byte{}, good...)
	turned[3]++
	wrong := [][]byte{nil, {0}, []byte("hello"), turned, good[:len(good)-1], append(append([]byte{}, good...), 0), make([]byte, 4096)}
	for _, busy := range []bool{false, true} {
		for _, m := range wrong {
			p.does("send", send(m))
			p.does("send", send(good))
			p.refuses("no request", deliver(0), api.ErrForm)
			p.wantQueue("no request", good)
			p.does("drop", drop(0))
		}
		if !busy {
			p.wantBusy("no request", "")
			p.begins(running("b", "1"))
		}
	}
	p.wantJournal("no request")
}

// TestDeliverOverAReplyThatCantBe: it is none, so the request is done, and kept then.
func TestDeliverOverAReplyThatCantBe(t *testing.T) {
	for _, odd := range []string{"", "junk", "\x00"} {
		p := onDisk(t, kept(t, "ra="+odd), 1)
		r := doneWith("a", "3")
		p.wantAsked(running("a", "(+ 1 2)"), r)
		p.wantJournal("done", entry(api.LogDone, r), entry(api.LogSent, r))
	}
}

func TestRunAndCollect(t *testing.T) {
	p := newPlace(t, 2)
	for _, n := range []int{-1, 2, most, -most} {
		p.refuses("no worker", run(n, 1), api.ErrArg)
		p.refuses("no worker", collect(n), api.ErrArg)
	}
	for _, n := range []int{0, 1} {
		p.refuses("no job", run(n, 1), api.ErrBusy)
		p.refuses("no job", collect(n), api.ErrBusy)
	}
	p.begins(running("a", "(define (f n) (if (= n 0) (list 1 2) (f (- n 1)))) (f 9)"))
	p.begins(running("b", "(+ 1 2)"))
	for range 20 {
		p.does("no fuel", run(1, 0))
		p.does("no fuel", run(1, -5))
		p.does("collect", collect(1))
	}
	for range 50 {
		p.does("collect", collect(0))
		p.does("run", run(0, 1))
	}
	for range 2 { // by these it runs, and two phases are to come ahead of the last one
		p.does("run", run(1, 4))
	}
	for range 2 {
		p.does("run", run(1, 4))
		p.does("collect", collect(1))
	}
	p.tells("b", run(1, 4), doneWith("b", "3"))
	p.wantBusy("b is done", "a", "")
	p.refuses("no job any more", collect(1), api.ErrBusy)
	if r := p.ends(0); r != doneWith("a", "(1 2)") {
		t.Errorf("%v", r)
	}
}

// TestCollectPlaysItsPart: a heap that has no room for what it must keep is found when it is collected.
func TestCollectPlaysItsPart(t *testing.T) {
	const great = "(define (f n l) (if (= n 0) (length l) (f (- n 1) (cons (make-vector 990 0) l)))) (f 42 '())"
	met := map[api.Reply]int{}
	for n := 0; n < 1000; n += 10 {
		p := newPlace(t, 1)
		p.begins(running("a", great))
		p.does("run", run(0, n))
		p.does("collect", collect(0))
		met[p.ends(0)]++
	}
	if met[doneWith("a", "42")] == 0 || met[failedWith("a", api.ErrMemory)] == 0 || len(met) != 2 {
		t.Errorf("met were %v", met)
	}
}

func TestFlush(t *testing.T) {
	p := newPlace(t, 1)
	b := []byte(rep("x", api.Size))
	want(t, "Write", p.d.Write(sectors-1, b), api.OK)
	p.does("flush", flush())
	if l := p.d.Pending(); len(l) > 0 || string(p.d.Image()[sectors-1]) != string(b) {
		t.Errorf("%d are pending", len(l))
	}
}

func TestCheckpoint(t *testing.T) {
	p := newPlace(t, 2)
	records := func() int {
		m, e := aries.Open(p.d.Copy(), logs, sectors-logs, 8)
		want(t, "aries.Open", e, api.OK)
		return m.Records()
	}
	p.wantAsked(running("a", "(root-set! 'x 5)"), doneWith("a", "#!void"))
	p.begins(running("b", "(root-set! 'x 6)"))
	p.does("run", run(0, most))
	if records() == 0 {
		t.Error("the log is empty ahead of the checkpoint")
	}
	p.does("check", check())
	if n := records(); n > 0 {
		t.Errorf("the log has %d records behind the checkpoint", n)
	}
	p.wantRoots("checked", "x=5")
	p.wantBusy("checked", "b", "")
	if r := p.ends(0); r != doneWith("b", "#!void") {
		t.Errorf("%v", r)
	}
	p.does("crash", crash(0))
	p.wantRoots("behind a crash", "x=6")
}

// full is a disk whose store has so few pages that nobody has.
func full(t *testing.T, left int) *disk.Disk {
	t.Helper()
	d := newDisk(t, 340)
	s, e := store.Open(d, logs, 340-logs)
	want(t, "store.Open", e, api.OK)
	for i := 0; ; i++ {
		n, e := s.Free()
		want(t, "Free", e, api.OK)
		if n <= left {
			return d
		}
		want(t, "Batch", s.Batch([]api.Change{{Key: "x" + text(100+i), Bytes: []byte{1}}}), api.OK)
	}
}

// TestNoRoom: a reply for which there is no room is sent, but nothing was done; the request is done when it comes again, and there is room.
func TestNoRoom(t *testing.T) {
	p := onDisk(t, full(t, 0), 1)
	r := failedWith("a", api.ErrFull)
	p.wantAsked(running("a", "(root-set! 'x 1)"), r)
	p.wantJournal("no room at all", entry(api.LogSent, r))
	p.wantBusy("no room at all", "")
	p.wantAsked(running("a", "(root-set! 'x 1)"), r)
	p.wantJournal("no room still", entry(api.LogSent, r), entry(api.LogSent, r))
	s, e := store.Open(p.d, logs, 340-logs)
	want(t, "store.Open", e, api.OK)
	for _, key := range []string{"x100", "x101", "x102"} {
		want(t, "Batch", s.Batch([]api.Change{{Key: key, Gone: true}}), api.OK)
	}
	p = onDisk(t, p.d, 1)
	r = doneWith("a", "#!void")
	p.wantAsked(running("a", "(root-set! 'x 1)"), r)
	p.wantJournal("room", entry(api.LogDone, r), entry(api.LogSent, r))
	p.wantRoots("room", "x=1")
}

// TestRoomForTheReplyAlone: that it failed is kept then.
func TestRoomForTheReplyAlone(t *testing.T) {
	p := onDisk(t, full(t, 3), 1)
	r := failedWith("a", api.ErrFull)
	a := running("a", "(root-set! 'x \""+rep("x", 1000)+"\")")
	p.wantAsked(a, r)
	p.wantJournal("done", entry(api.LogDone, r), entry(api.LogSent, r))
	p.does("send", send(message(t, a)))
	p.tells("again", deliver(0), r)
	p.wantRoots("done")
}

// TestSessionsOfTheServer: the third of the document's examples.
func TestSessionsOfTheServer(t *testing.T) {
	p := newPlace(t, 1)
	p.wantAsked(running("a", "(+ 1 (suspend 7))"), suspendedWith("a", 1, "7"))
	p.wantAsked(resuming("b", 1, "4"), doneWith("b", "5"))
	p.does("crash", crash(0))
	p.wantAsked(resuming("c", 1, "10"), doneWith("c", "11"))
	p.wantAsked(resuming("d", 2, "10"), failedWith("d", api.ErrSession))
	p.wantSessions("at the end", 1)
}

// TestRootsThatCantBeTold: none with an error. (There are more pages than the store has buffers, and what is on the disk can't be.)
func TestRootsThatCantBeTold(t *testing.T) {
	p := newPlace(t, 1)
	for i := range 100 {
		p.wantAsked(running(text(i), "(root-set! 'x"+text(i)+" 5)"), doneWith(text(i), "#!void"))
	}
	if n := len(p.s.Roots()); n != 100 {
		t.Fatalf("%d roots", n)
	}
	for i := logs; i < sectors; i++ {
		want(t, "Write", p.d.Write(i, []byte(rep("x", api.Size))), api.OK)
	}
	if l := p.s.Roots(); len(l) > 0 {
		t.Errorf("%d roots, of pages that can't be", len(l))
	}
}
