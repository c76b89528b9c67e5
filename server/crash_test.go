package server_test

import (
	"testing"

	"rostrum/api"
	"rostrum/disk"
)

// P22.2: StepCrash

// TestCrash: the eighth of the document's examples, in each phase.
func TestCrash(t *testing.T) {
	for steps := range 5 {
		p := newPlace(t, 2)
		a, b := doneWith("a", "#!void"), doneWith("b", "#!void")
		p.wantAsked(running("a", "(root-set! 'x 5)"), a)
		p.begins(running("b", "(root-set! 'x 6)"))
		l := []api.Entry{entry(api.LogDone, a), entry(api.LogSent, a)}
		for i := range steps {
			if i < 3 {
				p.does("run", run(0, most))
				continue
			}
			p.tells("run", run(0, most), b)
			l = append(l, entry(api.LogDone, b), entry(api.LogSent, b))
		}
		m, junk := message(t, running("b", "(root-set! 'x 6)")), []byte("junk")
		p.does("send", send(m))
		p.does("send", send(junk))
		p.does("crash", crash(0))
		l = append(l, api.Entry{Kind: api.LogCrash})
		p.wantJournal("crashed", l...)
		p.wantBusy("crashed", "", "")
		p.wantQueue("crashed", m, junk)
		if steps == 4 {
			p.wantRoots("behind the commit", "x=6")
			p.tells("behind the commit", deliver(0), b)
			continue
		}
		p.wantRoots("ahead of the commit", "x=5")
		p.does("ahead of the commit", deliver(0))
		p.wantBusy("ahead of the commit", "b", "")
		if r := p.ends(0); r != b {
			t.Errorf("%v", r)
		}
		p.wantRoots("begun anew", "x=6")
		p.wantJournal("begun anew", append(l, entry(api.LogDone, b), entry(api.LogSent, b))...)
	}
}

// TestCrashForgetsLocks: of jobs that are gone nothing clashes with others.
func TestCrashForgetsLocks(t *testing.T) {
	p := newPlace(t, 2)
	p.begins(running("a", "(root-set! 'x 5)"))
	p.does("run", run(0, most))
	p.does("lock", run(0, most))
	p.does("crash", crash(0))
	p.begins(running("b", "(root-set! 'x 6)"))
	for range 3 {
		p.does("run", run(0, most))
	}
	p.tells("run", run(0, most), doneWith("b", "#!void"))
}

// TestMask: of the pending writes those at the places of its bits stay; of those behind the 64th none.
func TestMask(t *testing.T) {
	for _, x := range []struct {
		mask   uint64
		writes int
	}{
		{0, 0}, {^uint64(0), 0}, {0, 3}, {1, 1}, {1, 3}, {2, 3}, {4, 3}, {5, 3}, {8, 3}, {1 << 63, 3},
		{^uint64(0), 3}, {^uint64(0), 64}, {^uint64(0), 70}, {1 << 63, 70}, {1<<63 | 1, 64}, {0xa5a5a5a5a5a5a5a5, 70}, {0, 70},
	} {
		p := newPlace(t, 1)
		p.does("check", check())
		p.does("flush", flush())
		p.wantNoPending()
		for i := range x.writes {
			want(t, "Write", p.d.Write(sectors-100+i, []byte(rep("x", api.Size))), api.OK)
		}
		p.does("crash", api.Step{Kind: api.StepCrash, Mask: x.mask, N: 5, M: 6, Bytes: []byte("z")})
		p.does("flush", flush())
		for i, b := range p.d.Image()[sectors-100:] {
			stays := i < x.writes && i < 64 && x.mask>>i&1 == 1
			if (b[0] == 'x') != stays {
				t.Errorf("mask %x: the write %d of %d: stays %v, want %v", x.mask, i, x.writes, !stays, stays)
			}
		}
	}
}

func (p *place) wantNoPending() {
	p.t.Helper()
	if n := len(p.d.Pending()); n > 0 {
		p.t.Fatalf("%d are pending", n)
	}
}

// TestTheOrderOfWrites: what stays is done in the order in which it was written.
func TestTheOrderOfWrites(t *testing.T) {
	for mask, c := range map[uint64]byte{0: 0, 1: 'a', 2: 'b', 3: 'b', 4: 'c', 5: 'c', 7: 'c'} {
		p := newPlace(t, 1)
		p.does("check", check())
		p.does("flush", flush())
		for _, s := range []string{"a", "b", "c"} {
			want(t, "Write", p.d.Write(sectors-1, []byte(rep(s, api.Size))), api.OK)
		}
		p.does("crash", crash(mask))
		if b, e := p.d.Read(sectors - 1); b[0] != c || e != api.OK {
			t.Errorf("mask %d: %q, %v, want %q", mask, b[0], e, c)
		}
	}
}

// breaks are ways in which a disk can't be opened: how it is broken, and with what error.
func breaks() map[string]struct {
	do  func(t *testing.T, d *disk.Disk)
	why api.Errno
} {
	return map[string]struct {
		do  func(t *testing.T, d *disk.Disk)
		why api.Errno
	}{
		"a page that can't be": {func(t *testing.T, d *disk.Disk) {
			want(t, "Write", d.Write(logs, []byte(rep("x", api.Size))), api.OK)
			want(t, "Flush", d.Flush(), api.OK)
		}, api.ErrSum},
		"a root that can't be told": {oddRoot, api.ErrNode},
	}
}

// TestItDoesNotComeUp: then all steps but StepCrash are ErrState, till one of these finds a disk that can be.
func TestItDoesNotComeUp(t *testing.T) {
	for what, x := range breaks() {
		p := newPlace(t, 2)
		a := suspendedWith("a", 1, "1")
		p.wantAsked(running("a", "(root-set! 'x 5) (suspend 1)"), a)
		p.does("check", check())
		whole := p.d.Image()
		p.begins(running("b", "1"))
		m := message(t, running("a", "1"))
		p.does("send", send(m))
		x.do(t, p.d)
		p.refuses(what, crash(0), x.why)
		l := []api.Entry{entry(api.LogDone, a), entry(api.LogSent, a), {Kind: api.LogCrash}}
		for range 2 {
			for kind := -1; kind <= api.NumSteps; kind++ {
				if kind != api.StepCrash {
					p.refuses(what, api.Step{Kind: kind, Bytes: m}, api.ErrState)
				}
			}
			p.refuses(what, run(7, 1), api.ErrState)
			p.wantJournal(what, l...)
			p.wantBusy(what, "", "")
			p.wantQueue(what, m)
			p.wantRoots(what)
			p.wantSessions(what)
			if p.s.Disk() != p.d {
				t.Errorf("%s: another disk", what)
			}
			p.refuses(what, crash(3), x.why)
			l = append(l, api.Entry{Kind: api.LogCrash})
		}
		for i, b := range whole {
			want(t, "Write", p.d.Write(i, b), api.OK)
		}
		want(t, "Flush", p.d.Flush(), api.OK)
		p.refuses("it is down still", flush(), api.ErrState)
		p.does("it comes up", crash(0))
		p.wantJournal("it is up", append(l, api.Entry{Kind: api.LogCrash})...)
		p.wantRoots("it is up", "x=5")
		p.wantSessions("it is up", 1)
		p.wantBusy("it is up", "", "")
		p.tells("it is up", deliver(0), a)
		p.wantAsked(resuming("c", 1, "2"), doneWith("c", "2"))
	}
}

// TestCrashLosesWhatIsNotDurable: by the mask of the write that breaks the disk it comes up, or not.
func TestCrashLosesWhatIsNotDurable(t *testing.T) {
	for mask, why := range map[uint64]api.Errno{0: api.OK, 1: api.ErrSum, 2: api.OK, 3: api.ErrSum} {
		p := newPlace(t, 1)
		p.does("check", check())
		p.does("flush", flush())
		want(t, "Write", p.d.Write(logs, []byte(rep("x", api.Size))), api.OK)
		p.refuses("crash", crash(mask), why)
	}
}
