package work_test

import (
	"strconv"
	"testing"

	"rostrum/api"
	"rostrum/stm"
	"rostrum/store"
	"rostrum/work"
)

// P21.1

func TestStartRefuses(t *testing.T) {
	p := newPlace(t)
	was := p.d.Copy()
	good := running("q", "(root-set! 'x 1)")
	wrong := running("", "1")
	refused := func(what string, sp *stm.Space, st *store.Store, r api.Request, why api.Errno) {
		t.Helper()
		if j, e := work.Start(sp, st, r); j != nil || e != why {
			t.Errorf("%s: a job %v, %v, want %v", what, j != nil, e, why)
		}
	}
	for _, r := range []api.Request{good, wrong} {
		refused("no space", nil, p.st, r, api.ErrNil)
		refused("a plain space", &stm.Space{}, p.st, r, api.ErrNil)
		refused("no store", p.sp, nil, r, api.ErrNil)
		refused("a plain store", p.sp, &store.Store{}, r, api.ErrNil)
		refused("neither", nil, nil, r, api.ErrNil)
	}
	for _, r := range []api.Request{
		{},
		wrong,
		running("123456789", "1"),
		running("a-b", "1"),
		running("\xc3\xa4", "1"),
		running("q", rep(" ", api.MaxText+1)),
		{ID: "q", Kind: api.AskRun, Session: 1},
		{ID: "q", Kind: api.AskRun, Session: -1},
		{ID: "q", Kind: 0},
		{ID: "q", Kind: 3},
		{ID: "q", Kind: -1},
		resuming("q", 0, "1"),
		resuming("q", -1, "1"),
		resuming("q", 10000, "1"),
		resuming("", 1, "1"),
		resuming("q", 1, rep("1", api.MaxText+1)),
	} {
		refused(r.ID, p.sp, p.st, r, api.ErrArg)
	}
	wantSameDisk(t, "behind what was refused", p.d, was)
	p.wantKeys("behind what was refused")
}

func TestStartTakesTheEdges(t *testing.T) {
	p := newPlace(t)
	p.wantReply("the longest text", p.asks(running("Ab345678", "5"+rep(" ", api.MaxText-1))), doneWith("Ab345678", "5"))
	p.wantReply("no text", p.asks(running("0", "")), doneWith("0", "()"))
	p.wantReply("the last session", p.asks(resuming("a", 9999, "1")), failedWith("a", api.ErrSession))
	p.wantReply("the first session", p.asks(resuming("b", 1, "1")), failedWith("b", api.ErrSession))
}

// P21.2

// TestPhases is the chapter's example.
func TestPhases(t *testing.T) {
	p := newPlace(t)
	j := p.run("(root-set! (quote x) 5)")
	for i := range 4 {
		p.wantAt("on the way", j, i, 1)
		p.wantKeys("ahead of the end")
		if l := p.sp.Slots(); len(l) > 0 {
			t.Errorf("phase %d: slots %v", i, l)
		}
		want(t, "Go", j.Go(100), api.OK)
	}
	p.wantAt("at the end", j, 4, 1)
	r := doneWith("q", "#!void")
	p.wantKeys("at the end", "rq", "vx")
	p.wantRoots("at the end", 1, map[string]string{"x": value(t, "5")})
	p.wantKept("at the end", r)
	was := p.d.Copy()
	for range 2 {
		want(t, "Go of one that is done", j.Go(100), api.ErrState)
		want(t, "Collect of one that is done", j.Collect(), api.ErrState)
		want(t, "Stop of one that is done", j.Stop(), api.ErrState)
		got, ok := j.Reply()
		if p.wantReply("done", got, r); !ok {
			t.Error("a reply that is none")
		}
	}
	p.wantAt("behind what was refused", j, 4, 1)
	wantSameDisk(t, "behind what was refused", p.d, was)
}

func TestReplies(t *testing.T) {
	for text, r := range map[string]api.Reply{
		"(+ 1 2)":                            doneWith("q", "3"),
		"(car 5)":                            failedWith("q", api.ErrType),
		"(error \"no\")":                     failedWith("q", api.ErrUser),
		"(f)":                                failedWith("q", api.ErrUnbound),
		"(5)":                                failedWith("q", api.ErrProc),
		"(car)":                              failedWith("q", api.ErrCount),
		"(root-ref 'x)":                      doneWith("q", "#f"),
		"(root-ref 'abcdefghijk)":            doneWith("q", "#f"),
		"(root-ref 'abcdefghijkl)":           failedWith("q", api.ErrType),
		"(call/cc (lambda (k) (+ 1 (k 5))))": doneWith("q", "5"),
		"(define (f) (f)) (f)":               failedWith("q", api.ErrFuel),
		"(+ 1 (suspend 7))":                  suspendedWith("q", 1, "7"),
		"(root-set! 'a 1) (root-set! 'b (list 2 (root-ref 'a))) (root-ref 'b)": doneWith("q", "(2 1)"),
	} {
		p := newPlace(t)
		j := p.run(text)
		p.wantAt(text, j, 0, 1)
		got := p.ends(text, j, 0)
		p.wantReply(text, got, r)
		p.wantKept(text, r)
	}
}

// TestWhatCantBegin: it is in phase 1 at once, and the failure is committed like anything else.
func TestWhatCantBegin(t *testing.T) {
	for text, why := range map[string]api.Errno{
		"(":                         api.ErrRead,
		")":                         api.ErrRead,
		rep("(", 65) + rep(")", 65): api.ErrDeep,
		rep("9", 201):               api.ErrBig,
		"(if)":                      api.ErrSyntax,
		"(define-syntax m (syntax-rules () ((_ 1) 1))) (m 2)": api.ErrMacro,
		"(or" + rep(" a", 30) + ")":                           api.ErrArg,
	} {
		p := newPlace(t)
		j := p.run(text)
		r := failedWith("q", why)
		p.wantReply(text, p.ends(text, j, 1), r)
		p.wantKept(text, r)
		p.wantKeys(text, "rq")
	}
}

func TestWhatCantBeResumed(t *testing.T) {
	good := saved(t, "(+ 1 (suspend 7))")
	turned := append([]byte{}, good...)
	turned[len(turned)-1] ^= 1
	for _, x := range []struct {
		what string
		id   int
		text string
		why  api.Errno
	}{
		{"no session, and a wrong text", 3, ")", api.ErrSession},
		{"a wrong text", 1, ")", api.ErrRead},
		{"no datum", 1, " ; none", api.ErrRead},
		{"two data", 1, "1 2", api.ErrRead},
		{"too deep", 1, rep("(", 65) + rep(")", 65), api.ErrDeep},
		{"too many digits", 1, rep("1", 201), api.ErrBig},
		{"pieces that can't be", 2, "1", api.ErrForm},
		{"such pieces, and a wrong text", 2, "1 2", api.ErrForm},
		{"no machine's bytes", 4, "1", api.ErrForm},
		{"no machine's bytes, and a wrong text", 4, "", api.ErrRead},
		{"bytes that were turned", 5, "1", api.ErrSum},
		{"other code", 6, "1", api.ErrCode},
	} {
		p := newPlace(t)
		p.packed(1, good)
		p.packed(4, good[1:])
		p.packed(5, turned)
		p.packed(6, []byte("\x01\x00\x00"))
		p.batch(api.Change{Key: "s000200", Bytes: []byte{0}})
		j := p.start(resuming("q", x.id, x.text))
		r := failedWith("q", x.why)
		p.wantReply(x.what, p.ends(x.what, j, 1), r)
		p.wantKept(x.what, r)
	}
}

// TestSessionMadeByHand: machines that are done, or that fail, as soon as they are loaded; a job finds it when it goes on, be it without fuel.
func TestSessionMadeByHand(t *testing.T) {
	for _, x := range []struct {
		frame api.Word
		reply api.Reply
	}{
		{api.Nil, doneWith("q", "(a b)")},
		{11, failedWith("q", api.ErrCode)},
	} {
		p := newPlace(t)
		p.packed(1, handMade(t, x.frame))
		j := p.start(resuming("q", 1, "(a b)"))
		p.wantAt("loaded", j, 0, 1)
		want(t, "Go", j.Go(-5), api.OK)
		p.wantReply("by hand", p.ends("by hand", j, 1), x.reply)
	}
}

func TestFuelBelow0(t *testing.T) {
	p := newPlace(t)
	j := p.run("(+ 1 2)")
	for _, n := range []int{0, -1, -most} {
		want(t, "Go", j.Go(n), api.OK)
		p.wantAt("no fuel", j, 0, 1)
	}
	for range 7 {
		want(t, "Go", j.Go(1), api.OK)
		p.wantAt("one of fuel", j, 0, 1)
	}
	want(t, "Go", j.Go(1), api.OK)
	p.wantAt("OpHalt", j, 1, 1)
	for i := range 3 { // the commit's phases take none
		want(t, "Go", j.Go(-i), api.OK)
		p.wantAt("committing", j, 2+i, 1)
	}
}

// lasting is a program that takes just so much fuel.
func lasting(t *testing.T, n int) string {
	t.Helper()
	loop := func(times int) string {
		return "(define (f n) (if (= n 0) 0 (f (- n 1)))) (f " + strconv.Itoa(times) + ")"
	}
	once := machine(t, loop(101), nil).Used() - machine(t, loop(100), nil).Used()
	times := 100 + (n-machine(t, loop(100), nil).Used())/once
	text := loop(times)
	return text + rep(" 1", n-machine(t, text, nil).Used())
}

func TestFuelInAll(t *testing.T) {
	p := newPlace(t)
	fits, beyond := lasting(t, fuel), lasting(t, fuel+1)
	if m := machine(t, fits, nil); m.State() != api.Done || m.Used() != fuel {
		t.Fatalf("state %d, used %d", m.State(), m.Used())
	}
	p.wantReply("just as much as there is", p.asks(running("a", fits)), doneWith("a", "1"))
	p.wantReply("one more", p.asks(running("b", beyond)), failedWith("b", api.ErrFuel))
	for _, x := range []struct {
		text  string
		reply api.Reply
	}{
		{fits, doneWith("c", "1")},
		{beyond, failedWith("d", api.ErrFuel)},
	} {
		j := p.start(running(x.reply.ID, x.text))
		want(t, "Go", j.Go(fuel-1), api.OK)
		p.wantAt("one is left", j, 0, 1)
		want(t, "Go", j.Go(0), api.OK)
		p.wantAt("one is left still", j, 0, 1)
		want(t, "Go", j.Go(1), api.OK)
		p.wantAt("nothing is left", j, 1, 1)
		p.wantReply(x.reply.ID, p.ends(x.reply.ID, j, 1), x.reply)
	}
}

// TestNoFuelLeavesNothing: what it wrote is forgotten.
func TestNoFuelLeavesNothing(t *testing.T) {
	p := newPlace(t)
	j := p.run("(root-set! 'x 1) (define (f) (f)) (f)")
	p.goes(j, 1)
	p.wantAt("no fuel", j, 1, 1)
	p.goes(j, 1)
	p.wantFree("no fuel", "x")
	p.wantReply("no fuel", p.ends("no fuel", j, 2), failedWith("q", api.ErrFuel))
	p.wantRoots("no fuel", 0, map[string]string{})
	p.wantKeys("no fuel", "rq")
}

// TestFuelIsParted: it plays no part by how much it goes on at a time.
func TestFuelIsParted(t *testing.T) {
	text := "(define (f n) (if (= n 0) (root-ref 'x) (begin (root-set! 'x n) (f (- n 1))))) (f 9)"
	all := machine(t, text, memory{}).Used()
	for _, n := range []int{1, 2, 7, 50, 1000} {
		p := newPlace(t)
		j := p.run(text)
		steps := 0
		for ; j.Phase() == 0 && steps <= all; steps++ {
			want(t, "Go", j.Go(n), api.OK)
		}
		if steps != (all+n-1)/n {
			t.Errorf("by %d: %d steps of %d", n, steps, all)
		}
		p.wantReply("parted", p.ends("parted", j, 1), doneWith("q", "1"))
	}
}

// TestShown: of a value the first 1000 bytes are told, be it done or suspended.
func TestShown(t *testing.T) {
	for _, n := range []int{997, 998, 999, 1100} {
		s := `"` + rep("x", n) + `"`
		told := s[:min(1000, len(s))]
		p := newPlace(t)
		p.wantReply("done", p.asks(running("a", s)), doneWith("a", told))
		p.wantReply("suspended", p.asks(running("b", "(suspend "+s+")")), suspendedWith("b", 1, told))
		p.wantReply("resumed", p.asks(resuming("c", 1, s)), doneWith("c", told))
	}
}

// P21.3

func TestStop(t *testing.T) {
	for phase := range 4 {
		p := newPlace(t)
		j := p.run("(root-ref 'y) (root-set! 'x 5) (suspend 1)")
		p.goes(j, phase)
		p.wantAt("ahead of Stop", j, phase, 1)
		if phase >= 2 {
			p.wantHeld("ahead of Stop", "x")
		}
		want(t, "Stop", j.Stop(), api.OK)
		p.wantAt("stopped", j, 4, 1)
		p.wantNoReply("stopped", j)
		p.wantFree("stopped", "x")
		p.wantRoots("stopped", 0, map[string]string{})
		p.wantKeys("stopped")
		for range 2 {
			want(t, "Go", j.Go(5), api.ErrState)
			want(t, "Collect", j.Collect(), api.ErrState)
			want(t, "Stop", j.Stop(), api.ErrState)
		}
		if r := j.Request(); r != running("q", "(root-ref 'y) (root-set! 'x 5) (suspend 1)") {
			t.Errorf("the request of one that was stopped: %v", r)
		}
		p.wantNoReply("stopped", j)
		p.wantKeys("stopped")
	}
}

func TestStopOfWhatFailed(t *testing.T) {
	p := newPlace(t)
	j := p.run("(")
	p.wantAt("failed", j, 1, 1)
	want(t, "Stop", j.Stop(), api.OK)
	p.wantAt("stopped", j, 4, 1)
	p.wantNoReply("stopped", j)
	p.wantKeys("stopped")
}

func TestCollectAnywhere(t *testing.T) {
	text := "(define (f n l) (if (= n 0) (root-ref 'x) (begin (root-set! 'x l) (f (- n 1) (cons n l))))) (f 9 '())"
	p := newPlace(t)
	j := p.run(text)
	for i := 0; j.Phase() < 4 && i < 1000; i++ {
		want(t, "Collect", j.Collect(), api.OK)
		want(t, "Collect", j.Collect(), api.OK)
		want(t, "Go", j.Go(1), api.OK)
	}
	r, _ := j.Reply()
	p.wantReply("collected", r, doneWith("q", "(2 3 4 5 6 7 8 9)"))
}

// great is a program that comes to have more than its old objects have room for, if it were collected in time.
const great = "(define (f n l) (if (= n 0) (length l) (f (- n 1) (cons (make-vector 990 0) l)))) (f 42 '())"

// TestCollectPlaysItsPart: where a machine that is collected has no room any more, the job's has none, though Collect does not tell it; in the other phases nothing is collected.
func TestCollectPlaysItsPart(t *testing.T) {
	plain := machine(t, great, nil)
	if plain.State() != api.Done || plain.Value() != "42" {
		t.Fatalf("state %d, %v", plain.State(), plain.Why())
	}
	spent, all := 0, plain.Used()
	for n := all - 100; n < all; n++ {
		m := freshMachine(t, great)
		m.Run(n, nil)
		e := m.Heap().Collect(true)
		r := doneWith("q", "42")
		if m.Run(fuel, nil) == api.Failed {
			r = failedWith("q", m.Why())
		}
		if e == api.ErrMemory && m.Why() == api.ErrMemory {
			spent++
		}
		p := newPlace(t)
		j := p.run(great)
		want(t, "Go", j.Go(n), api.OK)
		want(t, "Collect", j.Collect(), api.OK)
		want(t, "Collect", j.Collect(), api.OK)
		p.wantReply("collected", p.ends("collected", j, 0), r)
	}
	if spent == 0 || spent == 100 {
		t.Errorf("%d of 100 have no room", spent)
	}
	p := newPlace(t)
	j := p.run(great)
	for range 3 {
		p.goes(j, 1)
		want(t, "Collect", j.Collect(), api.OK)
	}
	p.wantReply("collected late", p.ends("collected late", j, 3), doneWith("q", "42"))
}

func TestObjectsThatNoCallMade(t *testing.T) {
	var none *work.Job
	for _, j := range []*work.Job{none, {}} {
		for range 2 {
			want(t, "Go", j.Go(1), api.ErrNil)
			want(t, "Collect", j.Collect(), api.ErrNil)
			want(t, "Stop", j.Stop(), api.ErrNil)
		}
		r, ok := j.Reply()
		if j.Phase() != 0 || j.Tries() != 0 || j.Request() != (api.Request{}) || r != (api.Reply{}) || ok {
			t.Error("values that are not zero")
		}
	}
}
