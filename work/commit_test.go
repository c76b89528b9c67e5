package work_test

import (
	"fmt"
	"testing"

	"rostrum/api"
	"rostrum/session"
	"rostrum/vm"
)

// byHand has a batch be made on a new store: what a job that commits these changes leaves.
func byHand(t *testing.T, l ...api.Change) *place {
	t.Helper()
	p := newPlace(t)
	p.batch(l...)
	return p
}

func change(t *testing.T) func(c api.Change, e api.Errno) api.Change {
	return func(c api.Change, e api.Errno) api.Change {
		t.Helper()
		want(t, "a change", e, api.OK)
		return c
	}
}

// TestOneBatch: all is committed at once: roots by their names, the session's pieces, the count, the reply, in this order.
func TestOneBatch(t *testing.T) {
	const text = "(root-set! 'z 1) (root-set! 'a (quote (2 b))) (root-set! 'm \"3\") (root-set! 'z 4)"
	root := func(name, text string) api.Change {
		return change(t)(session.Root(name, []byte(value(t, text))))
	}
	roots := []api.Change{root("a", "(2 b)"), root("m", `"3"`), root("z", "4")}
	p := newPlace(t)
	r := doneWith("q", "#!void")
	p.wantReply("done", p.asks(running("q", text)), r)
	wantSameDisk(t, "done", p.d, byHand(t, append(roots, change(t)(session.Cache(r)))...).d)
	p.wantRoots("done", 1, map[string]string{"a": value(t, "(2 b)"), "m": value(t, `"3"`), "z": value(t, "4")})

	p = newPlace(t)
	whole := text + "(define v (make-vector 300 1000000000)) (suspend 7)"
	r = suspendedWith("q", 1, "7")
	p.wantReply("suspended", p.asks(running("q", whole)), r)
	m := machine(t, whole, memory{})
	b, e := m.Save()
	want(t, "Save", e, api.OK)
	pieces, e := session.Pack(1, b)
	if e != api.OK || len(pieces) < 2 {
		t.Fatalf("%d pieces, %v", len(pieces), e)
	}
	l := append(append(roots, pieces...), change(t)(session.Count(2)), change(t)(session.Cache(r)))
	wantSameDisk(t, "suspended", p.d, byHand(t, l...).d)
	p.wantRoots("suspended", 1, map[string]string{"a": value(t, "(2 b)"), "m": value(t, `"3"`), "z": value(t, "4")})
}

// TestOnlyReading: what wrote nothing changes no clock.
func TestOnlyReading(t *testing.T) {
	p := newPlace(t)
	p.wantReply("reads", p.asks(running("a", "(root-ref 'x)")), doneWith("a", "#f"))
	p.wantRoots("reads", 0, map[string]string{})
	p.wantKeys("reads", "ra")
}

// TestFailedLeavesNothing: what it wrote is forgotten, and not even locked.
func TestFailedLeavesNothing(t *testing.T) {
	p := newPlace(t)
	p.wantReply("ahead", p.asks(running("a", "(root-set! 'x 5)")), doneWith("a", "#!void"))
	j := p.start(running("b", "(root-set! 'x 6) (root-set! 'y 7) (car 5)"))
	for phase := range 4 {
		p.wantFree("failing", "x")
		p.wantFree("failing", "y")
		p.wantAt("failing", j, phase, 1)
		p.goes(j, 1)
	}
	p.wantKept("failed", failedWith("b", api.ErrType))
	p.wantRoots("failed", 1, map[string]string{"x": value(t, "5")})
	p.wantKeys("failed", "ra", "rb", "vx")
}

// TestSessions: each is resumed as often as one likes, also what was resumed and is suspended again; they are numbered as they are committed.
func TestSessions(t *testing.T) {
	p := newPlace(t)
	a := p.start(running("a", "(+ 1 (suspend 7))"))
	b := p.start(running("b", "(define k 10) (set! k (+ k (suspend 'b))) (root-set! 'x k) (+ k (suspend k))"))
	p.goes(a, 2)
	p.wantReply("b is first", p.ends("b", b, 0), suspendedWith("b", 1, "b"))
	p.wantReply("a is second", p.ends("a", a, 2), suspendedWith("a", 2, "7"))
	p.wantReply("c", p.asks(resuming("c", 2, "4")), doneWith("c", "5"))
	p.wantReply("d", p.asks(resuming("d", 2, " 10 ; ten")), doneWith("d", "11"))
	p.wantReply("e", p.asks(resuming("e", 2, "x")), failedWith("e", api.ErrType))
	p.wantReply("f", p.asks(resuming("f", 1, "5")), suspendedWith("f", 3, "15"))
	p.wantRoots("f", 1, map[string]string{"x": value(t, "15")})
	p.wantReply("g", p.asks(resuming("g", 1, "6")), suspendedWith("g", 4, "16"))
	p.wantReply("h", p.asks(resuming("h", 3, "100")), doneWith("h", "115"))
	p.wantReply("i", p.asks(resuming("i", 4, "100")), doneWith("i", "116"))
	p.wantReply("j", p.asks(resuming("j", 5, "100")), failedWith("j", api.ErrSession))
	p.wantRoots("at the end", 2, map[string]string{"x": value(t, "16")})
	if l, e := session.List(p.st); e != api.OK || fmt.Sprint(l) != "[1 2 3 4]" {
		t.Errorf("sessions %v, %v", l, e)
	}
	if n, e := session.Next(p.st); n != 5 || e != api.OK {
		t.Errorf("next is %d, %v", n, e)
	}
}

// TestSessionIsSaved: what is kept is what the machine saves, and says what it has to do behind the crash of all else.
func TestSessionIsSaved(t *testing.T) {
	const text = "(define l '(1)) (set! l (cons (suspend l) l)) l"
	p := newPlace(t)
	p.wantReply("suspended", p.asks(running("a", text)), suspendedWith("a", 1, "(1)"))
	b, e := session.Unpack(p.st, 1)
	if e != api.OK || string(b) != string(saved(t, text)) {
		t.Errorf("what is kept is not what is saved: %v", e)
	}
	if m, e := vm.Load(b, api.Datum{Kind: api.DNumber, Text: "5"}, young, old); e != api.OK || m.Run(100, nil) != api.Done || m.Value() != "(5 1)" {
		t.Errorf("loaded: %v", e)
	}
}

// wantFull: a request fails for want of room, and of what it does nothing is left but its reply.
func (p *place) wantFull(what, text string) {
	p.t.Helper()
	was, clock := p.sp.Slots(), p.sp.Clock()
	j := p.start(running("full", text+" (root-set! 'w 1)"))
	p.goes(j, 3)
	p.wantHeld(what, "w")
	r := failedWith("full", api.ErrFull)
	p.wantReply(what, p.ends(what, j, 3), r)
	p.wantFree(what, "w")
	p.wantKept(what, r)
	if p.sp.Clock() != clock || fmt.Sprint(p.sp.Slots()) != fmt.Sprint(was) {
		p.t.Errorf("%s: slots %v", what, p.sp.Slots())
	}
}

// filling is a program that sets a root to a string of so many bytes.
func filling(name string, n int) string {
	text := "(define s \"" + rep("x", n%100) + "\") (define (f n) (if (= n 0) 0 (begin (set! s (string-append s \"" + rep("y", 100) + "\")) (f (- n 1)))))"
	return text + fmt.Sprintf("(f %d) (root-set! '%s s)", n/100, name)
}

func TestRootThatIsTooGreat(t *testing.T) {
	around := len(value(t, `"`+rep("x", 1000)+`"`)) - 1000
	p := newPlace(t)
	p.wantReply("as great as may be", p.asks(running("a", filling("x", api.MaxBytes-around))), doneWith("a", "#!void"))
	if b, e := p.st.Get("vx"); len(b) != api.MaxBytes || e != api.OK {
		t.Errorf("%d bytes, %v", len(b), e)
	}
	p.wantFull("one byte more", filling("y", api.MaxBytes-around+1))
	p.wantKeys("one byte more", "ra", "rfull", "vx")
}

// TestSessionThatIsTooGreat: of more bytes than pieces may have; or of so many that the store's log has no room.
func TestSessionThatIsTooGreat(t *testing.T) {
	for _, vectors := range []int{5, 12} {
		text := "(define (f n) (if (= n 0) '() (cons (make-vector 1000 100000000000) (f (- n 1)))))"
		text += fmt.Sprintf("(define l (f %d))", vectors)
		b, e := machine(t, text+"(suspend 1)", memory{}).Save()
		if e != api.OK || (len(b) > 40*1400) != (vectors > 5) {
			t.Fatalf("%d bytes, %v", len(b), e)
		}
		p := newPlace(t)
		j := p.run(text + "(root-set! 'w 1) (suspend 1)")
		r := failedWith("q", api.ErrFull)
		p.wantReply("too great", p.ends("too great", j, 0), r)
		p.wantKept("too great", r)
		p.wantKeys("too great", "rq")
		p.wantFree("too great", "w")
		p.wantRoots("too great", 0, map[string]string{})
	}
}

func TestLastSession(t *testing.T) {
	p := newPlace(t)
	p.batch(change(t)(session.Count(9999)))
	p.wantReply("the last one", p.asks(running("a", "(suspend 1)")), suspendedWith("a", 9999, "1"))
	p.wantReply("one more", p.asks(running("b", "(root-set! 'x 1) (suspend 1)")), failedWith("b", api.ErrFull))
	p.wantReply("what is none", p.asks(running("c", "(root-set! 'x 1)")), doneWith("c", "#!void"))
	p.wantReply("the last one, resumed", p.asks(resuming("d", 9999, "2")), doneWith("d", "2"))
	p.wantKeys("at the end", "n", "ra", "rb", "rc", "rd", "s999900", "vx")
}

// TestCountThatCantBe: of the next session's number.
func TestCountThatCantBe(t *testing.T) {
	p := newPlace(t)
	p.batch(api.Change{Key: "n", Bytes: []byte{0}})
	p.wantReply("a session", p.asks(running("a", "(root-set! 'x 1) (suspend 1)")), failedWith("a", api.ErrFull))
	p.wantReply("no session", p.asks(running("b", "5")), doneWith("b", "5"))
	p.wantKeys("at the end", "n", "ra", "rb")
}

// fills has the store keep so much that so few pages are free.
func (p *place) fills(left int) {
	p.t.Helper()
	for i := 0; ; i++ {
		n, e := p.st.Free()
		want(p.t, "Free", e, api.OK)
		if n <= left {
			return
		}
		p.batch(api.Change{Key: fmt.Sprintf("x%05d", i), Bytes: []byte{1}})
	}
}

// TestNoRoomInTheStore: the reply is kept, if there is room for that; and told in any case.
func TestNoRoomInTheStore(t *testing.T) {
	p := newPlace(t)
	p.fills(6)
	p.wantFull("room for the reply alone", filling("x", 1400))
	if _, e := p.st.Get("vx"); e != api.ErrGone {
		t.Errorf("the root: %v", e)
	}
	p.fills(0)
	was, _ := p.st.Keys()
	r := failedWith("none", api.ErrFull)
	p.wantReply("no room at all", p.asks(running("none", "(root-set! 'x 1)")), r)
	if l, _ := p.st.Keys(); fmt.Sprint(l) != fmt.Sprint(was) {
		t.Errorf("keys %q", l)
	}
	if _, ok, e := session.Cached(p.st, "none"); ok || e != api.OK {
		t.Errorf("kept: %v, %v", ok, e)
	}
	p.wantFree("no room at all", "x")
	if l := p.sp.Slots(); len(l) > 0 {
		t.Errorf("slots %v", l)
	}
}

// TestSaveFails: the error of a machine that can't be saved is the request's. This one has all its room full when it is suspended.
func TestSaveFails(t *testing.T) {
	full := func(cells int) string {
		text := "(root-set! 'x 1) (define (f n l) (if (= n 0) l (f (- n 1) (cons (make-vector 990 0) l)))) (define l (f 42 '()))"
		return text + fmt.Sprintf("(define m (make-vector %d 0)) (suspend 1)", cells)
	}
	text := full(young - machine(t, full(0), memory{}).Heap().Counts().Young)
	m := machine(t, text, memory{})
	if m.State() != api.Suspended {
		t.Fatalf("state %d, %v", m.State(), m.Why())
	}
	_, e := m.Save()
	want(t, "Save", e, api.ErrMemory)
	p := newPlace(t)
	j := p.run(text)
	p.goes(j, 1)
	p.wantAt("not saved", j, 1, 1)
	p.wantReply("not saved", p.ends("not saved", j, 1), failedWith("q", api.ErrMemory))
	p.wantKeys("not saved", "rq")
}
