package work_test

import (
	"testing"

	"rostrum/api"
	"rostrum/session"
	"rostrum/work"
)

// clashing is a way to clash: a program, the phase in which it finds that it does, and what has another one do ahead of that.
type clashing struct {
	what  string
	text  string
	phase int
	other func(p *place) (undo func())
}

func nothing() {}

func changed(name string) func(p *place) func() {
	return func(p *place) func() {
		p.publishes(name, "8")
		return nothing
	}
}

func held(name string) func(p *place) func() {
	return func(p *place) func() {
		tx := p.locks(name, "8")
		return func() { tx.Abort() }
	}
}

func ways() []clashing {
	const both = "(root-set! 'y (root-ref 'x)) (root-ref 'y)"
	return []clashing{
		{"what it reads is newer", both, 0, changed("x")},
		{"what it reads is locked", both, 0, held("x")},
		{"what it wrote is locked", both, 1, held("y")},
		{"what it wrote blindly is locked", "(root-set! 'y 5) (root-ref 'y)", 1, held("y")},
		{"what it read is newer, and it is locked", both, 2, changed("x")},
		{"what it read is locked, and so is it", both, 2, held("x")},
		{"what it read is newer, and it is checked", both, 3, changed("x")},
		{"what it read is locked, and it is checked", both, 3, held("x")},
		{"it failed over what is newer", "(root-set! 'z 1) (root-ref 'x) (car 5)", 2, changed("x")},
		{"it failed over what is locked", "(root-set! 'z 1) (root-ref 'x) (car 5)", 3, held("x")},
		{"it was suspended over what is newer", "(suspend (root-ref 'x))", 2, changed("x")},
		{"it had no fuel over what is newer", "(root-ref 'x) (define (f) (f)) (f)", 3, changed("x")},
	}
}

// ahead takes a job to a phase.
func (p *place) ahead(j *work.Job, phase int) {
	p.t.Helper()
	for i := 0; j.Phase() < phase && i < 50; i++ {
		p.goes(j, 1)
	}
	if j.Phase() != phase {
		p.t.Fatalf("phase %d, want %d", j.Phase(), phase)
	}
}

// TestItBeginsAgain: behind each clash it begins anew, in phase 0, its locks gone; then all goes as if nothing had been.
func TestItBeginsAgain(t *testing.T) {
	for _, w := range ways() {
		for clashes := 1; clashes <= api.Retries; clashes++ {
			p := newPlace(t, slot(t, "x", "5"))
			j := p.run(w.text)
			for i := range clashes {
				p.ahead(j, w.phase)
				undo := w.other(p)
				p.goes(j, 1)
				p.wantAt(w.what, j, 0, i+2)
				undo()
				p.wantFree(w.what, "x")
				p.wantFree(w.what, "y")
			}
			env := memory{}
			for _, s := range p.sp.Slots() {
				env[s.Name] = string(s.Bytes)
			}
			p.wantReply(w.what, p.ends(w.what, j, 0), alone(t, w.text, env))
		}
	}
}

// alone is the reply to a request that is the only one.
func alone(t *testing.T, text string, env memory) api.Reply {
	t.Helper()
	m := machine(t, text, env)
	switch m.State() {
	case api.Done:
		return doneWith("q", m.Value())
	case api.Suspended:
		return suspendedWith("q", 1, m.Value())
	case api.Failed:
		return failedWith("q", m.Why())
	}
	return failedWith("q", api.ErrFuel)
}

// TestItGivesUp: begun 1 + Retries times it fails with ErrClash, which clashes with nothing any more.
func TestItGivesUp(t *testing.T) {
	for _, w := range ways() {
		p := newPlace(t, slot(t, "x", "5"))
		j := p.run(w.text)
		for range api.Retries {
			p.ahead(j, w.phase)
			undo := w.other(p)
			p.goes(j, 1)
			undo()
		}
		p.ahead(j, w.phase)
		p.wantAt(w.what, j, w.phase, 1+api.Retries)
		w.other(p)
		p.goes(j, 1)
		p.wantAt(w.what, j, 1, 1+api.Retries)
		for i := range 3 {
			p.publishes("fresh", "1")
			p.goes(j, 1)
			p.wantAt(w.what, j, 2+i, 1+api.Retries)
		}
		r := failedWith("q", api.ErrClash)
		got, ok := j.Reply()
		if p.wantReply(w.what, got, r); !ok {
			t.Errorf("%s: no reply", w.what)
		}
		p.wantKept(w.what, r)
		p.wantKeys(w.what, "rq")
	}
}

// TestGivenUpReadNothing: other changes of what it read ahead play no part when it fails with ErrClash.
func TestGivenUpReadNothing(t *testing.T) {
	p := newPlace(t)
	j := p.run("(root-set! 'y (root-ref 'x))")
	for range 1 + api.Retries {
		p.ahead(j, 2)
		p.publishes("x", "1")
		p.goes(j, 1)
	}
	for i := range 3 {
		p.wantAt("given up", j, 1+i, 1+api.Retries)
		p.publishes("x", "2")
		p.publishes("y", "3")
		p.goes(j, 1)
	}
	got, _ := j.Reply()
	p.wantReply("given up", got, failedWith("q", api.ErrClash))
	if l := p.sp.Slots(); len(l) != 2 || string(l[1].Bytes) != value(t, "3") {
		t.Errorf("slots %v", l)
	}
}

// TestFuelAnew: each time that it begins all fuel is there again.
func TestFuelAnew(t *testing.T) {
	p := newPlace(t)
	text := lasting(t, fuel-1000)
	j := p.run(text + " (root-ref 'x)")
	for i := range api.Retries {
		want(t, "Go", j.Go(fuel-1100), api.OK)
		p.wantAt("most of the fuel is used", j, 0, i+1)
		p.publishes("x", "7")
		p.goes(j, 1)
		p.wantAt("clashed", j, 0, i+2)
	}
	p.wantReply("at last", p.ends("at last", j, 0), doneWith("q", "7"))
}

// TestTwoThatAdd is the fourth of the document's examples: of two that read x, add 1 and write it one is tried again.
func TestTwoThatAdd(t *testing.T) {
	const text = "(root-set! 'x (+ 1 (root-ref 'x)))"
	for first := range 4 {
		for second := range 4 {
			if first > 1 && second > 1 { // one of them would use up its tries over the other's lock
				continue
			}
			p := newPlace(t, slot(t, "x", "5"))
			a, b := p.start(running("a", text)), p.start(running("b", text))
			p.goes(a, first)
			p.goes(b, second)
			ahead, behind := a, b
			if b.Phase() > a.Phase() { // who holds the lock must go on
				ahead, behind = b, a
			}
			p.ahead(ahead, 4)
			p.ahead(behind, 4)
			p.wantKept("a", doneWith("a", "#!void"))
			p.wantKept("b", doneWith("b", "#!void"))
			p.wantRoots("both", 2, map[string]string{"x": value(t, "7")})
			if ahead.Tries() != 1 || behind.Tries() < 2 {
				t.Errorf("%d and %d steps: %d and %d tries", first, second, a.Tries(), b.Tries())
			}
		}
	}
}

// TestWithoutClash: two that touch different roots, or only read the same one, are each begun once.
func TestWithoutClash(t *testing.T) {
	p := newPlace(t, slot(t, "x", "5"))
	a := p.start(running("a", "(root-set! 'y (root-ref 'x))"))
	b := p.start(running("b", "(root-set! 'z (root-ref 'x))"))
	for range 4 {
		p.goes(a, 1)
		p.goes(b, 1)
	}
	p.wantAt("a", a, 4, 1)
	p.wantAt("b", b, 4, 1)
}

// TestSessionThatComes: a request that fails with ErrSession begins again, if the session is there at the end.
func TestSessionThatComes(t *testing.T) {
	good := saved(t, "(+ 1 (suspend 7))")
	for phase := 1; phase <= 3; phase++ {
		p := newPlace(t)
		j := p.start(resuming("q", 3, "4"))
		p.ahead(j, phase)
		p.packed(3, good)
		p.ahead(j, 3)
		p.wantAt("it is there", j, 3, 1)
		p.goes(j, 1)
		p.wantAt("begun again", j, 0, 2)
		p.wantReply("begun again", p.ends("begun again", j, 0), doneWith("q", "5"))
	}
	p := newPlace(t)
	j := p.start(resuming("q", 3, "4"))
	p.packed(2, good)
	p.packed(4, good)
	p.wantReply("others come", p.ends("others come", j, 1), failedWith("q", api.ErrSession))
}

// TestSessionThatCantBe: it is there, though it can't be; so it is another error.
func TestSessionThatCantBe(t *testing.T) {
	p := newPlace(t)
	j := p.start(resuming("q", 3, "4"))
	p.batch(api.Change{Key: "s000300", Bytes: []byte{41}})
	p.ahead(j, 3)
	p.goes(j, 1)
	p.wantAt("begun again", j, 1, 2)
	p.wantReply("begun again", p.ends("begun again", j, 1), failedWith("q", api.ErrForm))
}

// TestSessionThatComesAndGoes: that, too, is tried only so often.
func TestSessionThatComesAndGoes(t *testing.T) {
	p := newPlace(t)
	comes := func() { p.packed(3, saved(t, "(+ (suspend 1) (root-ref 'x))")) }
	goes := func() {
		l, e := session.Drop(p.st, 3)
		want(t, "Drop", e, api.OK)
		p.batch(l...)
		p.publishes("x", "1")
	}
	comes()
	j := p.start(resuming("q", 3, "4"))
	for tries := 1; tries <= api.Retries; tries += 2 {
		p.wantAt("the session is there", j, 0, tries)
		goes()
		p.goes(j, 1)
		p.wantAt("the session is gone", j, 1, tries+1)
		p.ahead(j, 3)
		comes()
		p.goes(j, 1)
	}
	p.wantAt("given up", j, 1, 1+api.Retries)
	p.wantReply("given up", p.ends("given up", j, 1), failedWith("q", api.ErrClash))
}
