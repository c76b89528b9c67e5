package vm_test

import (
	"bytes"
	"fmt"
	"slices"
	"testing"

	"rostrum/api"
	"rostrum/code"
	"rostrum/heap"
	"rostrum/serial"
	"rostrum/vm"
	"rostrum/wire"
)

// P17.3

func TestSaveRefuses(t *testing.T) {
	running := machine(t, source(t, "(suspend 1)"), 100, 100)
	loaded := load(t, save(t, run(t, "(+ 1 (suspend 1))")), "2", 100, 100)
	for what, m := range map[string]*vm.Machine{"running": running, "done": run(t, "5"), "failed": run(t, "(car 5)"), "loaded": loaded} {
		before := told(m)
		if b, e := m.Save(); len(b) > 0 || e != api.ErrState || told(m) != before {
			t.Errorf("%s: %v", what, e)
		}
	}
}

func TestSave(t *testing.T) {
	c := source(t, "(define x '(1 2)) (dynamic-wind list (lambda () (list x (suspend 7))) car)")
	m := machine(t, c, 1000, 1000)
	m.Run(100, nil)
	wantSuspended(t, "suspended", m, "7")
	h := m.Heap()
	wantRegister(t, "suspended", m, winds, "{<vec list car> ()}")
	b := save(t, m)
	// the two texts, nothing else
	r := wire.Over(b)
	first, _ := r.Text(len(b))
	second, e := r.Text(len(b))
	if e != api.OK || r.End() != api.OK {
		t.Fatal("not two texts")
	}
	if own, _ := code.Encode(c); first != string(own) {
		t.Error("the code")
	}
	v := mk(t, h, api.KVector, h.Root(frame), h.Root(globals), h.Root(winds))
	if own, _ := serial.Encode(h, v); second != string(own) {
		t.Error("the frame, globals, winds")
	}
	// again the same, whatever was collected, and the machine is as it was
	for i := range 2000 {
		if i%100 == 0 {
			h.Collect(i%200 == 0)
		}
		if !bytes.Equal(save(t, m), b) {
			t.Fatal("Save does not tell the same again")
		}
	}
	wantSuspended(t, "saved", m, "7")
	if h.Roots() != 6 {
		t.Error("roots")
	}
}

// TestSaveFull: what has more than 20000 objects, or finds no room, can't be saved.
func TestSaveFull(t *testing.T) {
	const list = "(define (n k l) (if (= k 0) l (n (- k 1) (cons 1 l)))) (define l (n 200 '())) "
	m := run(t, list+"(define m (append"+rep(" l", 100)+")) (suspend m)")
	wantSuspended(t, "great", m, m.Value())
	before := told(m)
	for range 3 {
		counts := m.Heap().Counts()
		if b, e := m.Save(); len(b) > 0 || e != api.ErrFull || told(m) != before || m.Heap().Roots() != 6 {
			t.Errorf("Save: %v", e)
		}
		after := m.Heap().Counts()
		if after.Minor == counts.Minor && after != counts || after.Young+after.Old > counts.Young+counts.Old {
			t.Errorf("cells are left behind: %+v, there were %+v", after, counts)
		}
	}
	// what was told does not count
	m = run(t, list+"(suspend (append"+rep(" l", 100)+"))")
	if b, e := m.Save(); len(b) == 0 || e != api.OK {
		t.Errorf("what it told plays a part: %v", e)
	}
	// no room
	m = machine(t, source(t, "(define x (make-vector 50 1)) (suspend 5)"), 60, 1000)
	m.Run(100, nil)
	wantSuspended(t, "no room", m, "5")
	for m.Heap().Collect(false) == api.OK {
		w, _ := m.Heap().Make(api.KVector, make([]api.Word, 50)...)
		m.Heap().Push(w)
	}
	if b, e := m.Save(); len(b) > 0 || e != api.ErrMemory {
		t.Errorf("no room: %v", e)
	}
	wantSuspended(t, "no room", m, "5")
}

func TestLoad(t *testing.T) {
	m := run(t, "(+ 1 (suspend 7))")
	b := save(t, m)
	for d, want := range map[string]string{"4": "5", "10": "11", "-1": "0", "99999999999999999999": "100000000000000000000"} {
		n := load(t, b, d, 100, 100)
		if n.State() != api.Running || n.Used() != 0 || n.Value() != "" || n.Why() != api.OK || n.Heap().Roots() != 6 {
			t.Errorf("loaded: %s", told(n))
		}
		wantRegister(t, "loaded", n, accumulator, d)
		wantRegister(t, "loaded", n, environment, "()")
		wantRegister(t, "loaded", n, stack, "{1 ()}")
		wantRegister(t, "loaded", n, frame, "<frame 11 () () ()>")
		wantRegister(t, "loaded", n, winds, "()")
		n.Run(100, nil)
		wantDone(t, "loaded", n, want)
		wantUsed(t, "loaded", n, 4) // push, global, call, halt
	}
	n := load(t, b, "x", 100, 100)
	n.Run(100, nil)
	wantFailed(t, "another type", n, api.ErrType)
	wantSuspended(t, "it is suspended still", m, "7")
	// data of all kinds
	m = run(t, "(list (suspend 1))")
	for _, d := range []string{"5", "#t", "#f", `"s"`, "x", "()", "(1 (2 . 3) #(4))", "#()"} {
		wantDone(t, d, resumed(t, m, d), "("+d+")")
	}
}

// TestLoadOfNoFrame: a suspended one that nothing is left to do for.
func TestLoadOfNoFrame(t *testing.T) {
	c := by(t, "5", "suspend x", in(api.OpConst, 0), in(api.OpPush), in(api.OpGlobal, 0), in(api.OpCall, 1))
	m := ran(t, c, 100)
	wantSuspended(t, "without a frame", m, "5")
	n := load(t, save(t, m), "(1 2)", 100, 100)
	wantDone(t, "without a frame", n, "(1 2)")
	wantUsed(t, "without a frame", n, 0)
	wantRegister(t, "without a frame", n, globals, "<vec suspend #!unbound>")
}

// TestSessions: one goes on again and again, each time from where it was.
func TestSessions(t *testing.T) {
	m := run(t, "(define n 0) (define (loop l) (set! n (+ n 1)) (let ((x (suspend (list n l)))) (if (eq? x 'end) (reverse l) (loop (cons x l))))) (loop '())")
	wantSuspended(t, "a loop", m, "(1 ())")
	a := resumed(t, m, "a")
	wantSuspended(t, "a", a, "(2 (a))")
	b := resumed(t, m, "b")
	wantSuspended(t, "b", b, "(2 (b))")
	ac := resumed(t, a, "c")
	wantSuspended(t, "a c", ac, "(3 (c a))")
	wantDone(t, "a c", resumed(t, ac, "end"), "(a c)")
	wantDone(t, "a", resumed(t, a, "end"), "(a)")
	wantDone(t, "b", resumed(t, b, "end"), "(b)")
	// winds, continuations, shared parts
	m = run(t, notes+"(wind 1 (lambda () (note (suspend 'x)))) (told)")
	wantSuspended(t, "winds", m, "x")
	wantDone(t, "winds", resumed(t, m, "y"), "((in 1) y (out 1))")
	m = run(t, notes+"(note (call/cc (lambda (k) (wind 1 (lambda () (k (suspend 'x))))))) (told)")
	wantDone(t, "an escape", resumed(t, m, "y"), "((in 1) (out 1) y)")
	m = run(t, notes+"(define c #f) (define n 0) (wind 1 (lambda () (note (call/cc (lambda (k) (set! c k) 'a))))) (set! n (+ n 1)) (suspend n) (if (< n 3) (c n) (told))")
	for _, x := range []string{"1", "2"} {
		wantSuspended(t, "in again", m, x)
		m = resumed(t, m, "go")
	}
	wantSuspended(t, "in again", m, "3")
	wantDone(t, "in again", resumed(t, m, "go"), "((in 1) a (out 1) (in 1) 1 (out 1) (in 1) 2 (out 1))")
	wantDone(t, "shared parts", resumed(t, run(t, "(define l (list 1 2)) (define m (cons l l)) (define f (let ((n 0)) (lambda () (set! n (+ n 1)) n))) (f) (define x (suspend 1)) (set-car! l x) (list m (f) (eq? (car m) (cdr m)) (eq? l (car m)))"), "9"), "(((9 2) 9 2) 2 #t #t)")
	// in before and after
	m = run(t, "(dynamic-wind (lambda () (suspend 1)) (lambda () (suspend 2)) (lambda () (suspend 3)))")
	for _, x := range []string{"1", "2", "3"} {
		wantSuspended(t, "in before, thunk, after", m, x)
		m = resumed(t, m, "(x "+x+")")
	}
	wantDone(t, "in before, thunk, after", m, "(x 2)")
	// on a way
	m = run(t, "(define c #f) (define n 0) (define (f) (set! n (+ n 1)) (suspend n)) (dynamic-wind f (lambda () (call/cc (lambda (k) (set! c k)))) f) (if (< n 5) (c 1) (list 'end n))")
	for i := range 6 {
		wantSuspended(t, "on a way", m, fmt.Sprint(i+1))
		m = resumed(t, m, "0")
	}
	wantDone(t, "on a way", m, "(end 6)")
}

func TestLoadRefuses(t *testing.T) {
	m := run(t, "(list 1 (suspend 7) car)")
	b := save(t, m)
	r := wire.Over(b)
	c, _ := r.Text(len(b))
	s, _ := r.Text(len(b))
	texts := func(l ...string) []byte {
		var b []byte
		for _, x := range l {
			b = wire.Text(b, x)
		}
		return b
	}
	good, bad := read(t, "5"), api.Datum{Kind: api.DNumber, Text: "x"}
	h := newHeap(t)
	word := func(w api.Word) []byte {
		b, e := serial.Encode(h, w)
		if e != api.OK {
			t.Fatal(e)
		}
		return texts(c, string(b))
	}
	names := []api.Word{1, 1, 1} // list, suspend, car
	globs := mk(t, h, api.KVector, names...)
	form := serialOf(t, h, api.Nil)
	form = form[:len(form)-4]
	turned := []byte(s)
	turned[3] ^= 1
	for _, x := range []struct {
		what       string
		b          []byte
		d          api.Datum
		young, old int
		why        api.Errno
	}{
		{"good", b, good, 100, 100, api.OK},
		{"no bytes", nil, good, 100, 100, api.ErrForm},
		{"one text", texts(c), good, 100, 100, api.ErrForm},
		{"three texts", texts(c, s, ""), good, 100, 100, api.ErrForm},
		{"a byte behind", append(slices.Clone(b), 0), good, 100, 100, api.ErrForm},
		{"a byte less", b[:len(b)-1], good, 100, 100, api.ErrForm},
		{"a length in a long form", append([]byte{b[0] | 0x80, 0}, b[1:]...), good, 100, 100, api.ErrForm},
		{"a great length", []byte{0xff, 0xff, 0xff, 0xff, 0xff, 0xff, 0xff, 0xff, 0x7f, 0}, good, 100, 100, api.ErrForm},
		{"all wrong", []byte{9}, bad, 0, 0, api.ErrForm},
		{"no code", texts("", s), good, 100, 100, api.ErrCode},
		{"wrong code", texts(c+"x", s), good, 100, 100, api.ErrCode},
		{"wrong code, all else wrong", texts("x", "y"), bad, 0, 0, api.ErrCode},
		{"little room", b, good, 15, 100, api.ErrArg},
		{"much room", b, good, 100, api.MaxHeap + 1, api.ErrArg},
		{"little room, all else wrong", texts(c, "y"), bad, 100, 15, api.ErrArg},
		{"no sum", texts(c, ""), good, 100, 100, api.ErrSum},
		{"another sum", texts(c, string(turned)), good, 100, 100, api.ErrSum},
		{"another sum, and a datum", texts(c, string(turned)), bad, 100, 100, api.ErrSum},
		{"no form", texts(c, summed(form[:len(form)-1])), good, 100, 100, api.ErrForm},
		{"a word that is none", texts(c, summed(append(slices.Clone(form), 0))), bad, 100, 100, api.ErrForm},
		{"objects without room", save(t, run(t, "(define l '(1 2 3 4 5 6 7 8 9 10 11 12)) (suspend 1)")), good, 16, 16, api.ErrMemory},
		{"a number", word(small(5)), good, 100, 100, api.ErrCode},
		{"a constant", word(api.Nil), good, 100, 100, api.ErrCode},
		{"a constant, and a datum", word(api.Nil), bad, 100, 100, api.ErrCode},
		{"a pair", word(mk(t, h, api.KPair, globs, api.Nil)), good, 100, 100, api.ErrCode},
		{"a closure", word(mk(t, h, api.KClosure, api.Nil, globs, api.Nil)), good, 100, 100, api.ErrCode},
		{"two", word(mk(t, h, api.KVector, api.Nil, globs)), good, 100, 100, api.ErrCode},
		{"four", word(mk(t, h, api.KVector, api.Nil, globs, api.Nil, api.Nil)), good, 100, 100, api.ErrCode},
		{"globals that are none", word(mk(t, h, api.KVector, api.Nil, api.Nil, api.Nil)), good, 100, 100, api.ErrCode},
		{"globals that are a frame", word(mk(t, h, api.KVector, api.Nil, mk(t, h, api.KClosure, 1, 1, 1), api.Nil)), good, 100, 100, api.ErrCode},
		{"too few globals", word(mk(t, h, api.KVector, api.Nil, mk(t, h, api.KVector, 1, 1), api.Nil)), good, 100, 100, api.ErrCode},
		{"too many globals", word(mk(t, h, api.KVector, api.Nil, mk(t, h, api.KVector, 1, 1, 1, 1), api.Nil)), good, 100, 100, api.ErrCode},
		{"as many globals", word(mk(t, h, api.KVector, api.Nil, globs, api.Nil)), good, 100, 100, api.OK},
		{"a datum that may not be", b, bad, 100, 100, api.ErrArg},
		{"the zero datum", b, api.Datum{}, 100, 100, api.ErrArg},
		{"a datum without room", b, read(t, `"`+rep("x", 2000)+`"`), 100, 1000, api.ErrMemory},
		{"a datum that no heap has", b, read(t, `"`+rep("x", 4001)+`"`), 5000, 5000, api.ErrArg},
	} {
		m, e := vm.Load(x.b, x.d, x.young, x.old)
		if e != x.why || (m == nil) != (e != api.OK) {
			t.Errorf("%s: %v, want %v", x.what, e, x.why)
		}
	}
}

func serialOf(t *testing.T, h *heap.Heap, w api.Word) []byte {
	t.Helper()
	b, e := serial.Encode(h, w)
	if e != api.OK {
		t.Fatal(e)
	}
	return b
}

// summed is bytes with their sum behind them.
func summed(b []byte) string {
	n := wire.Sum(b)
	return string(b) + string([]byte{byte(n), byte(n >> 8), byte(n >> 16), byte(n >> 24)})
}

// TestLoadByHand: a frame, an environment, winds, a place that can't be fail the machine, when it meets them.
func TestLoadByHand(t *testing.T) {
	c := by(t, "1 2", "car", in(api.OpHalt), in(api.OpReturn), in(api.OpLocal, 0, 0), in(api.OpHalt), in(api.OpGlobal, 0), in(api.OpPush), in(api.OpCall, 1), in(api.OpHalt))
	h := newHeap(t)
	vec := func(l ...api.Word) api.Word { return mk(t, h, api.KVector, l...) }
	at := func(place int, env, rest, next api.Word) api.Word {
		return mk(t, h, api.KFrame, small(place), env, rest, next)
	}
	list, car := prim(t, "list"), prim(t, "car")
	k := func(f, w api.Word) api.Word { return mk(t, h, api.KCont, f, w) }
	round := at(1, api.Nil, api.Nil, api.Nil)
	h.Set(round, 3, round)
	for _, x := range []struct {
		what         string
		frame, winds api.Word
		want         string // what it shows, or * and its error; empty: it runs for ever
	}{
		{"no frame", api.Nil, api.Nil, "5"},
		{"no frame, and winds that are none", api.Nil, small(9), "5"},
		{"a number for a frame", small(5), api.Nil, "*130"},
		{"a constant for a frame", api.True, api.Nil, "*130"},
		{"a vector for a frame", vec(small(0), api.Nil, api.Nil, api.Nil), api.Nil, "*130"},
		{"a good frame", at(0, api.Nil, api.Nil, api.Nil), api.Nil, "5"},
		{"a place behind", at(8, api.Nil, api.Nil, api.Nil), api.Nil, "*130"},
		{"a place ahead", at(-6, api.Nil, api.Nil, api.Nil), api.Nil, "*130"},
		{"a place that is none", mk(t, h, api.KFrame, api.Nil, api.Nil, api.Nil, api.Nil), api.Nil, "*130"},
		{"the next is none", at(1, api.Nil, api.Nil, api.True), api.Nil, "*130"},
		{"the next is a good one", at(1, api.Nil, api.Nil, at(0, api.Nil, api.Nil, api.Nil)), api.Nil, "5"},
		{"frames that go round", round, api.Nil, ""},
		{"an environment", at(2, vec(api.Nil, small(7)), api.Nil, api.Nil), api.Nil, "7"},
		{"no environment", at(2, api.Nil, api.Nil, api.Nil), api.Nil, "*130"},
		{"a short environment", at(2, vec(api.Nil), api.Nil, api.Nil), api.Nil, "*130"},
		{"a pair for an environment", at(2, mk(t, h, api.KPair, api.Nil, small(7)), api.Nil, api.Nil), api.Nil, "*130"},
		{"a closure for an environment", at(2, mk(t, h, api.KClosure, api.Nil, small(7), small(7)), api.Nil, api.Nil), api.Nil, "*130"},
		{"a stack", at(6, api.Nil, mk(t, h, api.KPair, small(1), api.Nil), api.Nil), api.Nil, "*171"},
		{"a stack that is none", at(6, api.Nil, small(5), api.Nil), api.Nil, "*130"},
		{"a stack that is none is pushed on", at(4, api.Nil, small(5), api.Nil), api.Nil, "*150"},
		{"-1", at(-1, vec(list, list, list), api.Nil, api.Nil), api.Nil, "()"},
		{"-1, and winds that are none", at(-1, vec(list, list, list), api.Nil, api.Nil), small(3), "()"},
		{"-1, a wrong thunk", at(-1, vec(list, car, list), api.Nil, api.Nil), api.Nil, "*151"},
		{"-1 without an environment", at(-1, api.Nil, api.Nil, api.Nil), api.Nil, "*130"},
		{"-2", at(-2, vec(list, list, list), api.Nil, api.Nil), mk(t, h, api.KPair, api.Nil, api.Nil), "5"},
		{"-2 without winds", at(-2, vec(list, list, list), api.Nil, api.Nil), api.Nil, "*130"},
		{"-2 with winds that are none", at(-2, vec(list, list, list), api.Nil, api.Nil), small(3), "*130"},
		{"-3", at(-3, small(8), api.Nil, api.Nil), api.Nil, "8"},
		{"-4", at(-4, vec(k(api.Nil, api.Nil), small(8)), api.Nil, api.Nil), api.Nil, "8"},
		{"-4 without a continuation", at(-4, vec(list, small(8)), api.Nil, api.Nil), api.Nil, "*130"},
		{"-4, winds that are none", at(-4, vec(k(api.Nil, api.Nil), small(8)), api.Nil, api.Nil), small(3), "*130"},
		{"-4, a wind that is none", at(-4, vec(k(api.Nil, api.Nil), small(8)), api.Nil, api.Nil), mk(t, h, api.KPair, small(1), api.Nil), "*130"},
		{"-5", at(-5, vec(k(api.Nil, api.Nil), small(8), api.Nil), api.Nil, api.Nil), small(3), "8"},
		{"-5, winds that are none", at(-5, vec(k(api.Nil, api.Nil), small(8), small(3)), api.Nil, api.Nil), api.Nil, "*130"},
		{"-5 without a continuation", at(-5, vec(api.Nil, small(8), api.Nil), api.Nil, api.Nil), api.Nil, "*130"},
	} {
		m, e := vm.Load(saved(t, c, h, vec(x.frame, vec(car), x.winds)), read(t, "5"), 1000, 1000)
		if m == nil || e != api.OK {
			t.Errorf("%s: Load is %v", x.what, e)
			continue
		}
		m.Run(200, nil)
		got := m.Value()
		if m.State() == api.Failed {
			got = fmt.Sprint("*", int(m.Why()))
		}
		if got != x.want || (m.State() == api.Running) != (x.want == "") {
			t.Errorf("%s: %s, want %s", x.what, told(m), x.want)
		}
	}
}
