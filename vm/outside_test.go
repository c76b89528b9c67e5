package vm_test

import (
	"bytes"
	"fmt"
	"strings"
	"testing"

	"rostrum/api"
	"rostrum/serial"
	"rostrum/stm"
)

// world is a world outside: roots with bytes, and a note of what was asked.
type world struct {
	roots    map[string][]byte
	asked    []string
	get, put api.Errno // what it answers instead
	do       func()    // done at each call
}

func newWorld() *world { return &world{roots: map[string][]byte{}} }

func (w *world) Get(name string) ([]byte, api.Errno) {
	w.asked = append(w.asked, "get "+name)
	if w.do != nil {
		w.do()
	}
	if w.get != api.OK {
		return w.roots[name], w.get
	}
	return w.roots[name], api.OK
}

func (w *world) Put(name string, b []byte) api.Errno {
	w.asked = append(w.asked, "put "+name)
	if w.do != nil {
		w.do()
	}
	if w.put != api.OK {
		return w.put
	}
	w.roots[name] = b
	return api.OK
}

// bytesOf is a datum as serial writes it.
func bytesOf(t *testing.T, s string) []byte {
	t.Helper()
	h := newHeap(t)
	b, e := serial.Encode(h, word(t, h, s))
	if e != api.OK {
		t.Fatal(e)
	}
	return b
}

func TestRootRef(t *testing.T) {
	w := newWorld()
	w.roots["x"] = bytesOf(t, `(1 "two" #(three))`)
	w.roots["abcdefghijk"] = bytesOf(t, "11")
	w.roots["none"] = []byte{}
	m := runIn(t, "(list (root-ref 'x) (root-ref 'y) (root-ref 'none) (root-ref 'abcdefghijk))", w)
	wantDone(t, "root-ref", m, `((1 "two" #(three)) #f #f 11)`)
	if s := strings.Join(w.asked, ", "); s != "get x, get y, get none, get abcdefghijk" {
		t.Error(s)
	}
	wantDone(t, "new each time", runIn(t, "(eq? (root-ref 'x) (root-ref 'x))", w), "#f")
	// bytes that can't be
	w.roots["x"] = []byte{1, 2, 3}
	wantFailed(t, "three bytes", runIn(t, "(root-ref 'x)", w), api.ErrSum)
	w.roots["x"] = []byte{0, 0, 0, 0}
	wantFailed(t, "no version", runIn(t, "(root-ref 'x)", w), api.ErrForm)
	w.roots["x"] = bytesOf(t, `"`+rep("x", 3000)+`"`)
	small := machine(t, source(t, "(root-ref 'x)"), 100, 1000)
	small.Run(100, w)
	wantFailed(t, "no room", small, api.ErrMemory)
	// an error: with bytes, too
	for _, e := range []api.Errno{api.ErrClash, api.ErrName, api.ErrArg, 999, -5} {
		w.get = e
		wantFailed(t, "an error", runIn(t, "(root-ref 'abcdefghijk)", w), e)
	}
}

func TestRootSet(t *testing.T) {
	w := newWorld()
	m := runIn(t, `(root-set! 'x '(1 "two" #(three)))`, w)
	wantDone(t, "root-set!", m, "#!void")
	if !bytes.Equal(w.roots["x"], bytesOf(t, `(1 "two" #(three))`)) || fmt.Sprint(w.asked) != "[put x]" {
		t.Errorf("%v, %v", w.asked, w.roots)
	}
	wantDone(t, "there and back", runIn(t, "(define l (list 1 2)) (root-set! 'l (list l l 'a \"b\" 1099511627777)) (define m (root-ref 'l)) (list m (eq? (car m) (car (cdr m))))", w), `(((1 2) (1 2) a "b" 1099511627777) #t)`)
	wantDone(t, "round", runIn(t, "(define l (list 1)) (set-cdr! l l) (root-set! 'r l) (define m (root-ref 'r)) (eq? m (cdr m))", w), "#t")
	wantDone(t, "all but the value goes through", runIn(t, "(root-set! 'f #f) (root-set! 'n '()) (root-set! 'v (set-car! (list 1) 1)) (list (root-ref 'f) (root-ref 'n) (root-ref 'v))", w), "(#f () #!void)")
	for _, e := range []api.Errno{api.ErrClash, api.ErrFull, 999} {
		w.put = e
		wantFailed(t, "an error", runIn(t, "(root-set! 'x 1)", w), e)
	}
	w.put = api.OK
	w.asked = nil
	big := "(define (n k l) (if (= k 0) l (n (- k 1) (cons 1 l)))) (define l (n 200 '())) (define m (append" + rep(" l", 100) + ")) "
	m = runIn(t, big+"(root-set! 'x m)", w)
	wantDone(t, "20000 objects", m, "#!void")
	m = runIn(t, big+"(root-set! 'x (cons 1 m))", w)
	wantFailed(t, "more than 20000 objects", m, api.ErrFull)
	if len(w.asked) != 1 {
		t.Error("it was told what can't be")
	}
	m = runIn(t, big+"(root-set! 'x (cons 1 m))", nil)
	wantFailed(t, "more than 20000 objects, and no world", m, api.ErrFull)
}

// TestProceduresAsRoots: a closure, a continuation go through bytes like all else.
func TestProceduresAsRoots(t *testing.T) {
	w := newWorld()
	wantDone(t, "a closure", runIn(t, "(root-set! 'f (let ((n 3)) (lambda (x) (set! n (+ n x)) n))) (define f (root-ref 'f)) (define g (root-ref 'f)) (list (f 1) (f 1) (g 10) ((root-ref 'f) 0))", w), "(4 5 13 3)")
	wantDone(t, "a primitive", runIn(t, "(root-set! 'p car) ((root-ref 'p) '(1 2))", w), "1")
	wantDone(t, "a continuation", runIn(t, "(define n 0) (define r (call/cc (lambda (k) (root-set! 'k k) 1))) (set! n (+ n 1)) (if (< n 4) ((root-ref 'k) (+ r 1)) (list n r))", w), "(4 4)")
	// of another program: whatever comes of it, it ends
	for _, s := range []string{"((root-ref 'f) 1)", "((root-ref 'k) 1)", "(define (g x) ((root-ref 'f) x)) (g 1) (g 2)", "(dynamic-wind (root-ref 'k) (root-ref 'f) car)", "(call/cc (root-ref 'f))"} {
		m := runIn(t, s, w)
		if m.Used() > 200000 {
			t.Error(told(m))
		}
	}
}

func TestRootNames(t *testing.T) {
	w := newWorld()
	for s, why := range map[string]api.Errno{
		"(root-ref \"x\")": api.ErrType, "(root-ref 5)": api.ErrType, "(root-ref '())": api.ErrType, "(root-ref car)": api.ErrType, "(root-ref '(x))": api.ErrType, "(root-ref 'abcdefghijkl)": api.ErrType,
		"(root-set! \"x\" 1)": api.ErrType, "(root-set! 5 1)": api.ErrType, "(root-set! 'abcdefghijkl 1)": api.ErrType, "(root-set! 1 'x)": api.ErrType,
		"(root-ref)": api.ErrCount, "(root-ref 5 5)": api.ErrCount, "(root-set! 5)": api.ErrCount, "(root-set! 5 1 1)": api.ErrCount, "(root-set! 'x)": api.ErrCount,
	} {
		wantFailed(t, s, runIn(t, s, w), why)
		wantFailed(t, s, runIn(t, s, nil), why)
	}
	if len(w.asked) > 0 {
		t.Errorf("asked: %v", w.asked)
	}
	wantDone(t, "11 bytes", runIn(t, "(root-set! 'abcdefghijk 1)", w), "#!void")
	// a symbol without bytes, which only a hand can make, is one of at most 11
	b, _ := serial.Encode(newHeap(t), small(1))
	w.roots[""] = b
	m := machine(t, by(t, "", "root-ref", in(api.OpGlobal, 0), in(api.OpCall, 1)), 100, 100)
	h := m.Heap()
	y, _ := h.Text(api.KSymbol, "")
	h.SetRoot(stack, mk(t, h, api.KPair, y, api.Nil))
	m.Run(10, w)
	wantDone(t, "no bytes", m, "1")
}

func TestNoWorld(t *testing.T) {
	for _, s := range []string{"(root-ref 'x)", "(root-set! 'x 1)"} {
		wantFailed(t, s, run(t, s), api.ErrState)
	}
	var none *stm.Tx
	wantFailed(t, "a transaction that no call made", runIn(t, "(root-ref 'x)", none), api.ErrNil)
	var w *world
	for _, s := range []string{"(root-ref 'x)", "(root-set! 'x 1)"} {
		wantFailed(t, "a world that breaks down", runIn(t, s, w), api.ErrState)
		wantFailed(t, "another one", runIn(t, s, &world{do: func() { panic("down") }}), api.ErrState)
	}
	// each Run has a world of its own
	m := machine(t, source(t, "(root-set! 'x 1) (root-set! 'y 2) (root-ref 'x)"), 1000, 1000)
	a, b := newWorld(), newWorld()
	m.Run(7, a)
	m.Run(7, b)
	m.Run(7, nil)
	wantFailed(t, "worlds", m, api.ErrState)
	if fmt.Sprint(a.asked, b.asked) != "[put x] [put y]" {
		t.Error(a.asked, b.asked)
	}
}

// TestWorldsAtWork: a world that collects the heap when it is asked, and one that turns the bytes it was told or has told.
func TestWorldsAtWork(t *testing.T) {
	const s = "(define l (list 1 2 \"x\")) (root-set! 'l (list l (root-ref 'a) l)) (set! l (cons (root-ref 'l) (cons (root-ref 'a) l))) (list l (dynamic-wind (lambda () (root-set! 'b l)) (lambda () (car (root-ref 'b))) (lambda () (root-ref 'b))))"
	plain := newWorld()
	plain.roots["a"] = bytesOf(t, "(a b c)")
	want := runIn(t, s, plain)
	for _, all := range []bool{false, true} {
		w := newWorld()
		w.roots["a"] = bytesOf(t, "(a b c)")
		m := machine(t, source(t, s), 200, 2000)
		w.do = func() { m.Heap().Collect(all) }
		m.Run(10000, w)
		if want.State() != api.Done || told(m) != told(want) {
			t.Errorf("collected: %s, want %s", told(m), told(want))
		}
	}
	w := newWorld()
	m := machine(t, source(t, "(define l '(1 2)) (root-set! 'l l) (list l (root-ref 'a))"), 200, 2000)
	given := bytesOf(t, "(a b)")
	w.roots["a"] = append(make([]byte, 0, 200), given...)
	room := w.roots["a"][:200]
	for m.Run(1, w) == api.Running {
		if b := w.roots["l"]; b != nil {
			clear(b[:cap(b)])
		}
		if len(w.asked) > 1 && bytes.Equal(room[:len(given)], given) {
			if len(bytes.Trim(room[len(given):], "\x00")) > 0 {
				t.Error("what it was told was written into")
			}
			clear(room)
		}
	}
	wantDone(t, "turned", m, "((1 2) (a b))")
}

func TestTransactionAsWorld(t *testing.T) {
	sp, _ := stm.New(nil)
	x, _ := sp.Begin()
	m := runIn(t, "(root-set! 'x 5) (list (root-ref 'x) (root-ref 'y))", x)
	wantDone(t, "a transaction", m, "(5 #f)")
	if fmt.Sprint(x.Reads()) != "[y]" || len(x.Writes()) != 1 {
		t.Error(x.Reads(), x.Writes())
	}
	y, _ := sp.Begin()
	x.Lock()
	wantFailed(t, "a clash", runIn(t, "(root-ref 'x)", y), api.ErrClash)
}
