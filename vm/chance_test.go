package vm_test

import (
	"fmt"
	"math/big"
	"math/rand"
	"slices"
	"strings"
	"testing"

	"rostrum/api"
	"rostrum/code"
	"rostrum/heap"
	"rostrum/serial"
	"rostrum/vm"
	"rostrum/wire"
)

// Programs by chance, most of whose parts are of the type that is wanted.

type writer struct {
	*rand.Rand
	names []string // what is bound: n1 a number, l1 a list, f1 a procedure of one number, k1 a continuation
	count int
}

// the globals that programs have: N numbers, L a list, F procedures, K a continuation that may be gone to again.
const globalForms = `(define N 1) (define M 2) (define L '(1 2 3)) (define F (lambda (x) (+ x 1))) (define K (lambda (x) x)) (define ticks 0) (define noted '())
(define (tick) (set! ticks (+ ticks 1)) ticks) (define (note x) (set! noted (cons x noted)) x) `

func (w *writer) oneOf(l ...string) string { return l[w.Intn(len(l))] }

// bound is a name of a type, if there is one.
func (w *writer) bound(kind string) (string, bool) {
	var l []string
	for _, name := range w.names {
		if strings.HasPrefix(name, kind) {
			l = append(l, name)
		}
	}
	if len(l) == 0 {
		return "", false
	}
	return w.oneOf(l...), true
}

// with is what a part is where a new name of a type is bound.
func (w *writer) with(kind string, part func(name string) string) string {
	w.count++
	name := fmt.Sprint(kind, w.count%7)
	w.names = append(w.names, name)
	defer func() { w.names = w.names[:len(w.names)-1] }()
	return part(name)
}

func (w *writer) any(d int) string {
	if w.Intn(60) == 0 {
		return w.oneOf("car", "'sym", `"text"`, "#t", "'#(1 2)", "undefined", "(lambda () 1)", "'()", "'(1 . 2)", "list")
	}
	switch w.Intn(4) {
	case 0:
		return w.list(d)
	case 1:
		return w.truth(d)
	}
	return w.number(d)
}

func (w *writer) number(d int) string {
	if w.Intn(150) == 0 {
		return w.any(d)
	}
	if d <= 0 {
		if s, ok := w.bound("n"); ok && w.Intn(3) > 0 {
			return s
		}
		return w.oneOf("0", "1", "2", "-3", "7", "1099511627776", "N", "M", "ticks")
	}
	n, m := func() string { return w.number(d - 1) }, func() string { return w.number(d - 2) }
	switch w.Intn(24) {
	case 0, 1:
		return "(" + w.oneOf("+", "-", "*") + rep2(w.Intn(3), func() string { return " " + m() }) + " " + n() + ")"
	case 2:
		return "(quotient " + n() + " " + m() + ")"
	case 3:
		return "(length " + w.list(d-1) + ")"
	case 4:
		return "(if (pair? L) (car L) " + n() + ")"
	case 5, 6:
		first := m()
		return w.with("n", func(name string) string { return "(let ((" + name + " " + first + ")) " + n() + ")" })
	case 7:
		return "(" + w.procedure(d-1) + " " + n() + ")"
	case 8:
		return "(apply " + w.oneOf("+", "*", "list", "F", "(lambda x (length x))") + " " + w.list(d-1) + ")"
	case 9, 10:
		return w.with("k", func(name string) string { return "(call/cc (lambda (" + name + ") " + n() + "))" })
	case 11, 12:
		if k, ok := w.bound("k"); ok {
			return "(" + k + " " + n() + ")"
		}
		return "(begin (if (< (tick) 12) (K " + n() + ") 0) " + m() + ")"
	case 13:
		return "(call/cc (lambda (c) (set! K c) " + n() + "))"
	case 14, 15:
		return "(dynamic-wind (lambda () " + w.effect(d-2) + ") (lambda () " + n() + ") (lambda () " + w.effect(d-2) + "))"
	case 16:
		return "(suspend " + n() + ")"
	case 17, 18:
		return "(begin " + w.effect(d-1) + " " + n() + ")"
	case 19, 20:
		return "(if " + w.truth(d-1) + " " + n() + " " + m() + ")"
	case 21:
		return "(note " + n() + ")"
	case 22:
		return "(vector-ref (vector " + n() + " " + m() + ") " + w.oneOf("0", "1", "0", "1", "N") + ")"
	}
	return w.with("n", func(name string) string {
		return "(let loop ((" + name + " 3)) (if (= " + name + " 0) " + m() + " (begin " + w.effect(d-2) + " (loop (- " + name + " 1)))))"
	})
}

func rep2(n int, part func() string) string {
	s := ""
	for range n {
		s += part()
	}
	return s
}

func (w *writer) truth(d int) string {
	if d <= 0 {
		return w.oneOf("#t", "#f", "(null? L)")
	}
	return w.oneOf("(< "+w.number(d-1)+" "+w.number(d-2)+")", "(= "+w.number(d-1)+" "+w.number(d-2)+")", "(not "+w.truth(d-1)+")", "(pair? "+w.any(d-1)+")", "(eq? "+w.any(d-2)+" "+w.any(d-1)+")", "(procedure? "+w.any(d-1)+")", "(and "+w.truth(d-1)+" "+w.truth(d-1)+")", "(or "+w.truth(d-1)+" "+w.truth(d-2)+")")
}

func (w *writer) list(d int) string {
	if d <= 0 {
		if s, ok := w.bound("l"); ok && w.Intn(3) > 0 {
			return s
		}
		return w.oneOf("L", "'()", "'(4 5)", "(list N M)")
	}
	switch w.Intn(11) {
	case 0, 1:
		return "(list" + rep2(w.Intn(4), func() string { return " " + w.number(d-1) }) + ")"
	case 2, 3:
		return "(cons " + w.number(d-1) + " " + w.list(d-1) + ")"
	case 4:
		return "(reverse " + w.list(d-1) + ")"
	case 5:
		return "(append " + w.list(d-2) + " " + w.list(d-1) + ")"
	case 6:
		first := w.list(d - 2)
		return w.with("l", func(name string) string { return "(let ((" + name + " " + first + ")) " + w.list(d-1) + ")" })
	case 7:
		args := w.number(d-1) + " " + w.number(d-2)
		return w.with("l", func(name string) string { return "((lambda " + name + " " + w.list(d-1) + ") " + args + ")" })
	case 8:
		return "(begin " + w.effect(d-1) + " " + w.list(d-1) + ")"
	case 9:
		return "(let ((r (root-ref '" + w.oneOf("a", "b") + "))) (if r r " + w.list(d-1) + "))"
	}
	return "(if " + w.truth(d-1) + " " + w.list(d-1) + " " + w.list(d-2) + ")"
}

func (w *writer) procedure(d int) string {
	if s, ok := w.bound("f"); ok && w.Intn(2) == 0 {
		return s
	}
	if d <= 0 || w.Intn(3) == 0 {
		return "F"
	}
	return w.with("n", func(name string) string { return "(lambda (" + name + ") " + w.number(d-1) + ")" })
}

func (w *writer) effect(d int) string {
	switch w.Intn(9) {
	case 0, 1:
		return "(note " + w.number(d-1) + ")"
	case 2:
		return "(set! " + w.oneOf("N", "M") + " " + w.number(d-1) + ")"
	case 3:
		return "(set! L " + w.list(d-1) + ")"
	case 4:
		return "(set! F " + w.procedure(d-1) + ")"
	case 5:
		return "(root-set! '" + w.oneOf("a", "b") + " " + w.list(d-1) + ")"
	case 6:
		if s, ok := w.bound("n"); ok {
			return "(set! " + s + " " + w.number(d-1) + ")"
		}
		return "(note 'e)"
	case 7:
		return "(if (pair? L) (set-car! L " + w.number(d-1) + "))"
	}
	first := w.procedure(d - 1)
	return w.with("f", func(name string) string { return "(let ((" + name + " " + first + ")) " + w.number(d-1) + ")" })
}

func (w *writer) program() string {
	s := globalForms
	for range 1 + w.Intn(4) {
		switch w.Intn(3) {
		case 0:
			s += w.effect(2+w.Intn(4)) + " "
		case 1:
			s += "(note " + w.any(2+w.Intn(4)) + ") "
		default:
			s += "(define N " + w.number(2+w.Intn(4)) + ") "
		}
	}
	return s + "(list " + w.any(2+w.Intn(4)) + " noted L N M)"
}

// answer is what the nth suspend answers.
func answer(n int) int { return (n*7 + 3) % 11 }

// outcome is all that a program tells: what it suspended with, and at the end what it shows, or its error. It is empty, if it does not end, or finds no room.
type driver struct {
	*rand.Rand // nil: one Run, no collections
	young, old int
	used       int
	memory     bool
	suspended  int
}

func (d *driver) size() (int, int) {
	if d.Rand == nil {
		return d.young, d.old
	}
	return d.young + d.Intn(200), d.old + d.Intn(d.old)
}

// run runs a machine for at most so much fuel; by chance bit by bit, with collections in between.
func (d *driver) run(m *vm.Machine, fuel int, env vm.Env) {
	if d.Rand == nil {
		m.Run(fuel, env)
		return
	}
	most := 1 + d.Intn(200)
	for fuel > 0 && m.State() == api.Running {
		n := min(fuel, d.Intn(most+1))
		m.Run(n, env)
		fuel -= n
		if d.Intn(3) == 0 {
			m.Heap().Collect(d.Intn(3) == 0)
		}
	}
}

func (d *driver) outcome(t *testing.T, c api.Code, fuel int) string {
	t.Helper()
	young, old := d.size()
	m, e := vm.New(c, young, old)
	if e != api.OK {
		t.Fatal(e)
	}
	w := newWorld()
	var l []string
	for {
		d.run(m, fuel-d.used, w)
		d.used += m.Used()
		if m.Heap().Roots() != 6 {
			t.Fatalf("%d roots", m.Heap().Roots())
		}
		switch m.State() {
		case api.Done:
			return strings.Join(append(l, m.Value()), "; ")
		case api.Failed:
			if m.Why() == api.ErrMemory {
				d.memory = true
				return ""
			}
			return strings.Join(append(l, fmt.Sprint("*", int(m.Why()))), "; ")
		case api.Running:
			return ""
		}
		l = append(l, m.Value())
		b, e := m.Save()
		if e == api.OK {
			d.suspended++
			young, old := d.size()
			m, e = vm.Load(b, api.Datum{Kind: api.DNumber, Text: fmt.Sprint(answer(len(l)))}, young, old)
		}
		if e == api.ErrMemory {
			d.memory = true
			return ""
		}
		if e != api.OK {
			t.Fatal(e)
		}
	}
}

// P17.4, P17.5, P17.6, P17.7, and P3, P4 of the whole.
func TestProgramsByChance(t *testing.T) {
	w := &writer{Rand: rand.New(rand.NewSource(1))}
	times := map[string]int{}
	const fuel = 20000
	for range 2500 {
		s := w.program()
		c, err := code.Source(s)
		if err != nil {
			continue
		}
		times["programs"]++
		great := &driver{young: 20000, old: 500000}
		got := great.outcome(t, c, fuel)
		var told []string
		v, why, ends := mean(nodesOf(t, s), 30000, func(s string) value {
			told = append(told, s)
			return big.NewInt(int64(answer(len(told))))
		})
		if why != api.OK {
			v = fmt.Sprint("*", int(why))
			times["errors"]++
		}
		want := strings.Join(append(told, v), "; ")
		if !ends || got == "" {
			times["endless"]++
			if ends && great.used < fuel {
				t.Fatalf("%s\nfound no room", s)
			}
			continue
		}
		if got != want {
			t.Fatalf("%s\nis %.2000s\nwant %.2000s", s, got, want)
		}
		times["suspended"] += great.suspended
		for range 3 {
			other := &driver{Rand: w.Rand, young: []int{40, 100, 400, 5000}[w.Intn(4)], old: []int{20, 400, 2000, 30000}[w.Intn(4)]}
			again := other.outcome(t, c, fuel)
			if other.memory {
				times["memory"]++
				continue
			}
			if again != got || other.used != great.used {
				t.Fatalf("%s\nis %.2000s (%d), in another heap %.2000s (%d)", s, got, great.used, again, other.used)
			}
			times["again"]++
		}
	}
	for what, least := range map[string]int{"programs": 2000, "errors": 100, "suspended": 500, "memory": 100, "again": 4000} {
		if times[what] < least {
			t.Errorf("%s: only %d times", what, times[what])
		}
	}
	if times["endless"] > times["programs"]/10 {
		t.Errorf("%d of %d do not end", times["endless"], times["programs"])
	}
}

// Code by chance.

// instructions is code that may be run: of some calls that are as the compiler makes them, and of anything.
func (w *writer) instructions() api.Code {
	c := source2(`'(1 "s" (x)) #t #f '() 7 'a '#(1 2) (car cdr list vector cons apply call/cc dynamic-wind suspend root-ref root-set! set-car! append x y)`)
	n := 10 + w.Intn(40)
	var l []api.Instr
	put := func(op, a, b int) { l = append(l, api.Instr{Op: op, A: a, B: b}) }
	value := func() {
		switch w.Intn(3) {
		case 0:
			put(api.OpConst, w.Intn(len(c.Consts)), 0)
		case 1:
			put(api.OpGlobal, w.Intn(len(c.Names)-2), 0)
		default:
			put(api.OpClosure, w.Intn(n), w.Intn(4))
		}
	}
	for len(l) < n {
		args := w.Intn(4)
		if w.Intn(2) == 0 {
			if w.Intn(4) > 0 {
				put(api.OpFrame, min(n, len(l)+3+2*args), 0)
			}
			for range args {
				value()
				put(api.OpPush, 0, 0)
			}
			value()
			put(api.OpCall, args, 0)
			continue
		}
		switch w.Intn(12) {
		case 0:
			put([]int{api.OpLocal, api.OpSet}[w.Intn(2)], w.Intn(2), w.Intn(2))
		case 1, 2:
			put([]int{api.OpGlobal, api.OpSetG, api.OpDefine}[w.Intn(3)], w.Intn(len(c.Names)), 0)
		case 3:
			put([]int{api.OpJump, api.OpJumpF}[w.Intn(2)], w.Intn(n+1), 0)
		case 4:
			put(api.OpFrame, w.Intn(n+1), 0)
		case 5, 6:
			put(api.OpPush, 0, 0)
		case 7:
			put(api.OpCall, args, 0)
		case 8:
			put(api.OpReturn, 0, 0)
		default:
			value()
		}
	}
	c.Instrs = append(l[:n], api.Instr{Op: api.OpHalt})
	return c
}

func source2(s string) api.Code {
	c, err := code.Source(s)
	if err != nil {
		panic(err)
	}
	return c
}

// held is what comes of a machine that runs, whatever it is; in each of several ways the same.
func (w *writer) held(t *testing.T, what string, load func(young, old int) (*vm.Machine, api.Errno)) string {
	t.Helper()
	const fuel = 400
	world := func() *world {
		o := newWorld()
		o.roots["a"], o.roots["x"] = bytesOf(t, "(1 2)"), []byte{1}
		return o
	}
	m, e := load(50000, 500000)
	if e != api.OK {
		return fmt.Sprint("none ", int(e))
	}
	o := world()
	m.Run(fuel, o)
	want := told(m) + fmt.Sprint(o.roots)
	for range 2 {
		n, e := load([]int{50, 300, 2000}[w.Intn(3)], 20000)
		if e == api.ErrMemory {
			continue
		}
		if e != api.OK {
			t.Fatalf("%s: %v", what, e)
		}
		d := &driver{Rand: w.Rand}
		o := world()
		d.run(n, fuel, o)
		if got := told(n) + fmt.Sprint(o.roots); got != want && n.Why() != api.ErrMemory {
			t.Fatalf("%s\nis %.500s\nor %.500s", what, want, got)
		}
		if n.Heap().Roots() != 6 {
			t.Fatalf("%s: %d roots", what, n.Heap().Roots())
		}
	}
	return fmt.Sprint("state ", m.State(), " ", int(m.Why()))
}

func TestCodeByChance(t *testing.T) {
	w := &writer{Rand: rand.New(rand.NewSource(2))}
	times := map[string]int{}
	for range 12000 {
		c := w.instructions()
		if code.Verify(c) != api.OK {
			t.Fatalf("it may not be run: %v", c.Instrs)
		}
		times[w.held(t, fmt.Sprint(c.Instrs), func(young, old int) (*vm.Machine, api.Errno) { return vm.New(c, young, old) })]++
	}
	for _, what := range []string{"state 0 0", "state 1 0", "state 2 130", "state 2 150", "state 2 151", "state 2 170", "state 2 171", "state 3 0"} {
		if times[what] < 5 {
			t.Errorf("%s: only %d times", what, times[what])
		}
	}
}

// P7 of the whole: any bytes.

// graph is frames, closures, continuations, vectors by chance, in a heap; the word of one like what Save writes.
func (w *writer) graph(t *testing.T, c api.Code) (*heap.Heap, api.Word) {
	t.Helper()
	h := newHeap(t)
	by := map[int][]api.Word{}
	for range 4 + w.Intn(30) {
		kind := []int{api.KPair, api.KPair, api.KVector, api.KVector, api.KVector, api.KClosure, api.KClosure, api.KCont, api.KFrame, api.KFrame, api.KFrame, api.KSymbol}[w.Intn(12)]
		var x api.Word
		switch kind {
		case api.KSymbol:
			x, _ = h.Text(kind, w.oneOf("a", "x", "", "abcdefghijkl"))
		case api.KVector:
			x = mk(t, h, kind, make([]api.Word, w.Intn(4))...)
		default:
			x = mk(t, h, kind, make([]api.Word, map[int]int{api.KPair: 2, api.KClosure: 3, api.KCont: 2, api.KFrame: 4}[kind])...)
		}
		by[kind] = append(by[kind], x)
		by[0] = append(by[0], x)
	}
	pick := func(kind int) api.Word {
		if l := by[kind]; len(l) > 0 && w.Intn(12) > 0 {
			return l[w.Intn(len(l))]
		}
		return []api.Word{api.Nil, api.Nil, api.Nil, api.False, api.Void, api.Unbound, small(w.Intn(9) - 4), api.Prim0 - 2*api.Word(w.Intn(50)), 1<<63 - 1}[w.Intn(9)]
	}
	procedure := func() api.Word {
		switch w.Intn(4) {
		case 0:
			return pick(api.KCont)
		case 1:
			return pick(api.KClosure)
		}
		return prim(t, w.oneOf("list", "vector", "append", "car", "suspend", "call/cc", "apply", "dynamic-wind"))
	}
	for _, x := range by[0] {
		switch h.Kind(x) {
		case api.KPair:
			h.Set(x, 0, mk(t, h, api.KVector, procedure(), procedure()))
			h.Set(x, 1, pick(api.KPair))
		case api.KVector:
			for i := range h.Len(x) {
				h.Set(x, i, []api.Word{procedure(), pick(0), pick(api.KVector)}[w.Intn(3)])
			}
		case api.KClosure:
			h.Set(x, 0, small(w.Intn(len(c.Instrs)+4)-2))
			h.Set(x, 1, small([]int{0, 0, 0, 1, 1, 1, 2, 3, 4, -1, -2}[w.Intn(11)]))
			h.Set(x, 2, pick(api.KVector))
		case api.KCont:
			h.Set(x, 0, pick(api.KFrame))
			h.Set(x, 1, pick(api.KPair))
		case api.KFrame:
			place := w.Intn(len(c.Instrs)+13) - 12
			env := pick(api.KVector)
			switch {
			case place < -5:
				place = -1 - w.Intn(5)
				fallthrough
			case place < 0:
				env = mk(t, h, api.KVector, map[int][]api.Word{
					-1: {procedure(), procedure(), procedure()}, -2: {procedure(), procedure(), procedure()}, -3: {pick(0)}, -4: {pick(api.KCont), pick(0)}, -5: {pick(api.KCont), pick(0), pick(api.KPair)},
				}[place]...)
			case w.Intn(30) == 0:
				place = []int{-6, 1 << 40, -1 << 50}[w.Intn(3)]
			}
			h.Set(x, 0, small(place))
			h.Set(x, 1, env)
			h.Set(x, 2, pick(api.KPair))
			h.Set(x, 3, pick(api.KFrame))
		}
		if n := h.Len(x); h.Kind(x) != api.KSymbol && n > 0 && w.Intn(15) == 0 {
			h.Set(x, w.Intn(n), pick(0))
		}
	}
	var g []api.Word
	for _, name := range c.Names {
		g = append(g, prim(t, "list"))
		if name != "x" && name != "y" && w.Intn(4) > 0 {
			g[len(g)-1] = prim(t, name)
		} else if w.Intn(2) == 0 {
			g[len(g)-1] = pick(0)
		}
	}
	return h, mk(t, h, api.KVector, pick(api.KFrame), mk(t, h, api.KVector, g...), pick(api.KPair))
}

func TestLoadsByChance(t *testing.T) {
	w := &writer{Rand: rand.New(rand.NewSource(3))}
	times := map[string]int{}
	for range 12000 {
		c := w.instructions()
		h, x := w.graph(t, c)
		b := saved(t, c, h, x)
		d := read(t, w.oneOf("5", "(1 2)", "a", `"s"`))
		times[w.held(t, fmt.Sprintf("%v %s", c.Instrs, shownOnce(h, x)), func(young, old int) (*vm.Machine, api.Errno) { return vm.Load(b, d, young, old) })]++
	}
	for _, what := range []string{"state 0 0", "state 1 0", "state 2 130", "state 2 150", "state 2 151", "state 2 170", "state 2 171", "state 3 0"} {
		if times[what] < 5 {
			t.Errorf("%s: only %d times", what, times[what])
		}
	}
}

// shownOnce is a graph as its bytes: it may go round.
func shownOnce(h *heap.Heap, w api.Word) string {
	b, _ := serial.Encode(h, w)
	return fmt.Sprint(b)
}

// TestTurnedBytes: bytes that something was done to are refused, or are a machine that ends.
func TestTurnedBytes(t *testing.T) {
	r := rand.New(rand.NewSource(4))
	m := run(t, notes+"(define c (call/cc (lambda (k) k))) (list 1 (wind 1 (lambda () (wind 2 (lambda () (suspend '(1 \"x\")))))) c)")
	b := save(t, m)
	rd := wire.Over(b)
	program, _ := rd.Text(len(b))
	words, _ := rd.Text(len(b))
	times := map[string]int{}
	for range 20000 {
		p, s := []byte(program), []byte(words)
		s = s[:len(s)-4]
		for range 1 + r.Intn(3) {
			of := &s
			if r.Intn(6) == 0 {
				of = &p
			}
			at := r.Intn(len(*of))
			switch r.Intn(4) {
			case 0:
				(*of)[at] ^= 1 << r.Intn(8)
			case 1:
				(*of)[at] = byte(r.Intn(12))
			case 2:
				*of = slices.Delete(*of, at, at+1)
			default:
				*of = slices.Insert(*of, at, byte(r.Intn(12)))
			}
		}
		all := wire.Text(wire.Text(nil, string(p)), summed(s))
		if r.Intn(10) == 0 {
			all[r.Intn(len(all))] ^= 1
		}
		n, e := vm.Load(all, api.Datum{Kind: api.DNumber, Text: "5"}, 500, 5000)
		if (n == nil) != (e != api.OK) {
			t.Fatal(e)
		}
		n.Run(2000, nil)
		times[fmt.Sprint(e != api.OK, n.State())]++
	}
	if times["true 2"] < 1000 || times["false 1"] < 100 || times["false 2"] < 100 {
		t.Error(times)
	}
}
