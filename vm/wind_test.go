package vm_test

import (
	"fmt"
	"testing"

	"rostrum/api"
	"rostrum/heap"
	"rostrum/vm"
)

// notes is what programs here begin with: (wind n thunk) notes (in n) and (out n) in l, (note x) notes x; (told) is all of it.
const notes = `(define l '()) (define (note x) (set! l (cons x l)) x) (define (told) (reverse l))
(define (wind n thunk) (dynamic-wind (lambda () (note (list 'in n))) thunk (lambda () (note (list 'out n))))) `

func TestDynamicWind(t *testing.T) {
	wantRows(t, [][2]string{
		{notes + "(wind 1 (lambda () (note 'x) 5))", "5"},
		{notes + "(wind 1 (lambda () (note 'x) 5)) (told)", "((in 1) x (out 1))"},
		{notes + "(wind 1 (lambda () (wind 2 (lambda () (note 'x))))) (told)", "((in 1) (in 2) x (out 2) (out 1))"},
		{notes + "(+ 1 (call/cc (lambda (k) (wind 1 (lambda () (wind 2 (lambda () (k 5))))))))", "6"},
		{notes + "(call/cc (lambda (k) (wind 1 (lambda () (wind 2 (lambda () (k 5) (note 'never))))))) (told)", "((in 1) (in 2) (out 2) (out 1))"},
		// out of one only
		{notes + "(wind 1 (lambda () (call/cc (lambda (k) (wind 2 (lambda () (k 5))))) (note 'still))) (told)", "((in 1) (in 2) (out 2) still (out 1))"},
		// within one: nothing is passed
		{notes + "(wind 1 (lambda () (note (call/cc (lambda (k) (k 5)))))) (told)", "((in 1) 5 (out 1))"},
		// in again
		{"(let ((path '()) (c #f)) (let ((add (lambda (s) (set! path (cons s path))))) (dynamic-wind (lambda () (add 'connect)) (lambda () (add (call/cc (lambda (k) (set! c k) 'talk1)))) (lambda () (add 'disconnect))) (if (< (length path) 4) (c 'talk2) (reverse path))))", "(connect talk1 disconnect connect talk2 disconnect)"},
		// in again by two, from the outside in
		{notes + "(define c #f) (define n 0) (wind 1 (lambda () (wind 2 (lambda () (note (call/cc (lambda (k) (set! c k) 'a))))))) (set! n (+ n 1)) (if (= n 1) (c 'b) (told))", "((in 1) (in 2) a (out 2) (out 1) (in 1) (in 2) b (out 2) (out 1))"},
		// from one to another one, with one around both that is not touched
		{notes + "(define c #f) (define n 0) (wind 0 (lambda () (wind 1 (lambda () (call/cc (lambda (k) (set! c k))) (note 'one))) (set! n (+ n 1)) (if (= n 1) (wind 2 (lambda () (wind 3 (lambda () (c 'go)))))) (note 'end))) (told)",
			"((in 0) (in 1) one (out 1) (in 2) (in 3) (out 3) (out 2) (in 1) one (out 1) end (out 0))"},
		// a continuation that was made in a before is outside of it, as is one of an after
		{notes + "(define c #f) (define n 0) (dynamic-wind (lambda () (call/cc (lambda (k) (set! c k))) (note 'in)) (lambda () (note 'x)) (lambda () (note 'out))) (set! n (+ n 1)) (if (< n 3) (c 1) (told))", "(in x out in x out in x out)"},
		{notes + "(define c #f) (define n 0) (define r (dynamic-wind (lambda () (note 'in)) (lambda () (note 'x) 7) (lambda () (call/cc (lambda (k) (set! c k))) (note 'out)))) (set! n (+ n 1)) (if (< n 3) (c 1) (list r (told)))", "(7 (in x out out out))"},
		// one that leaves an after for somewhere else: what is left of the way is not gone
		{notes + "(call/cc (lambda (j) (call/cc (lambda (k) (dynamic-wind list (lambda () (wind 1 (lambda () (k 5)))) (lambda () (j 6))))) (note 'never))) (told)", "((in 1) (out 1))"},
		{notes + "(note (call/cc (lambda (j) (call/cc (lambda (k) (wind 0 (lambda () (dynamic-wind list (lambda () (wind 1 (lambda () (k 5)))) (lambda () (j 6))))))) (note 'never)))) (told)", "((in 0) (in 1) (out 1) (out 0) 6)"},
		// a thunk that is a continuation, called without arguments
		{"(call/cc (lambda (k) (dynamic-wind list k list)))", "*151"}, {"(call/cc (lambda (k) (dynamic-wind k list list)))", "*151"},
		// what is no procedure is told when it is called
		{"(dynamic-wind 1 2 3)", "*171"}, {"(dynamic-wind list 2 3)", "*171"}, {"(dynamic-wind list list 3)", "*171"}, {"(dynamic-wind car list list)", "*151"}, {"(dynamic-wind list (lambda () (car 5)) (lambda () (note 1)))", "*150"},
		{"(call/cc (lambda (k) (dynamic-wind list (lambda () (k 1)) 3)))", "*171"}, {"(define c #f) (define n 0) (define (b) (if (= n 0) 0 (car 5))) (dynamic-wind b (lambda () (call/cc (lambda (k) (set! c k)))) list) (set! n 1) (c 1)", "*150"},
		{"(dynamic-wind list (lambda () 5) (lambda () 6))", "5"}, {"(dynamic-wind suspend list list)", "*151"},
		// deep ones
		{"(define n 0) (define (f k d) (if (= d 0) (k 'out) (dynamic-wind (lambda () (set! n (+ n 1))) (lambda () (f k (- d 1))) (lambda () (set! n (+ n 1000)))))) (list (call/cc (lambda (k) (f k 100))) n)", "(out 100100)"},
	})
}

// TestWindsDeeperThanLists: no list of a program has more than 10000 pairs, but winds may be as deep as there is room.
func TestWindsDeeperThanLists(t *testing.T) {
	m := machine(t, source(t, "(define n 0) (define (b) (set! n (+ n 1))) (define c #f) (define (f d) (if (= d 0) (call/cc (lambda (k) (set! c k) 1)) (dynamic-wind b (lambda () (f (- d 1))) list))) (f 10005) (if (< n 10006) (c 5) n)"), 100000, api.MaxHeap)
	m.Run(5000000, nil)
	wantDone(t, "deep", m, "20010")
}

// TestWindsByStep: the registers, place by place.
func TestWindsByStep(t *testing.T) {
	m := machine(t, source(t, "(dynamic-wind list vector append)"), 1000, 1000)
	m.Run(8, nil) // frame, three times global and push, global
	wantRegister(t, "ahead", m, stack, "{append {vector {list ()}}}")
	m.Run(1, nil) // call: before was called, and has returned to -1
	wantRegister(t, "-1", m, environment, "<vec list vector append>")
	wantRegister(t, "-1", m, frame, "<frame 9 () () ()>")
	wantRegister(t, "-1", m, stack, "()")
	wantRegister(t, "-1", m, winds, "()")
	wantRegister(t, "-1", m, accumulator, "()")
	m.Run(1, nil) // thunk has returned to -2
	wantRegister(t, "-2", m, winds, "{<vec list append> ()}")
	wantRegister(t, "-2", m, environment, "<vec list vector append>")
	wantRegister(t, "-2", m, accumulator, "<vec>")
	m.Run(1, nil) // after has returned to -3
	wantRegister(t, "-3", m, winds, "()")
	wantRegister(t, "-3", m, environment, "<vec>")
	wantRegister(t, "-3", m, accumulator, "()")
	wantRegister(t, "-3", m, frame, "<frame 9 () () ()>")
	m.Run(1, nil)
	wantRegister(t, "back", m, accumulator, "<vec>")
	wantRegister(t, "back", m, environment, "()")
	m.Run(1, nil)
	wantDone(t, "back", m, "#()")

	// with closures the frames can be seen
	m = machine(t, source(t, "(dynamic-wind (lambda () 1) (lambda () 2) (lambda () 3))"), 1000, 1000)
	m.Run(12, nil) // frame; three times closure, jump, push; global, call
	const three = "<vec <closure 3 0 ()> <closure 8 0 ()> <closure 13 0 ()>>"
	wantRegister(t, "in before", m, frame, "<frame -1 "+three+" () <frame 18 () () ()>>")
	wantRegister(t, "in before", m, winds, "()")
	m.Run(3, nil) // const, return; -1
	wantRegister(t, "in thunk", m, frame, "<frame -2 "+three+" () <frame 18 () () ()>>")
	wantRegister(t, "in thunk", m, winds, "{<vec <closure 3 0 ()> <closure 13 0 ()>> ()}")
	m.Run(3, nil)
	wantRegister(t, "in after", m, frame, "<frame -3 2 () <frame 18 () () ()>>")
	wantRegister(t, "in after", m, winds, "()")
	m.Run(3, nil)
	wantRegister(t, "behind", m, frame, "()")
	wantRegister(t, "behind", m, accumulator, "2")
}

// way is a machine that is about to travel: its winds, and the continuation's, are lists of these names out of one tree (a b is the list whose first is b, its rest the list of a), and it is called with 7.
func way(t *testing.T, from, to []string) *vm.Machine {
	t.Helper()
	m := machine(t, by(t, "", "", in(api.OpCall, 1)), 10000, 10000)
	h := m.Heap()
	made := map[string]api.Word{"": api.Nil}
	list := func(l []string) api.Word {
		path := ""
		for _, name := range l {
			up := made[path]
			path += name
			if _, ok := made[path]; !ok {
				// procedures that are gone through at once, and make nothing: a before answers (), an after 0
				made[path] = mk(t, h, api.KPair, mk(t, h, api.KVector, prim(t, "list"), prim(t, "+")), up)
			}
		}
		return made[path]
	}
	h.SetRoot(winds, list(from))
	k := mk(t, h, api.KCont, mk(t, h, api.KFrame, small(0), api.True, api.False, api.Nil), list(to))
	h.SetRoot(accumulator, k)
	h.SetRoot(stack, mk(t, h, api.KPair, small(7), api.Nil))
	return m
}

// depth is how many pairs a list has.
func depth(h *heap.Heap, w api.Word) int {
	n := 0
	for ; h.Kind(w) == api.KPair; n++ {
		w, _ = h.Field(w, 1)
	}
	return n
}

func TestTravelling(t *testing.T) {
	s := func(l ...string) []string { return l }
	for _, x := range []struct {
		from, to  []string
		shared    int
		steps     int
		in1, out1 int
	}{
		{s(), s(), 0, 1, 0, 0}, {s("a"), s("a"), 1, 1, 0, 0}, {s("a"), s(), 0, 2, 0, 1}, {s(), s("a"), 0, 2, 1, 0}, {s("a"), s("b"), 0, 3, 1, 1},
		{s("a", "b", "c"), s("a"), 1, 3, 0, 2}, {s("a"), s("a", "b", "c"), 1, 3, 2, 0}, {s("a", "b", "c"), s("a", "d", "e"), 1, 5, 2, 2}, {s("a", "b"), s("c", "d", "e"), 0, 6, 3, 2},
	} {
		m := way(t, x.from, x.to)
		h := m.Heap()
		what := fmt.Sprint(x.from, " to ", x.to)
		ins, outs := 0, 0
		for n := range x.steps - 1 {
			m.Run(1, nil)
			// a before or an after was called, and has returned to -4 or -5
			switch env := h.Root(environment); h.Len(env) {
			case 2:
				outs++
				if depth(h, h.Root(winds)) != len(x.from)-outs || ins > 0 || h.Root(accumulator) != small(0) {
					t.Errorf("%s, step %d: out, winds %d", what, n, depth(h, h.Root(winds)))
				}
			case 3:
				ins++
				if depth(h, h.Root(winds)) != x.shared+ins-1 || depth(h, field(t, h, env, 2)) != x.shared+ins || h.Root(accumulator) != api.Nil {
					t.Errorf("%s, step %d: in, winds %d", what, n, depth(h, h.Root(winds)))
				}
			}
			if w := field(t, h, h.Root(environment), 1); w != small(7) || h.Kind(field(t, h, h.Root(environment), 0)) != api.KCont {
				t.Errorf("%s: it carries %s", what, shown(h, h.Root(environment)))
			}
			if h.Root(frame) != api.Nil || h.Root(stack) != api.Nil {
				t.Errorf("%s: frame, stack", what)
			}
		}
		m.Run(1, nil)
		if m.State() != api.Running || ins != x.in1 || outs != x.out1 || depth(h, h.Root(winds)) != len(x.to) {
			t.Errorf("%s: %d in, %d out, %s", what, ins, outs, told(m))
		}
		wantRegister(t, what, m, accumulator, "7")
		wantRegister(t, what, m, environment, "#t")
		wantRegister(t, what, m, stack, "#f")
		wantRegister(t, what, m, frame, "()")
	}
}

// spend leaves no room in a machine's heap.
func spend(m *vm.Machine) {
	h := m.Heap()
	for h.Collect(true) == api.OK {
		w, _ := h.Make(api.KVector, make([]api.Word, 900)...)
		h.Push(w)
	}
}

// TestWithoutRoom: in and out, and at the places below 0.
func TestWithoutRoom(t *testing.T) {
	for _, l := range [][2][]string{{{"a"}, nil}, {nil, {"a"}}} {
		m := way(t, l[0], l[1])
		spend(m)
		m.Run(5, nil)
		wantFailed(t, "on a way", m, api.ErrMemory)
		wantUsed(t, "on a way", m, 1)
	}
	for _, place := range []int{-1, -2} {
		m := atFrame(t, func(h *heap.Heap) (a, b, c, d api.Word) {
			h.SetRoot(winds, mk(t, h, api.KPair, api.Nil, api.Nil))
			return small(place), mk(t, h, api.KVector, prim(t, "+"), prim(t, "+"), prim(t, "+")), api.Nil, api.Nil
		})
		spend(m)
		m.Run(5, nil)
		wantFailed(t, fmt.Sprint("the place ", place), m, api.ErrMemory)
		wantUsed(t, fmt.Sprint("the place ", place), m, 3)
	}
}

// Words by hand.

// atFrame is a machine that is about to return 5 to a frame that is made by hand.
func atFrame(t *testing.T, do func(h *heap.Heap) (place, env, rest, next api.Word)) *vm.Machine {
	t.Helper()
	m := machine(t, by(t, "5", "", in(api.OpConst, 0), in(api.OpReturn), in(api.OpHalt)), 2000, 2000)
	h := m.Heap()
	place, env, rest, next := do(h)
	h.SetRoot(frame, mk(t, h, api.KFrame, place, env, rest, next))
	m.Run(2, nil)
	return m
}

func TestFramesByHand(t *testing.T) {
	simple := func(place api.Word) *vm.Machine {
		return atFrame(t, func(h *heap.Heap) (a, b, c, d api.Word) { return place, api.True, api.False, api.Nil })
	}
	m := simple(small(2))
	wantRegister(t, "a good one", m, environment, "#t")
	wantRegister(t, "a good one", m, stack, "#f")
	m.Run(1, nil)
	wantDone(t, "a good one", m, "5")
	for _, n := range []int{3, 4, 1 << 40, 1 << 61, -6, -7, -1 << 61} {
		m := simple(small(n))
		m.Run(1, nil)
		wantFailed(t, fmt.Sprint("the place ", n), m, api.ErrCode)
	}
	for _, w := range []api.Word{api.Nil, api.False, api.Prim0} {
		wantFailed(t, "no place", simple(w), api.ErrCode)
	}
	// a place that is none of those below 0, with an environment that they have
	for n := 1; n <= 3; n++ {
		m := atFrame(t, func(h *heap.Heap) (a, b, c, d api.Word) {
			k := mk(t, h, api.KCont, api.Nil, api.Nil)
			return small(-6), mk(t, h, api.KVector, []api.Word{k, api.Nil, api.Nil}[:n]...), api.Nil, api.Nil
		})
		m.Run(1, nil)
		wantFailed(t, "the place -6", m, api.ErrCode)
	}
	// environments of places below 0
	for place, need := range map[int]int{-1: 3, -2: 3, -4: 2, -5: 3} {
		for fields := range 5 {
			m := atFrame(t, func(h *heap.Heap) (a, b, c, d api.Word) {
				return small(place), mk(t, h, api.KVector, []api.Word{prim(t, "list"), prim(t, "list"), prim(t, "list"), api.Nil}[:fields]...), api.Nil, api.Nil
			})
			m.Run(1, nil)
			if fields == need && place == -1 {
				if m.State() != api.Running {
					t.Errorf("the place %d with %d: %s", place, fields, told(m))
				}
				continue
			}
			wantFailed(t, fmt.Sprint("the place ", place, " with ", fields), m, api.ErrCode)
		}
		for _, w := range []api.Word{api.Nil, small(1), api.True, api.Prim0} {
			m := atFrame(t, func(h *heap.Heap) (a, b, c, d api.Word) { return small(place), w, api.Nil, api.Nil })
			m.Run(1, nil)
			wantFailed(t, fmt.Sprint("the place ", place, " with no vector"), m, api.ErrCode)
		}
		m := atFrame(t, func(h *heap.Heap) (a, b, c, d api.Word) {
			return small(place), mk(t, h, api.KPair, api.Nil, api.Nil), api.Nil, api.Nil
		})
		m.Run(1, nil)
		wantFailed(t, fmt.Sprint("the place ", place, " with a pair"), m, api.ErrCode)
	}
	// -3 returns whatever its environment is
	m = simple(small(-3))
	m.Run(1, nil)
	wantDone(t, "-3", m, "#t")
	// the next frame
	m = atFrame(t, func(h *heap.Heap) (a, b, c, d api.Word) { return small(1), api.Nil, api.Nil, api.True })
	m.Run(1, nil)
	wantFailed(t, "no next frame", m, api.ErrCode)
	// frames that go round end by fuel
	m = atFrame(t, func(h *heap.Heap) (a, b, c, d api.Word) { return small(1), api.Nil, api.Nil, api.Nil })
	f := mk(t, m.Heap(), api.KFrame, small(1), api.Nil, api.Nil, api.Nil)
	m.Heap().Set(f, 3, f)
	m.Heap().SetRoot(frame, f)
	m.Run(1000, nil)
	if m.State() != api.Running || m.Used() != 1002 {
		t.Errorf("round: %s", told(m))
	}
}

func TestWindsByHand(t *testing.T) {
	// -2 asks for winds that are a pair; which after it calls is its environment's
	for what, x := range map[string]struct {
		winds func(h *heap.Heap) api.Word
		why   api.Errno
	}{
		"none":        {func(h *heap.Heap) api.Word { return api.Nil }, api.ErrCode},
		"a number":    {func(h *heap.Heap) api.Word { return small(3) }, api.ErrCode},
		"a vector":    {func(h *heap.Heap) api.Word { return mk(t, h, api.KVector, api.Nil, api.Nil) }, api.ErrCode},
		"a pair":      {func(h *heap.Heap) api.Word { return mk(t, h, api.KPair, api.Nil, small(4)) }, api.OK},
		"a long pair": {func(h *heap.Heap) api.Word { return mk(t, h, api.KPair, api.True, small(4)) }, api.OK},
	} {
		m := atFrame(t, func(h *heap.Heap) (a, b, c, d api.Word) {
			h.SetRoot(winds, x.winds(h))
			return small(-2), mk(t, h, api.KVector, api.Nil, api.Nil, prim(t, "vector")), api.Nil, api.Nil
		})
		m.Run(1, nil)
		if x.why != api.OK {
			wantFailed(t, what, m, x.why)
			continue
		}
		wantRegister(t, what, m, winds, "4")
		m.Run(1, nil)
		wantDone(t, what, m, "5")
	}
	// travelling
	call := func(do func(h *heap.Heap) (its, own api.Word)) *vm.Machine {
		m := machine(t, by(t, "", "", in(api.OpCall, 1)), 2000, 2000)
		h := m.Heap()
		its, own := do(h)
		h.SetRoot(winds, own)
		h.SetRoot(accumulator, mk(t, h, api.KCont, api.Nil, its))
		h.SetRoot(stack, mk(t, h, api.KPair, small(7), api.Nil))
		m.Run(100, nil)
		return m
	}
	good := func(h *heap.Heap) api.Word { return mk(t, h, api.KVector, prim(t, "list"), prim(t, "list")) }
	round := func(h *heap.Heap) api.Word {
		p := mk(t, h, api.KPair, good(h), api.Nil)
		h.Set(p, 1, p)
		return p
	}
	for what, x := range map[string]struct {
		do  func(h *heap.Heap) (its, own api.Word)
		why api.Errno
	}{
		"out of a good one":       {func(h *heap.Heap) (a, b api.Word) { return api.Nil, mk(t, h, api.KPair, good(h), api.Nil) }, api.OK},
		"into a good one":         {func(h *heap.Heap) (a, b api.Word) { return mk(t, h, api.KPair, good(h), api.Nil), api.Nil }, api.OK},
		"winds that are a number": {func(h *heap.Heap) (a, b api.Word) { return api.Nil, small(3) }, api.ErrCode},
		"its are a number":        {func(h *heap.Heap) (a, b api.Word) { return small(3), api.Nil }, api.ErrCode},
		"no vector, out":          {func(h *heap.Heap) (a, b api.Word) { return api.Nil, mk(t, h, api.KPair, api.Nil, api.Nil) }, api.ErrCode},
		"no vector, in":           {func(h *heap.Heap) (a, b api.Word) { return mk(t, h, api.KPair, api.Nil, api.Nil), api.Nil }, api.ErrCode},
		"a vector of three, out": {func(h *heap.Heap) (a, b api.Word) {
			return api.Nil, mk(t, h, api.KPair, mk(t, h, api.KVector, api.Prim0, api.Prim0, api.Prim0), api.Nil)
		}, api.ErrCode},
		"a vector of one, in": {func(h *heap.Heap) (a, b api.Word) {
			return mk(t, h, api.KPair, mk(t, h, api.KVector, api.Prim0), api.Nil), api.Nil
		}, api.ErrCode},
		"no procedure, out": {func(h *heap.Heap) (a, b api.Word) {
			return api.Nil, mk(t, h, api.KPair, mk(t, h, api.KVector, api.Prim0, api.Nil), api.Nil)
		}, api.ErrProc},
		"no procedure, in": {func(h *heap.Heap) (a, b api.Word) {
			return mk(t, h, api.KPair, mk(t, h, api.KVector, api.Nil, api.Prim0), api.Nil), api.Nil
		}, api.ErrProc},
		"its go round":              {func(h *heap.Heap) (a, b api.Word) { return round(h), api.Nil }, api.ErrCode},
		"its go round, out first":   {func(h *heap.Heap) (a, b api.Word) { return round(h), mk(t, h, api.KPair, good(h), api.Nil) }, api.ErrCode},
		"its end in a number":       {func(h *heap.Heap) (a, b api.Word) { return mk(t, h, api.KPair, good(h), small(1)), api.Nil }, api.ErrCode},
		"its end in that number":    {func(h *heap.Heap) (a, b api.Word) { return mk(t, h, api.KPair, good(h), small(1)), small(1) }, api.OK},
		"out of one that ends so":   {func(h *heap.Heap) (a, b api.Word) { return api.Nil, mk(t, h, api.KPair, good(h), small(1)) }, api.ErrCode},
		"its are a part of a round": {func(h *heap.Heap) (a, b api.Word) { p := round(h); return mk(t, h, api.KPair, good(h), p), p }, api.OK},
	} {
		m := call(x.do)
		if x.why == api.OK {
			wantDone(t, what, m, "7")
		} else {
			wantFailed(t, what, m, x.why)
		}
	}
	// out of winds that go round: for ever, by fuel
	m := call(func(h *heap.Heap) (a, b api.Word) { return api.Nil, round(h) })
	if m.State() != api.Running && m.State() != api.Done || m.Used() > 100 {
		t.Errorf("winds that go round: %s", told(m))
	}
	// -4 and -5 want a continuation
	for place, n := range map[int]int{-4: 2, -5: 3} {
		for _, w := range []api.Word{api.Nil, api.Prim0, small(1)} {
			m := atFrame(t, func(h *heap.Heap) (a, b, c, d api.Word) {
				return small(place), mk(t, h, api.KVector, []api.Word{w, api.Nil, api.Nil}[:n]...), api.Nil, api.Nil
			})
			m.Run(1, nil)
			wantFailed(t, fmt.Sprint("the place ", place), m, api.ErrCode)
		}
		// a continuation whose frame is none
		m := atFrame(t, func(h *heap.Heap) (a, b, c, d api.Word) {
			k := mk(t, h, api.KCont, api.True, api.Nil)
			return small(place), mk(t, h, api.KVector, []api.Word{k, api.Nil, api.Nil}[:n]...), api.Nil, api.Nil
		})
		m.Run(1, nil)
		wantFailed(t, fmt.Sprint("no frame, from the place ", place), m, api.ErrCode)
	}
}
