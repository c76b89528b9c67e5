package vm_test

import (
	"fmt"
	"strings"
	"testing"

	"rostrum/api"
	"rostrum/vm"
)

func TestCallOfClosures(t *testing.T) {
	wantRows(t, [][2]string{
		{"((lambda () 5))", "5"}, {"((lambda () 5) 1)", "*151"},
		{"((lambda (a) a) 1)", "1"}, {"((lambda (a) a))", "*151"}, {"((lambda (a) a) 1 2)", "*151"},
		{"((lambda a a))", "()"}, {"((lambda a a) 1 2)", "(1 2)"},
		{"((lambda (a . b) (list a b)) 1)", "(1 ())"}, {"((lambda (a . b) (list a b)) 1 2 3)", "(1 (2 3))"}, {"((lambda (a . b) a))", "*151"},
		{"((lambda (a b c . d) (list d c b a)) 1 2 3)", "(() 3 2 1)"}, {"((lambda (a b c . d) (list d c b a)) 1 2)", "*151"},
		{"((lambda (a b c d e f g h i j k l m n o p) (list p a)) 1 2 3 4 5 6 7 8 9 10 11 12 13 14 15 16)", "(16 1)"},
		{"((lambda (a b c d e f g h i j k l m n o . p) (list p o a)) 1 2 3 4 5 6 7 8 9 10 11 12 13 14 15 16 17)", "((16 17) 15 1)"},
		{"((lambda a (length a))" + rep(" 1", 255) + ")", "255"},
		{"(define (f x) (lambda (y) (set! x (+ x y)) x)) (define g (f 10)) (define h (f 100)) (g 1) (h 1) (list (g 2) (h 2))", "(13 103)"},
		// the rest is new each time
		{"(define l '(1 2 3)) (define (f . x) x) (define m (apply f l)) (set-car! m 9) (list l m)", "((1 2 3) (9 2 3))"},
		{"('x 1 2)", "*171"}, {"(#t)", "*171"}, {"('())", "*171"}, {"('(1))", "*171"}, {"('#(1) 0)", "*171"}, {"(1099511627777)", "*171"}, {"((set-car! (list 1) 2))", "*171"},
	})
}

// TestCallOfWords: words that are no procedures, though they are constants like primitives.
func TestCallOfWords(t *testing.T) {
	for _, w := range []api.Word{api.Nil, api.False, api.True, api.Void, api.Unbound, api.Prim0 - 2*47, api.Prim0 - 2*48, -1 << 21, 1, -1, 7, 1<<62 + 1} {
		c := by(t, "", "", in(api.OpCall, 0))
		m := machine(t, c, 100, 100)
		m.Heap().SetRoot(accumulator, w)
		m.Run(5, nil)
		wantFailed(t, fmt.Sprint("the word ", w), m, api.ErrProc)
	}
	m := machine(t, by(t, "", "", in(api.OpCall, 0)), 100, 100)
	f, _ := m.Heap().Make(api.KFrame, 1, api.Nil, api.Nil, api.Nil)
	m.Heap().SetRoot(accumulator, f)
	m.Run(5, nil)
	wantFailed(t, "a frame", m, api.ErrProc)
}

// TestEntryAtFirst: the place 0 is one like others.
func TestEntryAtFirst(t *testing.T) {
	m := ran(t, by(t, "", "", in(api.OpClosure, 0, 0), in(api.OpCall, 0)), 500)
	if m.State() != api.Running || m.Used() != 500 {
		t.Error(told(m))
	}
}

// TestClosuresByHand: what is no closure as the machine makes them.
func TestClosuresByHand(t *testing.T) {
	const place = 2
	for what, x := range map[string]struct {
		entry, form api.Word
		args        int
		why         api.Errno // OK: done
	}{
		"a good one":             {small(place), small(2), 1, api.OK},
		"the last place":         {small(3), small(2), 1, api.OK},
		"many parameters":        {small(place), small(40), 20, api.OK},
		"255 parameters":         {small(place), small(510), 255, api.OK},
		"more than there may be": {small(place), small(512), 255, api.ErrCount},
		"far more":               {small(place), small(1 << 60), 3, api.ErrCount},
		"an entry behind":        {small(4), small(2), 1, api.ErrCode},
		"an entry far behind":    {small(1 << 60), small(2), 1, api.ErrCode},
		"an entry ahead":         {small(-1), small(2), 1, api.ErrCode},
		"an entry of a frame's":  {small(-3), small(0), 0, api.ErrCode},
		"no entry":               {api.Nil, small(2), 1, api.ErrCode},
		"no entry, a count":      {api.True, small(2), 0, api.ErrCode},
		"no parameters":          {small(place), api.Nil, 0, api.ErrCode},
		"parameters below 0":     {small(place), small(-2), 0, api.ErrCode},
		"a rest below 0":         {small(place), small(-1), 0, api.ErrCode},
		"too few":                {small(place), small(4), 1, api.ErrCount},
		"too few, no entry":      {small(99), small(4), 1, api.ErrCount},
	} {
		c := by(t, "", "", in(api.OpCall, x.args), in(api.OpHalt), in(api.OpReturn), in(api.OpHalt))
		m := machine(t, c, 2000, 2000)
		h := m.Heap()
		w, _ := h.Make(api.KClosure, x.entry, x.form, api.Nil)
		h.SetRoot(accumulator, w)
		for range x.args {
			p, _ := h.Make(api.KPair, small(5), h.Root(stack))
			h.SetRoot(stack, p)
		}
		m.Run(5, nil)
		if x.why == api.OK {
			wantDone(t, what, m, "#!procedure")
		} else {
			wantFailed(t, what, m, x.why)
			wantUsed(t, what, m, 1)
		}
	}
}

func TestApply(t *testing.T) {
	n := func(k int) string {
		return "(define (n k l) (if (= k 0) l (n (- k 1) (cons 1 l)))) (define l (n " + fmt.Sprint(k) + " '())) "
	}
	wantRows(t, [][2]string{
		{"(apply + '(1 2 3))", "6"}, {"(apply list '())", "()"}, {"(apply (lambda (a . b) (list b a)) '(1 2 3))", "((2 3) 1)"}, {"(apply (lambda (a) a) '(1 2))", "*151"},
		{"(apply)", "*151"}, {"(apply +)", "*151"}, {"(apply + 1 '(2))", "*151"}, {"(apply + 1)", "*150"}, {"(apply + '(1 . 2))", "*150"}, {"(apply + '#(1 2))", "*150"},
		{"(apply 5 '(1))", "*171"}, {"(apply 5 1)", "*150"}, {"(apply 5)", "*151"}, {"(apply car '(5))", "*150"}, {"(apply car '(1 2))", "*151"},
		{n(255) + "(apply + l)", "255"}, {n(256) + "(apply + l)", "*151"}, {n(255) + "(apply (lambda l (length l)) l)", "255"}, {n(100) + "(define l (append" + rep(" l", 100) + ")) (apply + l)", "*151"}, {n(256) + "(apply 5 l)", "*151"},
		{n(100) + "(define l (cons 1 (append" + rep(" l", 100) + "))) (apply + l)", "*150"}, {"(define l (list 1)) (set-cdr! l l) (apply + l)", "*150"},
		{"(apply apply (list + '(1 2)))", "3"}, {"(apply apply (list apply (list apply (list list '(1 2)))))", "(1 2)"}, {"(apply apply '())", "*151"}, {"(apply apply (list + 5))", "*150"}, {"(apply apply (list apply '()))", "*151"},
		{"(+ 1 (apply call/cc (list (lambda (k) (k 5)))))", "6"}, {"(call/cc (lambda (k) (apply k '(5))))", "5"}, {"(call/cc (lambda (k) (apply k '(5 6))))", "*151"},
		{"(call/cc apply)", "*151"}, {"(apply dynamic-wind (list list (lambda () 7) list))", "7"}, {"(dynamic-wind apply list list)", "*151"},
		{"(define (f x y) (if (= x 0) y (apply f (list (- x 1) (+ y 2))))) (f 1000 0)", "2000"},
	})
	m := run(t, "(+ 1 (apply suspend '(5)))")
	wantSuspended(t, "apply suspend", m, "5")
	wantDone(t, "apply suspend", resumed(t, m, "8"), "9")
}

// TestEndlessApply: apply of itself, round and round, gets nowhere; but each call ends, and fuel is taken.
func TestEndlessApply(t *testing.T) {
	round := func(n int) string { // a list of apply and a list .. the last of which is the first one
		return "(define last (list apply 0)) (define (n k l) (if (= k 0) l (n (- k 1) (list apply l)))) (define l (n " + fmt.Sprint(n) + " last)) (set-car! (cdr last) l) "
	}
	for what, s := range map[string]string{
		"one":              round(0) + "(apply apply l)",
		"two":              round(1) + "(apply apply l)",
		"three":            round(2) + "(apply apply l)",
		"many":             round(300) + "(apply apply l)",
		"behind others":    round(6) + "(apply apply (list apply (list apply (list apply l))))",
		"in tail place":    round(2) + "((lambda () (apply apply l)))",
		"in another frame": round(2) + "(list 1 2 (apply apply l))",
	} {
		c := source(t, s)
		m := machine(t, c, 5000, 50000)
		m.Run(20000, nil)
		if m.State() != api.Running || m.Used() != 20000 {
			t.Errorf("%s: %s", what, told(m))
		}
		m.Heap().Collect(true)
		m.Run(500, nil)
		if m.State() != api.Running || m.Used() != 20500 || m.Heap().Roots() != 6 {
			t.Errorf("%s: %s", what, told(m))
		}
	}
	// not round, though the same list stands in it twice
	wantDone(t, "twice", run(t, "(define l (list + '(1 2))) (apply apply (list apply (list apply (list apply l))))"), "3")
	wantFailed(t, "round, but not just two", run(t, "(define l (list apply 0 0)) (set-car! (cdr l) l) (apply apply l)"), api.ErrCount)
	wantFailed(t, "round, but its list is none", run(t, "(define l (list apply 0)) (set-cdr! (cdr l) l) (apply apply l)"), api.ErrType)
}

// TestLongApply: a chain that ends, however long.
func TestLongApply(t *testing.T) {
	m := machine(t, source(t, "(define (n k l) (if (= k 0) l (n (- k 1) (list apply l)))) (define l (n 20000 (list + '(1 2)))) (apply apply l)"), 10000, 500000)
	m.Run(10000000, nil)
	wantDone(t, "a chain", m, "3")
}

func TestCallCC(t *testing.T) {
	wantRows(t, [][2]string{
		{"(call/cc)", "*151"}, {"(call/cc 1 2)", "*151"}, {"(call/cc 5)", "*171"}, {"(call/cc (lambda () 5))", "*151"}, {"(call/cc call/cc 1)", "*151"},
		{"(call/cc (lambda (k) (k)))", "*151"}, {"(call/cc (lambda (k) (k 1 2)))", "*151"},
		{"(procedure? (call/cc call/cc))", "#t"}, {"(call/cc procedure?)", "#t"},
		{"(+ 1 (* 2 (call/cc (lambda (k) (+ 100 (k 3))))))", "7"},
		// again and again
		{"(define k 0) (define n 0) (define r (list (call/cc (lambda (c) (set! k c) 1)))) (set! n (+ n 1)) (if (< n 5) (k (* n 10)) (list n r))", "(5 (40))"},
		// what was pushed when it was made is as it was, each time
		{"(define k 0) (define n 0) (define r (list 1 2 (call/cc (lambda (c) (set! k c) 3)) 4)) (set! n (+ n 1)) (if (< n 3) (k n) r)", "(1 2 2 4)"},
		// a generator
		{"(define (walk l f) (if (null? l) 'end (begin (f (car l)) (walk (cdr l) f)))) (define back 0) (define more 0) (define (next) (call/cc (lambda (b) (set! back b) (if (eq? more 0) (begin (walk '(1 2 3) (lambda (x) (call/cc (lambda (m) (set! more m) (back x))))) (back 'end)) (more 0))))) (define a (next)) (define b (next)) (define c (next)) (define d (next)) (list a b c d)", "(1 2 3 end)"},
	})
	m := machine(t, source(t, "(list 1 (call/cc (lambda (k) k)))"), 1000, 1000)
	m.Run(9, nil) // frame, const, push, frame, closure, jump, push, global, call
	wantRegister(t, "call/cc", m, environment, "<vec () <cont <frame 11 () {1 ()} <frame 14 () () ()>> ()>>")
	wantRegister(t, "call/cc", m, frame, "<frame 11 () {1 ()} <frame 14 () () ()>>")
}

func TestPrimitives(t *testing.T) {
	wantRows(t, [][2]string{
		{"(suspend)", "*151"}, {"(suspend 1 2)", "*151"}, {"(dynamic-wind)", "*151"}, {"(dynamic-wind list list)", "*151"}, {"(dynamic-wind list list list list)", "*151"},
		{"(root-ref)", "*151"}, {"(root-ref 'a 'b)", "*151"}, {"(root-set! 'a)", "*151"}, {"(root-set! 'a 1 2)", "*151"}, {"(root-set!)", "*151"},
		{"(car '())", "*150"}, {"(+ 1 'x)", "*150"}, {"(quotient 1 0)", "*92"}, {"(vector-ref (vector 1) 1)", "*152"}, {"(error \"a\" 1)", "*153"}, {"(* " + rep("9", 200) + " 10)", "*91"}, {"(string->symbol \"(\")", "*150"},
		{"(string-append \"" + rep("a", 4000) + "\" \"b\")", "*4"},
		{"(vector" + rep(" 1", 255) + ")", "#(" + strings.TrimPrefix(rep(" 1", 255), " ") + ")"},
	})
}

// TestHeapFails: an error of the heap fails the machine, wherever it comes.
func TestHeapFails(t *testing.T) {
	for _, s := range []string{
		"(define (f l) (f (cons l l))) (f 1)", "(define (f) (+ 1 (f))) (f)", "(define (f l) (f (lambda () l))) (f 1)", "(define (f . l) (apply f (cons 1 l))) (f)",
		"(define (f k) (call/cc (lambda (c) (f (cons c k))))) (f 1)", "(define (f) (dynamic-wind list f list)) (f)", "(define (f l) (f (vector l))) (f 1)",
	} {
		for _, r := range [][2]int{{16, 16}, {50, 100}, {100, 50}, {100, 300}} {
			m := machine(t, source(t, s), r[0], r[1])
			m.Run(100000, nil)
			wantFailed(t, s, m, api.ErrMemory)
			if e := m.Heap().Collect(true); e != api.ErrMemory && e != api.OK {
				t.Errorf("%s: %v", s, e)
			}
		}
	}
	// at each place where something is made
	for _, s := range programs {
		c := source(t, s)
		want := machine(t, c, 50000, 50000)
		want.Run(50000, newWorld())
		failed := 0
		for old := 16; old < 200; old++ {
			for _, young := range []int{20, 33, 60} {
				m, e := vm.New(c, young, old)
				if e == api.ErrMemory {
					continue
				}
				m.Run(50000, newWorld())
				if m.Why() == api.ErrMemory {
					failed++
					wantFailed(t, s, m, api.ErrMemory)
				} else if told(m) != told(want) {
					t.Fatalf("%s in %d and %d: %s, want %s", s, young, old, told(m), told(want))
				}
			}
		}
		if failed == 0 {
			t.Errorf("%s always finds room", s)
		}
	}
	m := machine(t, source(t, "(make-vector 100 1)"), 50, 1000)
	m.Run(100, nil)
	wantFailed(t, "an object without room", m, api.ErrMemory)
}
