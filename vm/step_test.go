package vm_test

import (
	"testing"

	"rostrum/api"
)

// The instructions, one by one, in code by hand.

func TestConst(t *testing.T) {
	c := by(t, `"s" (1 (2)) #(3) x #t 1099511627777`, "", in(api.OpConst, 0), in(api.OpConst, 1), in(api.OpConst, 2), in(api.OpConst, 3), in(api.OpConst, 4), in(api.OpConst, 5), in(api.OpHalt))
	m := machine(t, c, 1000, 1000)
	for _, want := range []string{`"s"`, "{1 {{2 ()} ()}}", "<vec 3>", "x", "#t", "1099511627777"} {
		m.Run(1, nil)
		wantRegister(t, "a constant", m, accumulator, want)
	}
	// new each time
	wantDone(t, "new", run(t, `(define (f) '(1 2)) (set-car! (f) 5) (define (g) '#(1)) (vector-set! (g) 0 5) (list (f) (g) (eq? (f) (f)) (eq? (g) (g)) (eq? "a" "a") (eq? 'a 'a))`), "((1 2) #(1) #f #f #f #t)")
	wantFailed(t, "a string that no heap has", run(t, `"`+rep("x", 4001)+`"`), api.ErrArg)
	wantDone(t, "the longest", run(t, `(string-length "`+rep("x", 4000)+`")`), "4000")
	m = machine(t, by(t, `"`+rep("x", 200)+`"`, "", in(api.OpConst, 0), in(api.OpHalt)), 20, 100)
	m.Run(10, nil)
	wantFailed(t, "a string without room", m, api.ErrMemory)
}

// nested is code that calls closures within one another: the first of a, b; then of c; then of none; in which some instructions follow.
func nested(t *testing.T, l ...api.Instr) api.Code {
	t.Helper()
	return by(t, "a b c z", "", append([]api.Instr{
		in(api.OpConst, 0), in(api.OpPush), in(api.OpConst, 1), in(api.OpPush), in(api.OpClosure, 6, 4), in(api.OpCall, 2),
		in(api.OpConst, 2), in(api.OpPush), in(api.OpClosure, 10, 2), in(api.OpCall, 1),
		in(api.OpClosure, 12, 0), in(api.OpCall, 0),
	}, l...)...)
}

func TestLocal(t *testing.T) {
	for _, x := range []struct {
		a, b int
		want string
	}{{1, 0, "c"}, {2, 0, "a"}, {2, 1, "b"}} {
		m := ran(t, nested(t, in(api.OpLocal, x.a, x.b), in(api.OpHalt)), 99)
		wantDone(t, "a local", m, x.want)
	}
	for _, x := range [][2]int{{0, 0}, {0, 1}, {0, 16}, {1, 1}, {1, 16}, {2, 2}, {2, 16}, {3, 0}, {4, 0}, {100, 0}, {100, 16}} {
		for _, op := range []int{api.OpLocal, api.OpSet} {
			m := ran(t, nested(t, in(op, x[0], x[1]), in(api.OpHalt)), 99)
			wantFailed(t, "no local", m, api.ErrCode)
			wantUsed(t, "no local", m, 13)
			m = ran(t, by(t, "", "", in(op, x[0], x[1]), in(api.OpHalt)), 99)
			wantFailed(t, "no environment", m, api.ErrCode)
		}
	}
}

func TestSet(t *testing.T) {
	for _, x := range []struct {
		a, b int
		want string
	}{
		{1, 0, "<vec <vec <vec () a b> z>>"}, {2, 0, "<vec <vec <vec () z b> c>>"}, {2, 1, "<vec <vec <vec () a z> c>>"},
	} {
		m := ran(t, nested(t, in(api.OpConst, 3), in(api.OpSet, x.a, x.b), in(api.OpHalt)), 14)
		wantRegister(t, "set", m, environment, x.want)
		wantRegister(t, "set", m, accumulator, "#!void")
		m.Run(1, nil)
		wantDone(t, "set", m, "#!void")
	}
}

func TestGlobal(t *testing.T) {
	c := by(t, "5", "x car", in(api.OpGlobal, 1), in(api.OpDefine, 0), in(api.OpGlobal, 0), in(api.OpConst, 0), in(api.OpSetG, 1), in(api.OpGlobal, 1), in(api.OpHalt))
	m := machine(t, c, 100, 100)
	for _, want := range [][2]string{
		{"car", "<vec #!unbound car>"}, {"#!void", "<vec car car>"}, {"car", "<vec car car>"}, {"5", "<vec car car>"}, {"#!void", "<vec car 5>"}, {"5", "<vec car 5>"},
	} {
		m.Run(1, nil)
		wantRegister(t, "globals", m, accumulator, want[0])
		wantRegister(t, "globals", m, globals, want[1])
	}
	m.Run(1, nil)
	wantDone(t, "globals", m, "5")
	for _, op := range []int{api.OpGlobal, api.OpSetG} {
		m := ran(t, by(t, "5", "x", in(api.OpConst, 0), in(op, 0), in(api.OpHalt)), 99)
		wantFailed(t, "unbound", m, api.ErrUnbound)
		wantUsed(t, "unbound", m, 2)
		wantRegister(t, "unbound", m, globals, "<vec #!unbound>")
	}
}

func TestJump(t *testing.T) {
	c := by(t, "#f #t 1 2", "", in(api.OpConst, 0), in(api.OpJumpF, 4), in(api.OpConst, 2), in(api.OpHalt), in(api.OpConst, 1), in(api.OpJumpF, 2), in(api.OpJump, 8), in(api.OpConst, 2), in(api.OpConst, 3), in(api.OpHalt))
	m := ran(t, c, 99)
	wantDone(t, "jumps", m, "2")
	wantUsed(t, "jumps", m, 7)
	// all but False is true
	for _, s := range []string{"#t", "0", "()", `""`, "x", "(1)", "#()"} {
		wantDone(t, s, ran(t, by(t, s+" 1 2", "", in(api.OpConst, 0), in(api.OpJumpF, 4), in(api.OpConst, 1), in(api.OpHalt), in(api.OpConst, 2), in(api.OpHalt)), 99), "1")
	}
	wantDone(t, "a jump does not turn the accumulator", ran(t, by(t, "#f", "", in(api.OpConst, 0), in(api.OpJumpF, 2), in(api.OpHalt)), 99), "#f")
	m = ran(t, by(t, "", "", in(api.OpJump, 0)), 500)
	if m.State() != api.Running || m.Used() != 500 {
		t.Error(told(m))
	}
}

func TestClosure(t *testing.T) {
	m := ran(t, nested(t, in(api.OpClosure, 3, 33), in(api.OpHalt)), 13)
	wantRegister(t, "a closure", m, accumulator, "<closure 3 33 <vec <vec <vec () a b> c>>>")
}

func TestFrame(t *testing.T) {
	c := by(t, "1 2", "", in(api.OpConst, 0), in(api.OpPush), in(api.OpFrame, 7), in(api.OpConst, 1), in(api.OpPush), in(api.OpPush), in(api.OpFrame, 0), in(api.OpReturn), in(api.OpHalt))
	m := machine(t, c, 100, 100)
	m.Run(2, nil)
	wantRegister(t, "pushed", m, stack, "{1 ()}")
	m.Run(1, nil)
	wantRegister(t, "a frame", m, frame, "<frame 7 () {1 ()} ()>")
	wantRegister(t, "a frame", m, stack, "()")
	wantRegister(t, "a frame", m, accumulator, "1")
	m.Run(3, nil)
	wantRegister(t, "pushed", m, stack, "{2 {2 ()}}")
	wantRegister(t, "pushed", m, accumulator, "2")
	m.Run(1, nil)
	wantRegister(t, "another frame", m, frame, "<frame 0 () {2 {2 ()}} <frame 7 () {1 ()} ()>>")
	m.Run(1, nil) // returns to the place 0
	wantRegister(t, "returned", m, frame, "<frame 7 () {1 ()} ()>")
	wantRegister(t, "returned", m, stack, "{2 {2 ()}}")
	wantRegister(t, "returned", m, accumulator, "2")
	m.Run(1, nil)
	wantRegister(t, "at the place 0", m, accumulator, "1")
	// the environment is the frame's again
	m = ran(t, nested(t, in(api.OpFrame, 16), in(api.OpConst, 0), in(api.OpClosure, 15, 0), in(api.OpReturn), in(api.OpCall, 0)), 16)
	wantRegister(t, "returned", m, environment, "<vec <vec <vec () a b> c>>")
	wantRegister(t, "returned", m, accumulator, "<closure 15 0 <vec <vec <vec () a b> c>>>")
	wantRegister(t, "returned", m, frame, "()")
}

func TestReturn(t *testing.T) {
	m := ran(t, by(t, "5 6", "", in(api.OpConst, 0), in(api.OpReturn), in(api.OpConst, 1), in(api.OpHalt)), 99)
	wantDone(t, "without a frame", m, "5")
	wantUsed(t, "without a frame", m, 2)
	// a halt is done, whatever frames there are
	m = ran(t, by(t, "5", "", in(api.OpFrame, 0), in(api.OpFrame, 0), in(api.OpConst, 0), in(api.OpHalt)), 99)
	wantDone(t, "with frames", m, "5")
	wantUsed(t, "with frames", m, 4)
}

func TestCallTakesTheLast(t *testing.T) {
	pushes := []api.Instr{in(api.OpConst, 0), in(api.OpPush), in(api.OpConst, 1), in(api.OpPush), in(api.OpConst, 2), in(api.OpPush), in(api.OpGlobal, 0)}
	for count, want := range []string{"()", "(3)", "(2 3)", "(1 2 3)"} {
		m := ran(t, by(t, "1 2 3", "list", append(pushes, in(api.OpCall, count))...), 99)
		wantDone(t, "a call", m, want)
		wantRegister(t, "a call", m, stack, "()")
	}
	for _, count := range []int{4, 5, 255} {
		m := ran(t, by(t, "1 2 3", "list", append(pushes, in(api.OpCall, count))...), 99)
		wantFailed(t, "a call of more than there are", m, api.ErrCode)
		wantUsed(t, "a call of more than there are", m, 8)
	}
	// that there are fewer is told ahead of what is called
	wantFailed(t, "no procedure", ran(t, by(t, "5", "", in(api.OpConst, 0), in(api.OpCall, 1)), 99), api.ErrCode)
	// what is called stays in the accumulator; the stack is empty, the environment new
	m := ran(t, by(t, "1 2", "", in(api.OpConst, 0), in(api.OpPush), in(api.OpConst, 1), in(api.OpPush), in(api.OpClosure, 6, 2), in(api.OpCall, 1), in(api.OpHalt)), 6)
	wantRegister(t, "called", m, accumulator, "<closure 6 2 ()>")
	wantRegister(t, "called", m, stack, "()")
	wantRegister(t, "called", m, environment, "<vec () 2>")
}

// TestRootsByHand: whoever has the heap may do with it what he likes; a machine does not break by it.
func TestRootsByHand(t *testing.T) {
	for n := 1; n <= 6; n++ {
		m := machine(t, source(t, "(define (f . x) (apply list x)) (dynamic-wind list (lambda () (f 1 2)) list)"), 100, 1000)
		m.Run(3, nil)
		m.Heap().Pop(n)
		m.Run(100, nil)
		if m.State() != api.Failed || m.Why() != api.ErrArg && m.Why() != api.ErrCode {
			t.Errorf("%d roots were taken: %s", n, told(m))
		}
	}
	m := machine(t, source(t, "5"), 100, 1000)
	m.Heap().Pop(6)
	m.Run(100, nil)
	wantFailed(t, "no registers", m, api.ErrArg)
	m = machine(t, source(t, "(list 1 2)"), 100, 1000)
	m.Heap().SetRoot(globals, small(3))
	m.Run(100, nil)
	wantFailed(t, "globals that are none", m, api.ErrCode)
	m = machine(t, source(t, "(define x 5) x"), 100, 1000)
	w, _ := m.Heap().Make(api.KVector)
	m.Heap().SetRoot(globals, w)
	m.Run(100, nil)
	wantFailed(t, "globals that are too few", m, api.ErrCode)
	// no room for further roots
	for _, s := range []string{"(list 1 2)", "((lambda x x) 1)", "(call/cc (lambda (k) 1))"} {
		m = machine(t, source(t, s), 100, 1000)
		for m.Heap().Push(api.Nil) == api.OK {
		}
		m.Run(100, nil)
		wantFailed(t, s, m, api.ErrFull)
		if m.Heap().Roots() != 10000 {
			t.Errorf("%s: %d roots", s, m.Heap().Roots())
		}
	}
	// further roots are left as they are
	m = machine(t, source(t, "((lambda x (dynamic-wind list (lambda () (apply list x)) list)) 1 2)"), 40, 1000)
	m.Heap().Push(small(77))
	m.Run(100, nil)
	wantDone(t, "a further root", m, "(1 2)")
	if m.Heap().Roots() != 7 || m.Heap().Root(6) != small(77) {
		t.Error("a further root is gone")
	}
}

// TestRoots: no call leaves further roots behind, whatever came of it.
func TestRoots(t *testing.T) {
	for _, s := range []string{
		"(list 1 2)", "(car 5)", "((lambda x x) 1 2 3)", "((lambda (x) x))", "(call/cc (lambda (k) (k 1)))", "(call/cc 5)", "(apply + '(1 2))", "(apply car '(1 2))",
		"(dynamic-wind list list list)", "(dynamic-wind 1 2 3)", "(suspend 1)", "(root-ref 'x)", "(root-set! 'x 1)", "(define (f . l) (apply f 1 l)) (f)", "(define (f . l) (f f l)) (f)", "(vector-ref (vector) 0)",
	} {
		for _, young := range []int{16, 20, 50, 1000} {
			m := machine(t, source(t, s), young, 1000)
			for m.Run(1, nil) == api.Running && m.Used() < 1000 && m.Heap().Roots() == 6 {
			}
			if m.Heap().Roots() != 6 {
				t.Errorf("%s: %d roots behind %d steps", s, m.Heap().Roots(), m.Used())
			}
		}
	}
}

// TestCells: each instruction makes just those objects that the chapter tells.
func TestCells(t *testing.T) {
	for _, x := range []struct {
		s     string
		cells int
	}{
		{"5", 0},
		{"(list)", 5},                 // frame
		{"(list 1 2)", 5 + 2*3 + 2*3}, // frame, two pushed, two of the list
		{"((lambda (a b) a) 1 2)", 5 + 2*3 + 4 + 4},           // frame, pushed, closure, environment
		{"((lambda (a . b) a) 1 2 3)", 5 + 3*3 + 4 + 4 + 2*3}, // and two of the rest
		{"((lambda a 1))", 5 + 4 + 3},
		{"(apply list '(1 2))", 5 + 2*3 + 2*3 + 2*3},                           // frame, pushed, the constant, the list
		{"(call/cc procedure?)", 5 + 3 + 3},                                    // frame, pushed, continuation
		{"(dynamic-wind list list list)", 5 + 3*3 + (4 + 5) + (3 + 3 + 5) + 5}, // frame, pushed; vector of three, frame -1; wind, pair, frame -2; frame -3
		{"(call/cc (lambda (k) (k 1)))", 5 + 4 + 3 + 3 + 3 + 3},                // frame, closure, pushed, continuation, environment, pushed
	} {
		m := machine(t, source(t, x.s), 10000, 10000)
		before := m.Heap().Counts().Young
		m.Run(1000, nil)
		if c := m.Heap().Counts(); m.State() != api.Done || c.Young-before != x.cells || c.Minor+c.Major > 0 {
			t.Errorf("%s: %d cells, want %d (%s)", x.s, c.Young-before, x.cells, told(m))
		}
	}
}
