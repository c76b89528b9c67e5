package vm_test

import (
	"fmt"
	"slices"
	"strings"
	"testing"

	"rostrum/api"
	"rostrum/datum"
	"rostrum/vm"
)

// P17.1

func TestNew(t *testing.T) {
	m := machine(t, source(t, "(x (+ 1 y) car)"), 16, 16)
	h := m.Heap()
	if h == nil || h != m.Heap() || h.Roots() != 6 {
		t.Fatal("the heap")
	}
	for _, at := range []int{accumulator, environment, stack, frame, winds} {
		if h.Root(at) != api.Nil {
			t.Errorf("the register %d is %s", at, shown(h, h.Root(at)))
		}
	}
	wantRegister(t, "at first", m, globals, "<vec #!unbound + car #!unbound>") // y, +, car, x
	if m.State() != api.Running || m.Why() != api.OK || m.Value() != "" || m.Used() != 0 {
		t.Error(told(m))
	}
}

// TestNames: the same name twice, which only a hand can write, is two globals.
func TestNames(t *testing.T) {
	m := ran(t, by(t, "5", "car car x x", in(api.OpConst, 0), in(api.OpDefine, 1), in(api.OpHalt)), 9)
	wantRegister(t, "names", m, globals, "<vec car 5 #!unbound #!unbound>")
	m = ran(t, by(t, "", "", in(api.OpHalt)), 0)
	wantRegister(t, "no names", m, globals, "<vec>")
}

func TestNewRefuses(t *testing.T) {
	good := source(t, "(list 1 2)")
	many := api.Code{Instrs: good.Instrs, Consts: good.Consts}
	for i := range 1000 {
		many.Names = append(many.Names, fmt.Sprint("x", i))
	}
	more := many
	more.Names = append(slices.Clone(many.Names), "x1000")
	for what, x := range map[string]struct {
		c          api.Code
		young, old int
		why        api.Errno
	}{
		"no code":                      {api.Code{}, 100, 100, api.ErrCode},
		"no code, and no room":         {api.Code{}, 0, 0, api.ErrCode},
		"a wrong instruction":          {api.Code{Instrs: []api.Instr{{Op: api.OpConst, A: 1}, {Op: api.OpHalt}}}, 100, 100, api.ErrCode},
		"a wrong name":                 {api.Code{Instrs: good.Instrs, Consts: good.Consts, Names: []string{"1"}}, 100, 100, api.ErrCode},
		"a wrong constant":             {api.Code{Instrs: good.Instrs, Consts: []api.Datum{{}, {}}, Names: good.Names}, 100, 100, api.ErrCode},
		"less than 16 young":           {good, 15, 16, api.ErrArg},
		"less than 16 old":             {good, 16, 15, api.ErrArg},
		"far less":                     {good, -1 << 63, 16, api.ErrArg},
		"too many young":               {good, api.MaxHeap + 1, 16, api.ErrArg},
		"too many old":                 {good, 16, 1<<63 - 1, api.ErrArg},
		"16 and 16":                    {good, 16, 16, api.OK},
		"the most":                     {good, api.MaxHeap, api.MaxHeap, api.OK},
		"globals that just go in":      {many, 1001, 16, api.OK},
		"globals that do not go in":    {many, 1000, 16, api.ErrMemory},
		"more globals than a KVector":  {more, 5000, 5000, api.ErrMemory},
		"more, and no room":            {more, 16, 16, api.ErrMemory},
		"more, and too little for any": {more, 16, 1, api.ErrArg},
	} {
		m, e := vm.New(x.c, x.young, x.old)
		if e != x.why || (m == nil) != (e != api.OK) {
			t.Errorf("%s: %v, want %v", what, e, x.why)
		}
	}
}

// P17.2

func TestExamples(t *testing.T) {
	wantRows(t, [][2]string{
		{"", "()"}, {"5", "5"}, {"(+ 1 2)", "3"}, {"\"a\\n\"", `"a\n"`}, {"'(a . b)", "(a . b)"}, {"#f", "#f"}, {"'#(1 (2))", "#(1 (2))"},
		{"(+ 1 (call/cc (lambda (k) (k 5))))", "6"}, {"(call/cc (lambda (k) (+ 1 (k 5))))", "5"}, {"(call/cc (lambda (k) 7))", "7"},
		{"(let loop ((i 0) (s 0)) (if (= i 100) s (loop (+ i 1) (+ s i))))", "4950"},
		{"(define (f n) (if (= n 0) 1 (* n (f (- n 1))))) (f 30)", "265252859812191058636308480000000"},
		{"(define (even n) (if (= n 0) #t (odd (- n 1)))) (define (odd n) (if (= n 0) #f (even (- n 1)))) (list (even 100) (odd 100))", "(#t #f)"},
		{"(define x 1)", "#!void"}, {"(define x 1) (set! x 2)", "#!void"}, {"(define x 1) (set! x 5) x", "5"}, {"(let ((x 1)) (set! x 2))", "#!void"}, {"(let ((x 1)) (set! x 2) x)", "2"},
		{"car", "#!procedure"}, {"(lambda (x) x)", "#!procedure"}, {"(call/cc (lambda (k) k))", "#!procedure"},
		{"(if #f 1 2)", "2"}, {"(if '() 1 2)", "1"}, {"(if 0 1 2)", "1"}, {"(if (car (list #f)) 1 2)", "2"}, {"(and 1 2)", "2"}, {"(or #f 3)", "3"},
		{"(define car cdr) (car '(1 2))", "(2)"}, {"(set! car cdr) (car '(1 2))", "(2)"}, {"(define (car x) 5) (car 1)", "5"},
		{"x", "*170"}, {"(set! x 1)", "*170"}, {"(define (f) (g)) (f)", "*170"}, {"(5 1)", "*171"}, {"(\"f\")", "*171"}, {"((lambda (x) x))", "*151"}, {"(car 5)", "*150"}, {"(error \"x\")", "*153"},
		{"(define x (lambda () y)) (define y 3) (x)", "3"},
		{"(define l '()) (define (note x) (set! l (cons x l)) x) (list (note 1) (note 2) ((begin (note 3) car) (list (note 4)))) l", "(3 4 2 1)"},
	})
}

// TestFuel: how much a program takes in all, by the words of the chapter.
func TestFuel(t *testing.T) {
	for _, x := range []struct {
		s    string
		used int
	}{
		{"", 1},                              // halt
		{"5", 2},                             // const, halt
		{"x", 1},                             // global, which fails
		{"(car 5)", 5},                       // frame, const, push, global, call
		{"(+ 1 2)", 8},                       // frame, two times const and push, global, call, halt
		{"(if #f 1 2)", 4},                   // const, jumpf, const, halt
		{"(if #t 1 2)", 5},                   // const, jumpf, const, jump, halt
		{"((lambda (x) x) 1)", 9},            // frame, const, push, closure, jump, call, local, return, halt
		{"(apply + '(1 2))", 8},              // frame, global, push, const, push, global, call, halt
		{"(apply apply (list + '(1)))", 14},  // frame, global, push; frame, global, push, const, push, global, call; push, global, call, halt
		{"(call/cc (lambda (k) (k 5)))", 11}, // frame, closure, jump, push, global, call; const, push, local, call; halt
		{"(suspend 7)", 5},                   // frame, const, push, global, call
		{"(list (call/cc call/cc))", 10},     // frame; frame, global, push, global, call; push, global, call; halt
		// frame, three times global and push, global, call; -1, -2, -3; halt
		{"(dynamic-wind list list list)", 13},
		// frame, global, push, closure, jump, push, global, push, global, call; -1; frame, const, push, global, call, const, return; -2, -3; halt
		{"(dynamic-wind list (lambda () (car '(1)) 5) list)", 21},
		// frame, closure, jump, push, global, call; global, push, closure, jump, push, global, push, global, call; -1; const, push, local, call; -4; halt
		{"(call/cc (lambda (k) (dynamic-wind list (lambda () (k 5)) list)))", 22},
	} {
		m := run(t, x.s)
		wantUsed(t, x.s, m, x.used)
		// never more than was given, and then not a bit less
		for fuel := range x.used + 3 {
			n := machine(t, source(t, x.s), 1000, 1000)
			n.Run(fuel, nil)
			if n.Used() != min(fuel, x.used) || (n.State() == api.Running) != (fuel < x.used) {
				t.Errorf("%s with %d: %s", x.s, fuel, told(n))
			}
		}
	}
}

func TestNoFuel(t *testing.T) {
	m := machine(t, source(t, "1"), 100, 100)
	for _, n := range []int{0, -1, -1 << 63} {
		if m.Run(n, nil) != api.Running || m.Used() != 0 || m.Value() != "" || m.Why() != api.OK {
			t.Errorf("Run(%d): %s", n, told(m))
		}
	}
	if m.Run(1, nil) != api.Running || m.Used() != 1 || m.Value() != "" {
		t.Error(told(m))
	}
	if m.Run(1<<63-1, nil) != api.Done || m.Used() != 2 {
		t.Error(told(m))
	}
	m = machine(t, source(t, "(let l () (l))"), 500, 20000)
	if m.Run(20000, nil) != api.Running || m.Used() != 20000 || m.Value() != "" {
		t.Error(told(m))
	}
}

// TestOver: nothing more comes of a machine that does not run.
func TestOver(t *testing.T) {
	for s, state := range map[string]int{"5": api.Done, "(car 1)": api.Failed, "(suspend '(1 2))": api.Suspended} {
		m := run(t, s)
		before := told(m)
		for range 3 {
			if m.Run(100, nil) != state || told(m) != before {
				t.Errorf("%s: %s, it was %s", s, told(m), before)
			}
		}
	}
}

// TestValue: of a suspended one what it told.
func TestValue(t *testing.T) {
	wantSuspended(t, "suspend", run(t, `(list 1 (suspend (list "a" 'b 3)))`), `("a" b 3)`)
	wantSuspended(t, "suspend a procedure", run(t, `(suspend car)`), "#!procedure")
	wantDone(t, "circular", run(t, "(define x (list 1)) (set-cdr! x x) x"), "("+rep("1 ", 1000)+"...)")
}

func TestNone(t *testing.T) {
	for _, m := range []*vm.Machine{nil, {}} {
		if m.Run(5, nil) != api.Failed || m.State() != api.Failed || m.Why() != api.ErrNil || m.Value() != "" || m.Used() != 0 || m.Heap() != nil {
			t.Error("a machine that no call made tells something")
		}
		if b, e := m.Save(); len(b) > 0 || e != api.ErrNil {
			t.Errorf("Save: %v", e)
		}
	}
}

// Memory

// roomy is a copy of data whose lists have room behind them with something in it.
func roomy(l []api.Datum) []api.Datum {
	c := make([]api.Datum, len(l), len(l)+2)
	for i, d := range l {
		c[i] = api.Datum{Kind: d.Kind, Text: d.Text, List: roomy(d.List), Tail: roomy(d.Tail)}
	}
	c[:len(l)+1][len(l)] = api.Datum{Kind: api.DSymbol, Text: "spare"}
	return c
}

func noted(l []api.Datum) string {
	s := "["
	for _, d := range l[:cap(l)] {
		s += fmt.Sprint(d.Kind, d.Text) + noted(d.List) + noted(d.Tail)
	}
	return s + "]"
}

func spoil(l []api.Datum) {
	for i := range l {
		spoil(l[i].List)
		spoil(l[i].Tail)
		l[i] = api.Datum{}
	}
}

func TestMemory(t *testing.T) {
	c := source(t, `(define x '(1 "two" #(three (4 . five)))) (list x 'six car)`)
	c.Consts = roomy(c.Consts)
	c.Names = append(make([]string, 0, 10), c.Names...)
	c.Names[:9][8] = "spare"
	c.Instrs = append(make([]api.Instr, 0, 50), c.Instrs...)
	c.Instrs[:50][49].Op = 77
	before := noted(c.Consts) + fmt.Sprint(c.Names[:10], c.Instrs[:50])
	m := machine(t, c, 500, 500)
	m.Run(5, nil)
	if after := noted(c.Consts) + fmt.Sprint(c.Names[:10], c.Instrs[:50]); after != before {
		t.Errorf("the code was %s, and is %s", before, after)
	}
	spoil(c.Consts)
	for i := range c.Instrs {
		c.Instrs[i] = in(api.OpHalt)
	}
	for i := range c.Names {
		c.Names[i] = "y"
	}
	m.Run(100, nil)
	wantDone(t, "spoilt", m, `((1 "two" #(three (4 . five))) six #!procedure)`)

	m = run(t, `(list '(1 2) (suspend 1) car)`)
	b := save(t, m)
	again := save(t, m)
	for i := range again[:cap(again)] {
		again[:cap(again)][i] = 0
	}
	if third := save(t, m); string(third) != string(b) {
		t.Error("Save answers memory that it keeps")
	}
	d := read(t, `(1 "two" #(three (4 . five)))`)
	d = roomy([]api.Datum{d})[0]
	given := append(make([]byte, 0, len(b)+9), b...)
	n, e := vm.Load(given, d, 500, 500)
	if e != api.OK || datum.Print(d) != `(1 "two" #(three (4 . five)))` || string(given) != string(b) || strings.Trim(string(given[len(b):cap(given)]), "\x00") != "" {
		t.Errorf("Load: %v; or it changed what it was handed", e)
	}
	spoil([]api.Datum{d})
	for i := range given {
		given[i] = 0
	}
	n.Run(100, nil)
	wantDone(t, "loaded", n, `((1 2) (1 "two" #(three (4 . five))) #!procedure)`)
}
