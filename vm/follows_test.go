package vm_test

import (
	"strings"
	"testing"

	"rostrum/api"
	"rostrum/vm"
)

// Programs that do all that a machine can do.
var programs = []string{
	"(let loop ((i 0) (s '())) (if (= i 20) s (loop (+ i 1) (cons (* i i) s))))",
	"(define (f . x) (if (null? x) 0 (+ 1 (apply f (cdr x))))) (f 1 2 3 4 5)",
	notes + "(define c #f) (define n 0) (wind 0 (lambda () (wind 1 (lambda () (call/cc (lambda (k) (set! c k))) (note 'one))) (set! n (+ n 1)) (if (< n 3) (wind 2 (lambda () (wind 3 (lambda () (c 'go)))))) (note 'end))) (told)",
	"(define v (make-vector 3 \"x\")) (vector-set! v 1 (lambda (x) (vector-set! v 2 x))) ((vector-ref v 1) '(1 #(2 3))) (list (vector-ref v 0) (vector-ref v 2))",
	"(define x 1) (define (f) (error \"no\" x)) (dynamic-wind list f list)",
	notes + "(wind 1 (lambda () (note (suspend (note 'x)))))",
	"(define (count n) (if (= n 0) 0 (+ 1 (count (- n 1))))) (count 50)",
	"(root-set! 'a (list 1 (root-ref 'b))) (root-ref 'a)",
}

// P17.5
func TestCollectedAnywhere(t *testing.T) {
	for _, s := range programs {
		c := source(t, s)
		want := machine(t, c, 50000, 50000)
		want.Run(50000, newWorld())
		if want.State() == api.Running || want.Heap().Counts().Minor > 0 {
			t.Fatalf("%s: %s", s, told(want))
		}
		for each := range 4 {
			m := machine(t, c, 1000, 50000)
			w := newWorld()
			for m.Run(1, w) == api.Running {
				if each%2 == 0 || m.Used()%3 == 0 {
					if e := m.Heap().Collect(each < 2); e != api.OK {
						t.Fatal(e)
					}
				}
			}
			if told(m) != told(want) {
				t.Errorf("%s: %s, want %s", s, told(m), told(want))
			}
		}
		// in as little room as it finds enough
		enough := 0
		for young := 16; young < 200; young += 7 {
			m, e := vm.New(c, young, 2000)
			if e == api.ErrMemory {
				continue
			}
			m.Run(50000, newWorld())
			if m.Why() == api.ErrMemory {
				continue
			}
			enough++
			if told(m) != told(want) {
				t.Errorf("%s in %d: %s, want %s", s, young, told(m), told(want))
			}
		}
		if enough == 0 {
			t.Errorf("%s never finds room", s)
		}
	}
}

// P17.6
func TestBitByBit(t *testing.T) {
	for _, s := range programs {
		c := source(t, s)
		for a := 0; a < 150; a += 7 {
			for b := 0; b < 150; b += 11 {
				one, two := machine(t, c, 100, 5000), machine(t, c, 100, 5000)
				v, w := newWorld(), newWorld()
				n := one.Run(a+b, v)
				two.Run(a, w)
				two.Run(-1, w)
				if two.Run(b, w) != n || told(one) != told(two) || one.Heap().Counts() != two.Heap().Counts() {
					t.Fatalf("%s: %d and %d is %s, both together %s", s, a, b, told(two), told(one))
				}
			}
		}
	}
}

// P17.7: as if suspend had answered the datum.
func TestGoesOn(t *testing.T) {
	for _, x := range [][2]string{
		{"(+ 1 (SUSPEND 7))", "5"}, {"(list (SUSPEND 'a) (SUSPEND 'b) (SUSPEND 'c))", "(x \"y\" #(z))"},
		{"(define l (list 1 2)) (define (f x) (set! l (cons (SUSPEND x) l)) l) (let ((a (f l))) (list a (f a) l (eq? a (cdr l))))", "(1 2)"},
		{"(call/cc (lambda (k) (+ 1 (k (SUSPEND 1)))))", "#f"}, {"(if (SUSPEND 1) 'yes 'no)", "#f"}, {"(dynamic-wind (lambda () (SUSPEND 1)) (lambda () (SUSPEND 2)) (lambda () (SUSPEND 3)))", "()"},
		{"(car (SUSPEND 1))", "5"}, {"(define (loop n) (if (= n 0) '() (cons (SUSPEND n) (loop (- n 1))))) (loop 8)", "(1 . 2)"}, {"((lambda (a . b) (list b a)) (SUSPEND 1) (SUSPEND 2) 3)", "z"},
		{"(apply (lambda l l) (list (apply SUSPEND '(1)) 2))", "\"s\""}, {"(define c #f) (define n 0) (set! n (+ n (call/cc (lambda (k) (set! c k) 1)))) (SUSPEND n) (if (< n 10) (c (+ n 3)) n)", "0"},
	} {
		with := run(t, rename(x[0], "suspend"))
		times := 0
		for ; with.State() == api.Suspended && times < 50; times++ {
			with = resumed(t, with, x[1])
		}
		without := run(t, "(define (answer x) '"+x[1]+") "+rename(x[0], "answer"))
		if times == 0 || with.State() != without.State() || with.Why() != without.Why() || with.Value() != without.Value() {
			t.Errorf("%s, answered %s: %s, want %s", x[0], x[1], told(with), told(without))
		}
	}
}

func rename(s, name string) string { return strings.ReplaceAll(s, "SUSPEND", name) }
