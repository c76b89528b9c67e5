package audit_test

import (
	"fmt"
	"strings"
	"testing"

	"rostrum/api"
	"rostrum/audit"
	"rostrum/code"
	"rostrum/desk"
	"rostrum/vm"
)

// P3 and P4 of the document.

// meaning is what a program comes to, known without any machine.
type meaning struct {
	text, shown string
	why         api.Errno
}

func meanings() []meaning {
	return []meaning{
		{"(define (fact n) (if (= n 0) 1 (* n (fact (- n 1))))) (fact 30)", "265252859812191058636308480000000", 0},
		{"(define (fib n) (if (< n 2) n (+ (fib (- n 1)) (fib (- n 2))))) (fib 11)", "89", 0},
		{"(let loop ((i 0) (l '())) (if (= i 40) (length l) (loop (+ i 1) (cons (make-vector 20 i) l))))", "40", 0},
		{"(let loop ((i 0) (s \"\")) (if (= i 60) (string-length s) (loop (+ i 1) (string-append s \"abcdefghij\"))))", "600", 0},
		{"(define (make n) (lambda (x) (set! n (+ n x)) n)) (define a (make 10)) (define b (make 100)) (a 1) (b 1) (list (a 2) (b 2))", "(13 103)", 0},
		{"(define l (list 1 2 3)) (set-cdr! (cdr (cdr l)) '(4)) (set-car! l 'x) (append l (reverse l))", "(x 2 3 4 4 3 2 x)", 0},
		{"(define v (make-vector 3 '(a))) (vector-set! v 1 v) (vector-ref (vector-ref v 1) 2)", "(a)", 0},
		{"(apply + (list 1 2 3))", "6", 0},
		{"((lambda (a . l) (list a l)) 1 2 3)", "(1 (2 3))", 0},
		{"(define k #f) (define n 0) (define r (+ 100 (call/cc (lambda (c) (set! k c) 1)))) (set! n (+ n 1)) (if (< n 4) (k n) (list n r))", "(4 103)", 0},
		{"(define l '()) (define (note x) (set! l (cons x l))) (dynamic-wind (lambda () (note 'in)) (lambda () (note 'on)) (lambda () (note 'out))) l", "(out on in)", 0},
		{"(define l '()) (define (note x) (set! l (cons x l))) (call/cc (lambda (k) (dynamic-wind (lambda () (note 1)) (lambda () (k 0)) (lambda () (note 2))))) l", "(2 1)", 0},
		{"(define-syntax swap (syntax-rules () ((_ a b) (let ((t a)) (set! a b) (set! b t))))) (define x 1) (define y 2) (swap x y) (list x y)", "(2 1)", 0},
		{"(define-syntax twice (syntax-rules () ((_ a ...) (list (cons a a) ...)))) (twice 1 2)", "((1 . 1) (2 . 2))", 0},
		{"(letrec ((even (lambda (n) (if (= n 0) #t (odd (- n 1))))) (odd (lambda (n) (if (= n 0) #f (even (- n 1)))))) (even 101))", "#f", 0},
		{"(cond ((= 1 2) 'a) ((and 1 (or #f 'b)) 'd) (else 'c))", "d", 0},
		{"(let* ((x 1) (y (+ x 1))) (when (< x y) (unless #f (list x y))))", "(1 2)", 0},
		{"(list (quotient -7 2) (remainder -7 2) (- 5) (* 99999999999 99999999999))", "(-3 -1 -5 9999999999800000000001)", 0},
		{"(list (eq? 'a 'a) (eq? \"a\" \"a\") (equal? '(1 #(2 \"b\")) '(1 #(2 \"b\"))) (string->number \"12x\"))", "(#t #f #t #f)", 0},
		{"(list (number->string 12) (symbol->string 'ab) (string->symbol \"cd\"))", "(\"12\" \"ab\" cd)", 0},
		{"(list car (lambda () 1) (if #f #f))", "(#!procedure #!procedure ())", 0},
		{"(define l (list 1)) (set-cdr! l l) (car (cdr (cdr l)))", "1", 0},
		{"(define x 5) (set! x 6)", "#!void", 0},
		{"(define (f x) (car x)) (f 5)", "", api.ErrType},
		{"(vector-ref (vector 1 2) 2)", "", api.ErrIndex},
		{"(error \"no\" 1)", "", api.ErrUser},
		{"(quotient 5 0)", "", api.ErrZero},
		{"(set! nobody 1)", "", api.ErrUnbound},
		{"(\"a\" 1)", "", api.ErrProc},
		{"((lambda (x) x))", "", api.ErrCount},
	}
}

func (x meaning) reply(id string) api.Reply {
	if x.why != api.OK {
		return failedWith(id, x.why)
	}
	return doneWith(id, x.shown)
}

// told is its reply as the desk tells it; of the bytes of these texts it writes none otherwise.
func (x meaning) told(id string) string {
	if x.why != api.OK {
		return fmt.Sprintf("reply %s failed %d", id, int(x.why))
	}
	return fmt.Sprintf("reply %s done %s", id, x.shown)
}

func TestTheModelMeansTheSource(t *testing.T) {
	m := audit.New()
	for _, x := range meanings() {
		wantReply(t, m, running("q", x.text), x.reply("q"))
	}
}

// TestTheMachineMeansTheSource: with heaps of any size, wherever they are collected.
func TestTheMachineMeansTheSource(t *testing.T) {
	for _, x := range meanings() {
		c, err := code.Source(x.text)
		if err != nil {
			t.Fatal(err)
		}
		for _, size := range [][2]int{{700, 1500}, {1000, 5000}, {4000, 40000}, {api.MaxHeap, api.MaxHeap}} {
			for _, fuel := range []int{1, 7, 1 << 30} {
				m, e := vm.New(c, size[0], size[1])
				want(t, "vm.New", e, api.OK)
				for i := 0; m.Run(fuel, nil) == api.Running; i++ {
					if fuel > 1 || i%10 == 0 {
						want(t, "Collect", m.Heap().Collect(i%3 > 0), api.OK)
					}
				}
				if m.Value() != x.shown || m.Why() != x.why {
					t.Errorf("%s, by %d, in %v: %s, %v; want %s, %v", x.text, fuel, size, m.Value(), m.Why(), x.shown, x.why)
				}
			}
		}
	}
}

// TestTheServerMeansTheSource: however it goes on, and wherever it is collected.
func TestTheServerMeansTheSource(t *testing.T) {
	for _, x := range meanings() {
		for _, fuel := range []int{1, 13, 400, 20000} {
			lines := []string{"make 400 1", "run q " + x.text, "give 0"}
			for range 20000/fuel + 3 {
				lines = append(lines, fmt.Sprint("go 0 ", fuel))
				if fuel > 1 && len(lines)%2 == 0 {
					lines = append(lines, "collect 0")
				}
			}
			l, err := desk.Run(strings.Join(lines, "\n"))
			if err != nil {
				t.Fatal(err)
			}
			got := "none"
			for _, s := range l {
				if strings.HasPrefix(s, "reply") {
					got = s
				}
			}
			if got != x.told("q") {
				t.Errorf("%s, by %d: %s, want %s", x.text, fuel, got, x.told("q"))
			}
		}
	}
}

// contexts are programs with a place, told by @, that wants a datum.
func contexts() []string {
	return []string{
		"@",
		"(list @ 1)",
		"(define x @) (list x x)",
		"(define n 0) (define (up) (set! n (+ n 1)) n) (up) (define l (list (up) @ (up))) (list n l)",
		"(let loop ((i 0) (l '())) (if (= i 5) l (loop (+ i 1) (cons (if (= i 3) @ i) l))))",
		"((lambda (f) (f (lambda (x) (list x @)))) (lambda (g) (list (g 1) 2)))",
		"(call/cc (lambda (k) (list 1 (k @))))",
		"(define k #f) (define n 0) (define d (cons 0 (call/cc (lambda (c) (set! k c) @)))) (set! n (+ n 1)) (if (< n 3) (k (list n d)) d)",
		"(define l '()) (define (note x) (set! l (cons x l))) (dynamic-wind (lambda () (note 1)) (lambda () (note @)) (lambda () (note 2))) l",
		"(define l (list 1)) (define m (list l l)) (set-car! l @) m",
		"(define v (make-vector 2 '())) (vector-set! v 0 v) (vector-set! v 1 @) (list (eq? v (vector-ref v 0)) (vector-ref v 1))",
		"(define s (string-append \"a\" \"b\")) (define d @) (list s d 123456789012345678901234567890)",
		"(car @)", "(+ 1 @)", "(if @ 'yes 'no)", "(apply list @)",
	}
}

func data() []string {
	return []string{"5", "(1 (a . b) \"c\")", "#f", "()", "#(1 x)", "-98765432109876543210", "sym", "\"text\""}
}

// TestSessionsGoOn: a session that is resumed with a datum comes to what the program comes to that has the datum in its place; as often as one likes, behind crashes.
func TestSessionsGoOn(t *testing.T) {
	for _, c := range contexts() {
		lines := []string{"make 900 2", "run s " + strings.ReplaceAll(c, "@", "(suspend 'told)"), "all s"}
		for i, d := range append(data(), data()...) {
			lines = append(lines,
				fmt.Sprintf("resume r%d 1 %s", i, d), fmt.Sprint("crash ", i*7919), fmt.Sprint("all r", i),
				fmt.Sprintf("run p%d %s", i, strings.ReplaceAll(c, "@", "(quote "+d+")")), fmt.Sprint("all p", i))
		}
		l, err := desk.Run(strings.Join(lines, "\n"))
		if err != nil {
			t.Fatal(err)
		}
		if l[2] != "reply s session 1 told" {
			t.Fatalf("%s: %s", c, l[2])
		}
		for i := 3; i < len(l); i += 5 {
			_, resumed, _ := strings.Cut(l[i+2], " r")
			_, plain, _ := strings.Cut(l[i+4], " p")
			if resumed != plain || resumed == "" {
				t.Errorf("%s, %s: %s, and with the datum in its place %s", c, lines[i], l[i+2], l[i+4])
			}
		}
	}
}
