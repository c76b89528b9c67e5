package code_test

import (
	"strconv"
	"strings"
	"testing"

	"rostrum/api"
	"rostrum/code"
)

// P13.2

func TestSource(t *testing.T) {
	for s, want := range map[string]string{
		"":                  "halt; ; ",
		" ;x":               "halt; ; ",
		"(+ 1 2)":           "frame 7, const 0, push, const 1, push, global 0, call 2, halt; 1 2; +",
		"(define x 5) x":    "const 0, define 0, global 0, halt; 5; x",
		"'(a . b) \"s\" #t": "const 0, const 1, const 2, halt; (a . b) \"s\" #t; ",
		"(or a b)":          "frame 12, global 0, push, closure 5 2, jump 11, local 0 0, jumpf 9, local 0 0, return, global 1, return, call 1, halt; ; a b",
		"(let ((x 1)) (lambda () (set! x (if x 2))))": "frame 16, const 0, push, closure 5 2, jump 15, closure 7 0, jump 14, local 1 0, jumpf 11, const 1, jump 12, const 2, set 1 0, return, return, call 1, halt; 1 2 (); ",
		"(begin 1 (begin 2 3))":                       "const 0, const 1, const 2, halt; 1 2 3; ",
		"(define-syntax m (syntax-rules () ((_ a b ...) (list b ... a)))) (m x 2) (m y)": "frame 7, const 0, push, global 0, push, global 1, call 2, frame 12, global 2, push, global 1, call 1, halt; 2; x list y",
		"#(1 x)": "const 0, halt; #(1 x); ",
	} {
		c, err := code.Source(s)
		if err != nil || text(c) != want {
			t.Errorf("%s:\n%s, %v, want\n%s", s, text(c), err, want)
		}
		if code.Verify(c) != api.OK {
			t.Errorf("%s: Verify", s)
		}
	}
}

// many is a text of so many of a form, parted by blanks.
func many(s string, n int) string { return rep(s+" ", n) }

func TestSourceTellsTheFirstFault(t *testing.T) {
	// of the text: the byte
	wantFault(t, "(if", 3, api.ErrRead)
	wantFault(t, "1 2 )", 4, api.ErrRead)
	wantFault(t, "(car 5) #x", 8, api.ErrRead)
	wantFault(t, rep("(", 65), 64, api.ErrDeep)
	wantFault(t, "  "+rep("9", 201), 2, api.ErrBig)
	// of the forms: the form
	wantFault(t, "(if)", 0, api.ErrSyntax)
	wantFault(t, "1 x (if)", 2, api.ErrSyntax)
	wantFault(t, "1 (lambda (x x) x) (if)", 1, api.ErrSyntax)
	wantFault(t, "(define-syntax m (syntax-rules () ((_) 1))) (m) (m 2)", 2, api.ErrMacro)
	wantFault(t, many("1", api.MaxForms+1), api.MaxForms, api.ErrFull)
	wantFault(t, "(define-syntax m (syntax-rules () ((_) (f (m))))) 1 (m)", 2, api.ErrDeep)
	// of the core: the form's place there
	long := "(or " + many("a", 90) + ")"
	wantFault(t, long, 0, api.ErrArg)
	wantFault(t, "1 2 "+long+" 3", 2, api.ErrArg)
	// of the nodes: none
	wantFault(t, "1 (f "+many("x", 256)+")", 0, api.ErrCode)
	wantFault(t, many("(f "+many("(lambda () 1)", 200)+")", 24), 0, api.ErrFull)
	// what comes first is told
	wantFault(t, "(if) (", 6, api.ErrRead)
	wantFault(t, long+" (if)", 1, api.ErrSyntax)
	wantFault(t, "(f "+many("x", 256)+") "+long, 1, api.ErrArg)
	wantFault(t, "(f "+many("x", 256)+") "+many("(f "+many("(lambda () 1)", 200)+")", 24), 0, api.ErrCode)
}

func TestSourceAtTheEdges(t *testing.T) {
	if c := source(t, "(f "+many("x", 255)+")"); len(c.Instrs) != 514 || c.Instrs[512] != (api.Instr{Op: api.OpCall, A: 255}) {
		t.Errorf("255 arguments: %d", len(c.Instrs))
	}
	// a call of n lambdas has 5n + 3 instructions
	s := many("(f "+many("(lambda () 1)", 210)+")", 18) + "(f " + many("(lambda () 1)", 208) + ") "
	n := 18*1053 + 3 + 208*5 + 1
	s += many("1", api.MaxCode-n)
	if c := source(t, s); len(c.Instrs) != api.MaxCode || code.Verify(c) != api.OK {
		t.Errorf("%d instructions", len(c.Instrs))
	}
	wantFault(t, s+"1", 0, api.ErrFull)
}

func TestSourceAnswersNewMemory(t *testing.T) {
	const s = "'(1 (2) #(3)) (f '(1 (2) #(3)) '((4) . 5) x) (lambda (x) '(6))"
	c, again := source(t, s), source(t, s)
	places := map[any]int{}
	codePlaces(c, places)
	codePlaces(again, places)
	for _, n := range places {
		if n > 1 {
			t.Fatal("memory is shared")
		}
	}
}

// TestSourceOfAnyText: no text has it panic, and what it answers may be run.
func TestSourceOfAnyText(t *testing.T) {
	pieces := strings.Fields("( ( ( ) ) ) ' #( . 1 -5 x y f + #t \"s\" if set! define lambda begin let let* letrec cond else and or when unless define-syntax syntax-rules ... _ quote")
	seed := uint32(1)
	for range 20000 {
		var l []string
		for range seed % 23 {
			seed = seed*1664525 + 1013904223
			l = append(l, pieces[int(seed>>8)%len(pieces)])
		}
		seed = seed*1664525 + 1013904223
		s := strings.Join(l, " ")
		c, err := code.Source(s)
		if _, fault := err.(api.Fault); err != nil && (!fault || !empty(c)) || err == nil && code.Verify(c) != api.OK {
			t.Fatalf("%s: %s, %v", s, text(c), err)
		}
	}
}

func TestSourceOfDeepForms(t *testing.T) {
	for k := 50; k < 70; k++ {
		_, err := code.Source(rep("(f ", k) + "1" + rep(")", k))
		if (err == nil) != (k <= api.MaxDepth) {
			t.Errorf("%s calls in each other: %v", strconv.Itoa(k), err)
		}
	}
}
