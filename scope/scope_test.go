package scope_test

import (
	"errors"
	"slices"
	"strings"
	"testing"

	"rostrum/api"
	"rostrum/datum"
	"rostrum/scope"
)

const sixteen = "a b c d e f g h i j k l m n o p"

// P12.1

func TestNodes(t *testing.T) {
	for _, c := range [][2]string{
		{"", ""}, {"5 #t \"a b\"", "[const 5] [const #t] [const \"a b\"]"}, {"'x '(1 . 2) '#(a) ''x '()", "[const x] [const (1 . 2)] [const #(a)] [const (quote x)] [const ()]"}, {"'if '... '(quote)", "[const if] [const ...] [const (quote)]"},
		{"x %or", "[global x] [global %or]"},
		{"(set! x 1)", "[setg x [const 1]]"}, {"(define x x)", "[define x [global x]]"}, {"(if a 1 'b)", "[if [global a] [const 1] [const b]]"},
		{"(begin 1)", "[seq [const 1]]"}, {"(begin 1 a 2)", "[seq [const 1] [global a] [const 2]]"},
		{"(f)", "[call [global f]]"}, {"(f 1 (g))", "[call [global f] [const 1] [call [global g]]]"}, {"(1 2)", "[call [const 1] [const 2]]"}, {"((if a b c))", "[call [if [global a] [global b] [global c]]]"}, {"('if)", "[call [const if]]"}, {"(\"if\" 1)", "[call [const \"if\"] [const 1]]"}, {"(\"let\")", "[call [const \"let\"]]"},
		{"(lambda () 1)", "[lambda 0 0 [const 1]]"}, {"(lambda (x) x)", "[lambda 1 0 [local 0 0]]"}, {"(lambda (x y) y)", "[lambda 2 0 [local 0 1]]"}, {"(lambda x x)", "[lambda 0 1 [local 0 0]]"}, {"(lambda (x . y) (x y z))", "[lambda 1 1 [call [local 0 0] [local 0 1] [global z]]]"},
		{"(lambda (x) (lambda (y) x))", "[lambda 1 0 [lambda 1 0 [local 1 0]]]"}, {"(lambda (x) (lambda (x) x))", "[lambda 1 0 [lambda 1 0 [local 0 0]]]"}, {"(lambda (x) (lambda () (lambda (a . b) (x a b))))", "[lambda 1 0 [lambda 0 0 [lambda 1 1 [call [local 2 0] [local 0 0] [local 0 1]]]]]"},
		{"(lambda (x y) (lambda (y z) (x y z)))", "[lambda 2 0 [lambda 2 0 [call [local 1 0] [local 0 0] [local 0 1]]]]"},
		{"(lambda (x) (set! x x))", "[lambda 1 0 [set 0 0 [local 0 0]]]"}, {"(lambda (a . x) (lambda () (set! x (set! y x))))", "[lambda 1 1 [lambda 0 0 [set 1 1 [setg y [local 1 1]]]]]"},
		{"((lambda (x) x) x)", "[call [lambda 1 0 [local 0 0]] [global x]]"}, {"(x (lambda (x) x) x)", "[call [global x] [lambda 1 0 [local 0 0]] [global x]]"}, {"(lambda (x) (begin (lambda (y) y) y))", "[lambda 1 0 [seq [lambda 1 0 [local 0 0]] [global y]]]"},
		{"(define x (lambda (y) (x y)))", "[define x [lambda 1 0 [call [global x] [local 0 0]]]]"}, {"(lambda (x) (if x (set! z 1) x))", "[lambda 1 0 [if [local 0 0] [setg z [const 1]] [local 0 0]]]"}, {"(lambda (x) 'x)", "[lambda 1 0 [const x]]"}, {"(lambda (x) (x x))", "[lambda 1 0 [call [local 0 0] [local 0 0]]]"},
		{"(lambda (" + sixteen + ") (p a q))", "[lambda 16 0 [call [local 0 15] [local 0 0] [global q]]]"}, {"(lambda (" + strings.Replace(sixteen, "o p", "o . p", 1) + ") p)", "[lambda 15 1 [local 0 15]]"},
		{"(define f (lambda (x . r) (lambda (y) (set! x (+ y x)))))", "[define f [lambda 1 1 [lambda 1 0 [set 1 0 [call [global +] [local 0 0] [local 1 0]]]]]]"},
	} {
		wantNodes(t, c[0], c[1])
	}
}

// wrongForms is forms with their fault, wherever they stand.
func wrongForms() map[api.Errno][]string {
	return map[api.Errno][]string{
		api.ErrSyntax: {
			"()", "#(1)", "#()", "(f . 1)", "(f 1 . x)", "(if . 1)", "(let . 1)", "(else 1 . 2)",
			"(quote)", "(quote 1 2)", "(quote 1 . 2)", "(quote . 1)", "(if)", "(if 1)", "(if 1 2)", "(if 1 2 3 4)", "(if 1 2 3 . 4)", "(if if)",
			"(set!)", "(set! x)", "(set! x 1 2)", "(set! x . 1)", "(set! 1 1)", "(set! (x) 1)", "(set! \"x\" 1)", "(set! #(x) 1)", "(set! if)", "(set! if 1 2)", "(set! x ())",
			"(begin)", "(begin . 1)", "(begin 1 . 2)", "(begin ())", "(define)", "(define x)", "(define x 1 2)", "(define if)", "(define if 1 2)", "(define 1 1)", "(define (f) 1)", "(define (f x) 1)", "(define x . 1)",
			"(lambda)", "(lambda x)", "(lambda (x))", "(lambda if)", "(lambda (x) 1 2)", "(lambda (if) 1 2)", "(lambda (x) . 1)", "(lambda (x) 1 . 2)", "(lambda 1 1)", "(lambda #(x) 1)", "(lambda \"x\" 1)", "(lambda #t 1)", "(lambda (1) 1)", "(lambda ((x)) 1)", "(lambda (x ()) 1)", "(lambda (x . 1) 1)", "(lambda (x . #(y)) 1)", "(lambda (x . \"y\") 1)",
			"(lambda (x x) 1)", "(lambda (x y x) 1)", "(lambda (x . x) 1)", "(lambda (x y . x) 1)", "(lambda (" + sixteen + " q) 1)", "(lambda (" + sixteen + " . q) 1)", "(lambda (x) ())", "(lambda (1 if) 1)", "(lambda (x x if) 1)", "(lambda (x 1 . if) 1)", "(lambda (if " + sixteen + ") 1)",
		},
		api.ErrBind: {
			"quote", "if", "set!", "define", "lambda", "begin", "let", "let*", "letrec", "cond", "else", "and", "or", "when", "unless", "define-syntax", "syntax-rules", "...", "_",
			"(let 1 2)", "(let ((x 1)) x)", "(let* () 1)", "(letrec () 1)", "(cond)", "(else)", "(and)", "(or 1)", "(when 1 2)", "(unless 1 2)", "(define-syntax m (syntax-rules ()))", "(syntax-rules)", "(...)", "(_ 1)", "(let ())", "(let if)",
			"(set! if 1)", "(set! else 1)", "(set! _ ())", "(lambda (if) 1)", "(lambda if 1)", "(lambda (x . if) 1)", "(lambda (x ...) 1)", "(lambda (x _) 1)", "(lambda (if 1) 1)", "(lambda (if if) 1)", "(lambda (x if x) 1)", "(lambda (if) ())", "(lambda (define) 1)",
		},
	}
}

func TestWrongForms(t *testing.T) {
	for why, l := range wrongForms() {
		for _, s := range l {
			wantFault(t, s, 0, why)
			wantFault(t, "1 (define a 2) "+s+" () if", 2, why)
			for _, a := range []string{"(f @)", "(f a @ b)", "((f) @)", "(if 1 @ 2)", "(if @ 2 3)", "(if 1 2 @)", "(set! a @)", "(define a @)", "(lambda () @)", "(lambda (a . b) @)", "(begin 1 @)", "(begin @)", "((lambda (x) @) 1)"} {
				wantFault(t, strings.Replace(a, "@", s, 1), 0, why)
			}
			if s[0] == '(' {
				wantFault(t, "("+s+" 1)", 0, why)
			}
		}
	}
	for _, s := range []string{"(define if 1)", "(define else ())", "(define _ x)"} {
		wantFault(t, s, 0, api.ErrBind)
	}
	for _, a := range []string{"(f @)", "(@)", "(if 1 @ 2)", "(set! a @)", "(define a @)", "(lambda () @)", "(begin @)", "(begin 1 @)"} {
		for _, s := range []string{"(define x 1)", "(define if 1)", "(define x if)", "(define)"} {
			wantFault(t, strings.Replace(a, "@", s, 1), 0, api.ErrSyntax)
		}
	}
}

// TestFirstFault: of two parts that are wrong, each in a way of its own, the first one tells its fault.
func TestFirstFault(t *testing.T) {
	for _, s := range []string{"(@ $)", "(f @ $)", "(if @ $ 1)", "(if 1 @ $)", "(if @ 1 $)", "(begin @ $)", "((lambda (x) @) $)", "(f (g @) $)", "@ $"} {
		wantFault(t, strings.NewReplacer("@", "(if)", "$", "(else)").Replace(s), 0, api.ErrSyntax)
		wantFault(t, strings.NewReplacer("@", "(else)", "$", "(if)").Replace(s), 0, api.ErrBind)
	}
	for _, s := range []string{"(set! if ())", "(define if ())", "(lambda (if) ())", "(let ())", "(lambda (x if) (x . y))"} {
		wantFault(t, s, 0, api.ErrBind)
	}
	for _, s := range []string{"(set! 1 if)", "(define 1 if)", "(lambda (x x) if)", "(lambda 1 if)", "(if else)", "(begin else . 1)", "(f else . 1)"} {
		wantFault(t, s, 0, api.ErrSyntax)
	}
}

// wantWhy holds the fault of a form that may be too deep for Resolve.
func wantWhy(t *testing.T, what string, d api.Datum, why api.Errno) {
	t.Helper()
	if _, got := scope.Form(d); got != why {
		t.Errorf("%.300s: %v, want %v", what, got, why)
	}
}

func TestDeepForms(t *testing.T) {
	for form, each := range map[string]int{"(f @)": 1, "(@)": 1, "(if 1 @ 2)": 1, "(if 1 2 @)": 1, "(set! x @)": 1, "(begin @)": 1, "(begin 1 @)": 1, "(f (if 1 2 @))": 2, "(begin (set! x (f 1 @)))": 3} {
		for _, inside := range []string{"x", "5", "'(1 (2 (3)))"} {
			d := read(t, inside)[0]
			deep := around(t, form, 299/each, d)
			for range 299 % each {
				deep = list(deep)
			}
			wantWhy(t, inside+" within 299 of "+form, deep, api.OK)
			wantWhy(t, inside+" within 300 of "+form, list(deep), api.ErrDeep)
			wantWhy(t, inside+" within a define and 299 of "+form, list(sym("define"), sym("x"), deep), api.ErrDeep)
			if each == 1 {
				wantWhy(t, inside+" within a define and 298 of "+form, list(sym("define"), sym("x"), around(t, form, 298, d)), api.OK)
			}
		}
	}
	// that is asked ahead of all else of a form, and behind all of those around it
	for inside, why := range map[string]api.Errno{"()": api.ErrSyntax, "if": api.ErrBind, "(if)": api.ErrSyntax, "(else)": api.ErrBind, "#(1)": api.ErrSyntax, "(lambda (x x) 1)": api.ErrSyntax, "(define x 1)": api.ErrSyntax} {
		wantWhy(t, inside+" within 300", around(t, "(f @)", 300, read(t, inside)[0]), api.ErrDeep)
		wantWhy(t, inside+" within 299", around(t, "(f @)", 299, read(t, inside)[0]), why)
	}
	wantWhy(t, "a form ahead", list(list(), around(t, "(f @)", 400, sym("x"))), api.ErrSyntax)
	wantWhy(t, "a form behind", list(around(t, "(f @)", 400, sym("x")), list()), api.ErrDeep)
	wantWhy(t, "very deep", around(t, "(f @)", 1<<16, sym("x")), api.ErrDeep)
	// an own name at a call's head is that call's fault
	wantWhy(t, "an own name as a head", around(t, "(f @)", 299, list(sym("let"))), api.ErrBind)
	wantWhy(t, "a head", around(t, "(f @)", 299, list(sym("f"))), api.ErrDeep)
	wantWhy(t, "what is quoted is no form", around(t, "(f @)", 299, list(sym("quote"), sym("x"))), api.OK)
}

func TestDeepLambdas(t *testing.T) {
	for _, form := range []string{"(lambda () @)", "(lambda x @)", "(lambda (a . b) @)", "(f (lambda () @))"} {
		for _, inside := range []string{"x", "(f)", "5"} {
			wantWhy(t, inside+" within 100 of "+form, around(t, form, 100, read(t, inside)[0]), api.OK)
		}
		wantWhy(t, form, around(t, form, 100, read(t, "(lambda () 1)")[0]), api.ErrDeep)
		wantWhy(t, form, around(t, form, 101, sym("x")), api.ErrDeep)
	}
	// that is asked behind its names, and ahead of what is in it
	for inside, why := range map[string]api.Errno{"(lambda (x x) 1)": api.ErrSyntax, "(lambda (if) 1)": api.ErrBind, "(lambda 1 1)": api.ErrSyntax, "(lambda (x))": api.ErrSyntax, "(lambda (x) ())": api.ErrDeep, "(lambda (x) if)": api.ErrDeep, "(lambda (" + sixteen + " q) 1)": api.ErrSyntax} {
		wantWhy(t, inside, around(t, "(lambda () @)", 100, read(t, inside)[0]), why)
	}
	// lambdas beside each other are not within each other
	wantWhy(t, "200 lambdas in a call", around(t, "(lambda () @)", 99, read(t, "("+rep("(lambda () 1) ", 200)+")")[0]), api.OK)
	node, why := scope.Form(list(sym("lambda"), list(sym("x")), around(t, "(lambda (y) @)", 99, sym("x"))))
	for node.Op == api.NLambda {
		node = node.Kids[0]
	}
	if why != api.OK || text(node) != "[local 99 0]" {
		t.Errorf("the outermost of 100 lambdas: %s, %v", text(node), why)
	}
}

// TestAsDeepAsDataMayBe: a form may be as deep as a datum, and no deeper, wherever in it the depth is.
func TestAsDeepAsDataMayBe(t *testing.T) {
	for _, form := range []string{"(f @)", "(@)", "(@ 1)", "(if @ 1 2)", "(if 1 2 @)", "(set! x @)", "(begin 1 @)", "(lambda x @)"} {
		for inside, depth := range map[string]int{"x": 0, "5": 0, "'x": 1, "'(1 (2))": 3, "'(1 . #(2))": 3, "'#(#())": 3, "(lambda (x) x)": 2} {
			d := read(t, inside)[0]
			fits := around(t, form, api.MaxDepth-depth, d)
			if n, err := scope.Resolve([]api.Datum{fits}); err != nil || len(n) != 1 {
				t.Errorf("%s of depth MaxDepth in %s: %v", inside, form, err)
			}
			deep := around(t, form, api.MaxDepth-depth+1, d)
			wantFaultOf(t, form, []api.Datum{deep}, 0, api.ErrArg)
			wantFaultOf(t, form, []api.Datum{num("1"), fits, deep}, 2, api.ErrArg)
			wantFaultOf(t, form, []api.Datum{list(sym("define"), sym("x"), fits)}, 0, api.ErrArg)
			wantFaultOf(t, "behind a wrong one", []api.Datum{list(), deep}, 0, api.ErrSyntax)
		}
	}
	for in, lists := range map[string]int{"(quote @)": 1, "(quote #(@))": 2, "(quote (1 . #(@)))": 3, "(if @)": 1, "(else @)": 1, "(set! @ 1)": 1, "(lambda @ 1)": 1, "(lambda (x) 1 @)": 1, "(lambda (x @) 1)": 2, "(lambda (x . #(@)) 1)": 3, "(f . #(@))": 2, "#(@)": 1} {
		for _, part := range []string{"(@)", "#(@)"} {
			fits := around(t, in, 1, around(t, part, api.MaxDepth-lists, sym("x")))
			if _, err := scope.Resolve([]api.Datum{fits}); errors.Is(err, api.ErrArg) {
				t.Errorf("%s of depth MaxDepth: %v", in, err)
			}
			deep := around(t, in, 1, around(t, part, api.MaxDepth-lists+1, sym("x")))
			wantFaultOf(t, in, []api.Datum{deep}, 0, api.ErrArg)
		}
	}
	for _, n := range []int{api.MaxDepth + 1, 100, 101, 299, 300, 301, 1 << 16} {
		wantFaultOf(t, "forms within each other", []api.Datum{around(t, "(f @)", n, sym("x"))}, 0, api.ErrArg)
		wantFaultOf(t, "lambdas within each other", []api.Datum{around(t, "(lambda () @)", n, sym("x"))}, 0, api.ErrArg)
	}
}

// TestDeepCore: what expand makes may be deeper than a datum may be.
func TestDeepCore(t *testing.T) {
	for _, s := range []string{"(or " + rep("a ", 90) + ")", "(cond " + rep("(a b) ", 150) + ")", "(let* (" + rep("(a b) ", 90) + ") c)", "(and " + rep("a ", 190) + ")", rep("#(", 64) + rep(")", 64), "1 (or " + rep("a ", 102) + ")", "1 (let* (" + rep("(a b) ", 101) + ") c)"} {
		l := core(t, s)
		if datum.Can(l[len(l)-1]) {
			t.Errorf("%.30s .. is not deep", s)
		}
		wantFaultOf(t, s, l, len(l)-1, api.ErrArg)
	}
	for _, s := range []string{"(or " + rep("a ", 20) + ")", "(cond " + rep("(a b) ", 60) + ")", "(let* (" + rep("(a b) ", 30) + ") c)", "(and " + rep("a ", 60) + ")", rep("#(", 63) + rep(")", 63)} {
		if n, err := scope.Resolve(core(t, s)); err != nil || len(n) != 1 {
			t.Errorf("%.30s ..: %v", s, err)
		}
	}
}

func TestDataThatMayNotBe(t *testing.T) {
	a := sym("a")
	bad := []api.Datum{
		{}, {Kind: -1}, {Kind: 7}, num("01"), num(""), sym(""), sym("a b"), sym("1"), {Kind: api.DBool, Text: "t"},
		{Kind: api.DList, Text: "a"}, {Kind: api.DList, Tail: []api.Datum{a}}, dotted(list(), a), dotted(list(a), a), {Kind: api.DList, List: []api.Datum{a}, Tail: []api.Datum{a, a}}, dotted(num("01"), a),
		{Kind: api.DVector, Text: "a"}, {Kind: api.DVector, List: []api.Datum{a}, Tail: []api.Datum{a}}, {Kind: api.DVector, List: []api.Datum{{}}},
		{Kind: api.DSymbol, Text: "a", List: []api.Datum{a}}, {Kind: api.DString, Text: "a", Tail: []api.Datum{a}}, {Kind: api.DList, Text: "a", List: []api.Datum{sym("quote"), a}},
		list(sym("quote"), around(t, "(@)", 64, a)), list(sym("quote"), around(t, "#(@)", 64, a)), around(t, "#(@)", 65, a), around(t, "(@)", 65, a),
	}
	for _, d := range bad {
		for _, in := range []api.Datum{d, list(a, d), list(d), list(sym("quote"), d), list(sym("quote"), list(d)), list(sym("if"), d), list(list(), d), list(sym("lambda"), d, a), list(sym("lambda"), list(a, d), a), list(sym("else"), d), list(sym("define"), d, a), around(t, "(f @)", 50, d), around(t, "(f @)", 60, list(sym("quote"), d))} {
			wantFaultOf(t, "a datum that may not be", []api.Datum{in, list()}, 0, api.ErrArg)
			wantFaultOf(t, "behind others", []api.Datum{a, a, in}, 2, api.ErrArg)
			wantFaultOf(t, "behind a fault", []api.Datum{list(), in}, 0, api.ErrSyntax)
		}
	}
}

// TestDataThatHoldThemselves: it ends.
func TestDataThatHoldThemselves(t *testing.T) {
	l := make([]api.Datum, 3)
	l[0] = sym("a")
	l[1] = list(l...)
	l[1].List = l
	l[2] = api.Datum{Kind: api.DVector, List: l}
	for _, d := range []api.Datum{l[1], l[2], list(sym("if"), l[1]), list(sym("quote"), l[1])} {
		if n, err := scope.Resolve([]api.Datum{d}); err == nil || len(n) > 0 {
			t.Errorf("%v", n)
		}
	}
	n := make([]api.Node, 3)
	n[0] = api.Node{Op: api.NGlobal, Text: "a"}
	n[1] = api.Node{Op: api.NSeq, Kids: n}
	n[2] = api.Node{Op: api.NCall, Kids: n}
	if free, size := scope.Free(n), scope.Size(n); len(free) > 0 || size != 0 {
		t.Errorf("%q, %d", free, size)
	}
}

func TestNilAndEmptyAreOne(t *testing.T) {
	empty := []api.Datum{}
	for _, l := range [][]api.Datum{nil, empty} {
		if n, err := scope.Resolve(l); len(n) > 0 || err != nil {
			t.Errorf("a program without forms: %v, %v", n, err)
		}
	}
	x := api.Datum{Kind: api.DSymbol, Text: "x", List: empty, Tail: empty}
	l := []api.Datum{{Kind: api.DList, List: []api.Datum{{Kind: api.DSymbol, Text: "lambda", List: empty}, {Kind: api.DList, List: empty, Tail: empty}, x}, Tail: empty}, {Kind: api.DList, List: []api.Datum{sym("lambda"), {Kind: api.DList, List: []api.Datum{x}, Tail: empty}, x}}}
	if n, err := scope.Resolve(l); err != nil || texts(n) != "[lambda 0 0 [global x]] [lambda 1 0 [local 0 0]]" {
		t.Errorf("%s, %v", texts(n), err)
	}
}

// P12.2

func TestFreeAndSize(t *testing.T) {
	for _, c := range []struct {
		source, free string
		size         int
	}{
		{"", "", 0}, {"5", "", 1}, {"x", "x", 1}, {"x x y x", "x y", 4}, {"(define f (lambda (x . r) (lambda (y) (set! x (+ y x)))))", "+ f", 8}, {"(set! b 1) (define c 2) a", "a b c", 5}, {"(lambda (x) x)", "", 2}, {"(lambda (x) (set! x 'y))", "", 3}, {"(if z (begin y x) (w 'v))", "w x y z", 8}, {"b B a A _x ! ~", "! A B _x a b ~", 7}, {"(set! x (set! x x))", "x", 3}, {"(define x (define2 x))", "define2 x", 4},
	} {
		n, err := scope.Resolve(read(t, c.source))
		if err != nil {
			t.Fatal(err)
		}
		if free := strings.Join(scope.Free(n), " "); free != c.free || scope.Size(n) != c.size {
			t.Errorf("%s: %s, %d, want %s, %d", c.source, free, scope.Size(n), c.free, c.size)
		}
	}
}

// TestFreeAndSizeOfNodesMadeByHand: whatever they are, those that name globals are told, and all are counted.
func TestFreeAndSizeOfNodesMadeByHand(t *testing.T) {
	global := func(s string, kids ...api.Node) api.Node { return api.Node{Op: api.NGlobal, Text: s, Kids: kids} }
	l := []api.Node{
		{Op: api.NConst, Text: "const", Kids: []api.Node{global("b"), global("")}}, {Op: 0, Text: "none", Kids: []api.Node{global("a")}}, {Op: 99, Text: "other", Kids: []api.Node{{Op: api.NSetG, Text: "c"}, {Op: api.NDefine, Text: "a"}}},
		{Op: api.NLocal, Text: "local"}, {Op: api.NSet, Text: "set"}, {Op: api.NIf, Text: "if"}, {Op: api.NLambda, Text: "lambda"}, {Op: api.NSeq, Text: "seq"}, {Op: api.NCall, Text: "call"}, global("\xff", global("b", global("d"))), {Op: -1},
	}
	if free := scope.Free(l); !slices.Equal(free, []string{"", "a", "b", "c", "d", "\xff"}) || scope.Size(l) != 18 {
		t.Errorf("%q, %d", free, scope.Size(l))
	}
	for _, l := range [][]api.Node{nil, {}} {
		if len(scope.Free(l)) != 0 || scope.Size(l) != 0 {
			t.Error("no nodes")
		}
	}
	deep := global("x")
	for range 1<<16 - 1 {
		deep = api.Node{Op: api.NSeq, Kids: []api.Node{deep}}
	}
	if free := scope.Free([]api.Node{deep}); !slices.Equal(free, []string{"x"}) || scope.Size([]api.Node{deep}) != 1<<16 {
		t.Errorf("2^16 nodes within each other: %q, %d", free, scope.Size([]api.Node{deep}))
	}
}

// Memory

func TestResolveAnswersNewMemory(t *testing.T) {
	const source = "5 x '(a (b . c) #(d)) '() (quote #(1 2)) (if a '(b) c) (set! x '(1)) (define x '(1 2)) (lambda (a b . c) (begin a b c '(d))) (f 1 '(2) (g)) (lambda x (lambda (y) (set! x (x y z))))"
	given := roomy(read(t, source))
	before := noted(given)
	l, err := scope.Resolve(given)
	if err != nil {
		t.Fatal(err)
	}
	again, _ := scope.Resolve(given)
	old, now := map[any]int{}, map[any]int{}
	places(given, old)
	nodePlaces(l, now)
	nodePlaces(again, now)
	for p, n := range now {
		if n > 1 || old[p] > 0 {
			t.Fatal("the answer's memory is shared")
		}
	}
	if noted(given) != before || texts(l) != texts(again) {
		t.Error("what was handed in has changed")
	}
	names := scope.Free(l)
	for i := range names[:cap(names)] {
		names[:cap(names)][i] = "junk"
	}
	if texts(l) != texts(again) || strings.Contains(strings.Join(scope.Free(l), " "), "junk") {
		t.Error("what Free answers is part of the nodes")
	}
}
