package expand_test

import (
	"slices"
	"strings"
	"testing"

	"rostrum/api"
	"rostrum/datum"
	"rostrum/expand"
)

const (
	sixteen = "a b c d e f g h i j k l m n o p"
	noFit   = "(define-syntax m (syntax-rules () ((_ x y) 1))) " // (m) has ErrMacro, where () has ErrSyntax
)

// P11.1

// TestRows: each form of the chapter's table, and its edges, outside of all forms.
func TestRows(t *testing.T) {
	for _, c := range [][2]string{
		{"", ""}, {"5 -3 #t #f \"a\\n\"", "5 -3 #t #f \"a\\n\""},
		{"#()", "(quote #())"}, {"#(a if (lambda))", "(quote #(a if (lambda)))"},
		{"x => %or list", "x => %or list"},
		{"'()", "(quote ())"}, {"'(if . else)", "(quote (if . else))"}, {"'...", "(quote ...)"}, {"''a", "(quote (quote a))"}, {"(quote #(1))", "(quote #(1))"},
		{"(if a b)", "(if a b (quote ()))"}, {"(if a b c)", "(if a b c)"}, {"(if #(1) (and) (or))", "(if (quote #(1)) #t #f)"},
		{"(set! x (and))", "(set! x #t)"},

		{"(define x (and))", "(define x #t)"}, {"(define x x)", "(define x x)"},
		{"(define (f) 1)", "(define f (lambda () 1))"}, {"(define (f . r) r)", "(define f (lambda r r))"}, {"(define (f a . r) a r)", "(define f (lambda (a . r) (begin a r)))"},
		{"(define (f a) (define b (and)) b)", "(define f (lambda (a) ((lambda (b) (begin (set! b #t) b)) #f)))"},

		{"(lambda () 1)", "(lambda () 1)"}, {"(lambda x x)", "(lambda x x)"}, {"(lambda (x . y) x y)", "(lambda (x . y) (begin x y))"}, {"(lambda (x) (and) (or) 1)", "(lambda (x) (begin #t #f 1))"},
		{"(lambda (" + sixteen + ") 1)", "(lambda (" + sixteen + ") 1)"}, {"(lambda (" + sixteen[:len(sixteen)-1] + ". q) 1)", "(lambda (" + sixteen[:len(sixteen)-1] + ". q) 1)"},
		{"(lambda () (define a 1) (define (b . c) d) e (and) f)", "(lambda () ((lambda (a b) (begin (set! a 1) (set! b (lambda c d)) e #t f)) #f #f))"},
		{"(lambda () (define a (and)) a)", "(lambda () ((lambda (a) (begin (set! a #t) a)) #f))"},
		{"(lambda (a) (define a a) a)", "(lambda (a) ((lambda (a) (begin (set! a a) a)) #f))"},
		{"(lambda () (define (a) (define b 1) b) a)", "(lambda () ((lambda (a) (begin (set! a (lambda () ((lambda (b) (begin (set! b 1) b)) #f))) a)) #f))"},

		{"(f (begin a))", "(f a)"}, {"(f (begin a b))", "(f (begin a b))"}, {"(f (begin (begin a (begin b)) (begin c d)))", "(f (begin (begin a b) (begin c d)))"},
		{"(begin a)", "a"}, {"(begin a (and) c)", "a #t c"}, {"(begin (begin a) (begin b c) d)", "a b c d"}, {"(begin (define a 1) (define (b) a)) b", "(define a 1) (define b (lambda () a)) b"},

		{"(let ((x 1)) x)", "((lambda (x) x) 1)"}, {"(let () 1)", "((lambda () 1))"}, {"(let ((x (and)) (y (or))) x y)", "((lambda (x y) (begin x y)) #t #f)"},
		{"(let ((x 1)) (define y 2) y)", "((lambda (x) ((lambda (y) (begin (set! y 2) y)) #f)) 1)"},
		{"(let f ((x 1) (y (and))) (f y) x)", "(((lambda (f) (begin (set! f (lambda (x y) (begin (f y) x))) f)) #f) 1 #t)"},
		{"(let f () (define a 1) a)", "(((lambda (f) (begin (set! f (lambda () ((lambda (a) (begin (set! a 1) a)) #f))) f)) #f))"},
		{"(let f ((f 1)) f)", "(((lambda (f) (begin (set! f (lambda (f) f)) f)) #f) 1)"},
		{"(let* () 1 2)", "((lambda () (begin 1 2)))"}, {"(let* ((x (and))) x)", "((lambda (x) x) #t)"},
		{"(let* ((x 1) (y (and)) (x y)) (define z x) z)", "((lambda (x) ((lambda (y) ((lambda (x) ((lambda (z) (begin (set! z x) z)) #f)) y)) #t)) 1)"},
		{"(letrec () 1 2)", "((lambda () (begin 1 2)))"}, {"(letrec ((f (and))) f)", "((lambda (f) (begin (set! f #t) f)) #f)"},
		{"(letrec ((f g) (g (lambda () f))) f g)", "((lambda (f g) (begin (set! f g) (set! g (lambda () f)) (begin f g))) #f #f)"},
		{"(letrec ((f 1)) (define g f) g)", "((lambda (f) (begin (set! f 1) ((lambda (g) (begin (set! g f) g)) #f))) #f)"},

		{"(cond)", "(quote ())"}, {"(cond (a b))", "(if a b (quote ()))"}, {"(cond (a))", "(if a #t (quote ()))"}, {"(cond (a) ((and) (or) c) (d e))", "(if a #t (if #t (begin #f c) (if d e (quote ()))))"},
		{"(cond (else a))", "a"}, {"(f (cond (else a b)))", "(f (begin a b))"}, {"(cond (a b) (else (and) c))", "(if a b (begin #t c))"}, {"(cond (a => b))", "(if a (begin => b) (quote ()))"},
		{"(cond (else a b))", "(begin a b)"},
		{"(and)", "#t"}, {"(and a)", "a"}, {"(and a (or) c)", "(if a (if #f c #f) #f)"},
		{"(or)", "#f"}, {"(or a)", "a"}, {"(or a b (and))", "((lambda (%or) (if %or %or ((lambda (%or) (if %or %or #t)) b))) a)"},
		{"(when a b)", "(if a b (quote ()))"}, {"(when (and) b (or))", "(if #t (begin b #f) (quote ()))"},
		{"(unless a b)", "(if a (quote ()) b)"}, {"(unless (and) b (or))", "(if #t (quote ()) (begin b #f))"},

		{"(f)", "(f)"}, {"(f (and) 1)", "(f #t 1)"}, {"((lambda (x) x) 1)", "((lambda (x) x) 1)"}, {"(1 \"a\" #(b))", "(1 \"a\" (quote #(b)))"}, {"((and) 1)", "(#t 1)"}, {"(=> list)", "(=> list)"}, {"(\"if\" a)", "(\"if\" a)"}, {"(lambda () (\"define\" a))", "(lambda () (\"define\" a))"}, {"(\"begin\" a)", "(\"begin\" a)"}, {"(cond (\"else\" a) (b c))", "(if \"else\" a (if b c (quote ())))"},
	} {
		wantCore(t, c[0], c[1])
	}
}

// wrongForms is forms that are not as their rows say, wherever they stand.
func wrongForms() []string {
	return []string{
		"()", "(a . b)", "(a b . c)", "quote", "if", "set!", "define", "lambda", "begin", "let", "let*", "letrec", "cond", "else", "and", "or", "when", "unless", "define-syntax", "syntax-rules", "...", "_",
		"(else)", "(else 1)", "(syntax-rules ())", "(... 1)", "(_ 1)", "(_)", "(f else)", "(f ())", "(f . 1)", "(() 1)", "(if else 1)",
		"(quote)", "(quote a b)", "(quote . a)", "(quote a . b)",
		"(if)", "(if a)", "(if a b c d)", "(if a b . c)", "(if . a)", "(if () b)", "(if a ())", "(if a b ())",
		"(set!)", "(set! x)", "(set! x 1 2)", "(set! x . 1)", "(set! if 1)", "(set! _ 1)", "(set! 1 1)", "(set! (x) 1)", "(set! \"x\" 1)", "(set! x ())",
		"(define)", "(define x)", "(define x 1 2)", "(define x . 1)", "(define x 1 . 2)", "(define if 1)", "(define else 1)", "(define 1 1)", "(define \"x\" 1)", "(define #(x) 1)", "(define () 1)", "(define x ())",
		"(define (f))", "(define (f . r))", "(define (f) . 1)", "(define (f) 1 . 2)", "(define (if) 1)", "(define (if . r) 1)", "(define (1) 1)", "(define ((f)) 1)", "(define ((f) x) 1)", "(define (f 1) 1)", "(define (f . 1) 1)", "(define (f if) 1)", "(define (f . if) 1)", "(define (f x x) 1)", "(define (f x . x) 1)", "(define (f " + sixteen + " . q) 1)", "(define (f) ())", "(define (f) (define x 1))",
		"(lambda)", "(lambda (x))", "(lambda x)", "(lambda (x) . 1)", "(lambda (x) 1 . 2)", "(lambda 1 1)", "(lambda \"x\" 1)", "(lambda #t 1)", "(lambda #(x) 1)", "(lambda (1) 1)", "(lambda ((x)) 1)", "(lambda (x . 1) 1)", "(lambda (x . #(y)) 1)", "(lambda if 1)", "(lambda (if) 1)", "(lambda (x . if) 1)", "(lambda (x ...) 1)", "(lambda (_) 1)",
		"(lambda (x x) 1)", "(lambda (x y x) 1)", "(lambda (x . x) 1)", "(lambda (" + sixteen + " q) 1)", "(lambda (" + sixteen + " . q) 1)", "(lambda () ())", "(lambda () 1 ())", "(lambda () () 1)",
		"(lambda () (define x 1))", "(lambda () (define x 1) (define y 2))", "(lambda () (define x) 1)", "(lambda () (define) 1)", "(lambda () (define . x) 1)", "(lambda () (define x 1 . 2) 1)", "(lambda () (define x 1 2) 1)", "(lambda () (define if 1) 1)", "(lambda () (define 1 1) 1)", "(lambda () (define (f)) 1)", "(lambda () (define (f . 1) 1) 1)", "(lambda () (define x ()) 1)", "(lambda () (define x 1) ())",
		"(lambda () (define x 1) (define x 2) 1)", "(lambda () (define x 1) (define (x) 2) 1)", "(lambda () (define (f x x) 1) 1)",
		"(lambda () (define " + strings.ReplaceAll(sixteen, " ", " 1) (define ") + " 1) (define q 1) 1)",
		"(lambda () 1 (define x 1))", "(lambda () 1 (define x 1) x)", "(lambda () (define x 1) x (define y 2) y)", "(lambda () (begin (define x 1)) x)", "(lambda () (begin (define x 1) x))", "(lambda () (define-syntax m (syntax-rules ())) 1)",
		"(begin)", "(begin . 1)", "(begin 1 . 2)", "(begin ())", "(begin 1 ())", "(begin else)",
		"(let)", "(let ())", "(let ((x 1)))", "(let x)", "(let ((x 1)) . x)", "(let ((x 1)) x . x)", "(let 1 2)", "(let #() 2)", "(let (x) x)", "(let ((x)) x)", "(let ((x 1 2)) x)", "(let ((x . 1)) x)", "(let ((x 1 . 2)) x)", "(let ((x 1) . y) x)", "(let (()) x)", "(let (#(x 1)) x)", "(let ((1 1)) 1)", "(let (((x) 1)) 1)", "(let ((if 1)) 2)", "(let ((x 1) (x 2)) x)", "(let ((x ())) x)", "(let ((x 1)) ())",
		"(let ((" + strings.ReplaceAll(sixteen+" q", " ", " 1) (") + " 1)) 1)", "(let ((x 1)) (define y 1))", "(let ((x 1)) 2 (define y 1))", "(let () (define y 1) (define y 1) y)",
		"(let f)", "(let f ())", "(let f ((x 1)))", "(let f x)", "(let f x x)", "(let f ((x)) x)", "(let f ((x 1) . 2) x)", "(let f ((x 1) (x 2)) x)", "(let f ((if 1)) f)", "(let f ((1 1)) f)", "(let if ((x 1)) x)", "(let if () 1)", "(let _ () 1)", "(let f ((x ())) x)", "(let f ((x 1)) ())", "(let f () (define x 1))", "(let f g () 1)",
		"(let f ((" + strings.ReplaceAll(sixteen+" q", " ", " 1) (") + " 1)) 1)",
		"(let*)", "(let* ())", "(let* ((x 1)))", "(let* ((x 1) (y 2)))", "(let* x x)", "(let* f () 1)", "(let* f ((x 1)) x)", "(let* (x) x)", "(let* ((x 1) y) x)", "(let* ((x 1) (y)) x)", "(let* ((x 1) (y 2 3)) x)", "(let* ((x 1) (y . 2)) x)", "(let* ((x 1) (y 2) . z) x)", "(let* ((x 1) (if 2)) x)", "(let* ((if 1) (x 2)) x)", "(let* ((x 1) (2 2)) x)", "(let* ((x ())) x)", "(let* ((x 1) (y ())) x)", "(let* ((x ()) (y 1)) x)", "(let* ((x 1) (y 2)) ())", "(let* ((x 1) (y 2)) . 1)",
		"(letrec)", "(letrec ())", "(letrec ((x 1)))", "(letrec x x)", "(letrec f () 1)", "(letrec f ((x 1)) x)", "(letrec (x) x)", "(letrec ((x)) x)", "(letrec ((x 1 2)) x)", "(letrec ((x 1) . y) x)", "(letrec ((x 1) (x 2)) x)", "(letrec ((if 1)) 1)", "(letrec ((1 1)) 1)", "(letrec ((x ())) x)", "(letrec ((x 1)) ())", "(letrec ((x 1)) (define y 1))",
		"(letrec ((" + strings.ReplaceAll(sixteen+" q", " ", " 1) (") + " 1)) 1)",
		"(cond 1)", "(cond ())", "(cond a)", "(cond #(a))", "(cond (a . b))", "(cond (a b . c))", "(cond . a)", "(cond (a b) . c)", "(cond (a b) c)", "(cond (a b) ())", "(cond (else))", "(cond (a b) (else))", "(cond (else . a))", "(cond (else a) (b c))", "(cond (else a) (else b))", "(cond (a b) (else c) (d e))", "(cond (() b))", "(cond (a ()))", "(cond (a b ()))", "(cond (else ()))", "(cond (a else))", "(cond ((else a) b))", "(cond (if a))", "(cond (a (define x 1)))",
		"(and . a)", "(and a . b)", "(and ())", "(and a ())", "(and () a)", "(and if)", "(and (define x 1))",
		"(or . a)", "(or a . b)", "(or ())", "(or a ())", "(or () a)", "(or if)", "(or (define x 1))",
		"(when)", "(when a)", "(when . a)", "(when a . b)", "(when a b . c)", "(when () b)", "(when a ())", "(when a b ())", "(when a (define x 1))",
		"(unless)", "(unless a)", "(unless . a)", "(unless a . b)", "(unless a b . c)", "(unless () b)", "(unless a ())", "(unless a b ())", "(unless a (define x 1))",
		"(define-syntax)", "(define-syntax m)", "(define-syntax m 1)", "(define-syntax m x)", "(define-syntax m ())", "(define-syntax m (syntax-rules))", "(define-syntax m (syntax-rules ()) 1)", "(define-syntax m (syntax-rules ()) . 1)", "(define-syntax m . x)", "(define-syntax if (syntax-rules ()))", "(define-syntax _ (syntax-rules ()))", "(define-syntax 1 (syntax-rules ()))", "(define-syntax (m) (syntax-rules ()))", "(define-syntax m (rules ()))", "(define-syntax m (1 ()))", "(define-syntax m #(syntax-rules ()))",
		"(define-syntax m (syntax-rules x))", "(define-syntax m (syntax-rules 1))", "(define-syntax m (syntax-rules #()))", "(define-syntax m (syntax-rules (1)))", "(define-syntax m (syntax-rules (a . b)))", "(define-syntax m (syntax-rules (a (b))))", "(define-syntax m (syntax-rules () . 1))", "(define-syntax m (syntax-rules () 1))", "(define-syntax m (syntax-rules () ()))", "(define-syntax m (syntax-rules () ((_))))", "(define-syntax m (syntax-rules () ((_) 1 2)))", "(define-syntax m (syntax-rules () ((_) . 1)))", "(define-syntax m (syntax-rules () ((_) 1 . 2)))", "(define-syntax m (syntax-rules () #((_) 1)))",
		"(define-syntax m (syntax-rules () (_ 1)))", "(define-syntax m (syntax-rules () (() 1)))", "(define-syntax m (syntax-rules () (#(_) 1)))", "(define-syntax m (syntax-rules () ((_ a a) 1)))", "(define-syntax m (syntax-rules () ((_ a ...) a)))", "(define-syntax m (syntax-rules () ((_) 1) ((_ a ... b) 1)))",
	}
}

func TestWrongForms(t *testing.T) {
	for _, s := range wrongForms() {
		wantFault(t, s, 0, api.ErrSyntax)
		wantFault(t, "1 (define a 2) "+s+" ()", 2, api.ErrSyntax)
		for _, around := range []string{"(f @)", "(f a @ b)", "(@)", "(if 1 @)", "(set! a @)", "(define a @)", "(define (a) @)", "(lambda () 1 @)", "(lambda a (define b @) b)", "(begin 1 @)", "(let ((a @)) 1)", "(let () 1 @)", "(let f ((a @)) 1)", "(let f () 1 @)", "(let* ((a @) (b 1)) 1)", "(let* ((a 1) (b @)) 1)", "(letrec ((a @)) 1)", "(letrec ((a 1)) 1 @)", "(cond (1 @))", "(cond (@ 1))", "(cond (else @))", "(and @ 1)", "(or 1 @)", "(when 1 @)", "(unless 1 1 @)"} {
			if around == "(@)" && (strings.HasPrefix(s, "(") || s == "if") || s[0] != '(' && strings.Contains(around, "(@") {
				continue // what stands at a list's head is another form with it
			}
			wantFault(t, strings.Replace(around, "@", s, 1), 0, api.ErrSyntax)
		}
	}
}

// TestDefinesElsewhere: a define and a define-syntax that are right stand outside, in a begin there, at a body's beginning (a define), and nowhere else.
func TestDefinesElsewhere(t *testing.T) {
	const macro = "(define-syntax k (syntax-rules () ((_) 1)))"
	for _, around := range []string{"(f @)", "(@)", "(@ 1)", "(if 1 @)", "(if @ 1)", "(set! a @)", "(define a @)", "(begin (f @))", "(lambda () 1 @)", "(lambda () 1 @ 2)", "(lambda () (begin @) 2)", "(let ((a @)) 1)", "(let () 1 @ 1)", "(let* ((a @) (b 1)) 1)", "(let* () 1 @ 1)", "(letrec ((a @)) 1)", "(letrec () 1 @ 1)", "(let f () 1 @ 1)", "(cond (1 @))", "(cond (@))", "(cond (else @))", "(and @)", "(or @)", "(and 1 @)", "(or 1 @)", "(when 1 @)", "(unless 1 @)"} {
		for _, s := range []string{"(define x 1)", "(define (x) 1)", macro} {
			wantFault(t, strings.Replace(around, "@", s, 1), 0, api.ErrSyntax)
		}
	}
	for _, around := range []string{"(lambda () @ 1)", "(let () @ 1)", "(let* ((a 1)) @ 1)", "(letrec ((a 1)) @ 1)", "(let f () @ 1)", "(define (f) @ 1)"} {
		wantFault(t, strings.Replace(around, "@", macro, 1), 0, api.ErrSyntax)
	}
	wantCore(t, "(begin "+macro+" (k) (begin (define x (k))))", "1 (define x 1)")
	wantCore(t, macro, "")
	wantCore(t, "(begin "+macro+")", "")
	const makes = "(define-syntax d (syntax-rules () ((_ a ...) (a ...)))) "
	wantCore(t, makes+"(d begin 1 2)", "(begin 1 2)")
	wantFault(t, makes+"(d define x 1)", 1, api.ErrSyntax)
	wantFault(t, makes+"(lambda () (d define x 1) x)", 1, api.ErrSyntax)
	wantFault(t, makes+"(d define-syntax k (syntax-rules ()))", 1, api.ErrSyntax)
}

// TestFirstFault: of two parts that are wrong, each in a way of its own, the one tells its fault that stands first in what the row becomes.
func TestFirstFault(t *testing.T) {
	for _, s := range []string{
		"(@ $)", "(f @ $)", "(if @ $)", "(if @ 1 $)", "(if 1 @ $)", "(begin @ $)", "(f (begin @ $))", "(lambda () @ $)", "(lambda () (define a @) $)", "(lambda () (define a @) (define b $) 1)", "(lambda () (define (a) @) (define b $) 1)",
		"(let ((a $)) @)", "(let ((a $)) 1 @)", "(let ((a @) (b $)) 1)", "(let ((a $)) (define b @) b)", "(let f ((a $)) @)", "(let f ((a @) (b $)) 1)", "(let* ((a $)) @)", "(let* ((a 1) (b $)) @)", "(let* ((a $) (b @)) 1)", "(let* ((a $) (b 1)) @)",
		"(letrec ((a @)) $)", "(letrec ((a @) (b $)) 1)", "(cond (@ $))", "(cond (@) ($))", "(cond (1 @) ($))", "(cond (1 @) (else $))", "(cond (1 @ $))", "(cond (else @ $))", "(and @ $)", "(and 1 @ $)", "(or $ @)", "(or 1 $ @)", "(or $ 1 @)", "(when @ $)", "(when 1 @ $)", "(unless @ $)", "(unless 1 @ $)", "@ $", "(begin @) $",
		"(f (g @) $)", "(k @ $)",
	} {
		const k = noFit + "(define-syntax k (syntax-rules () ((_ a b) (f a b)))) "
		at := 2
		wantFault(t, k+strings.NewReplacer("@", "(m)", "$", "()").Replace(s), at, api.ErrMacro)
		wantFault(t, k+strings.NewReplacer("@", "()", "$", "(m)").Replace(s), at, api.ErrSyntax)
	}
	for _, s := range []string{ // a form that is not as its row says tells that ahead of its parts' faults
		"(if (m))", "(if (m) (m) (m) (m))", "(set! 1 (m))", "(set! x (m) 1)", "(define x (m) 1)", "(define if (m))", "(lambda (x x) (m))", "(lambda () (define a (m)))", "(lambda () (define a (m)) (define b) 1)", "(lambda () (define a (m)) (define a 1) 1)", "(f (m) . 1)", "(begin (m) . 1)", "(let ((a (m))))", "(let ((a (m)) (a 1)) 1)", "(let ((a (m)) (if 1)) (m))", "(let f ((a (m)) (if 1)) (m))", "(let if ((a (m))) (m))", "(let* ((a (m)) (if 1)) (m))", "(letrec ((a (m)) (a 1)) 1)", "(letrec ((a (m)) (b)) 1)", "(letrec ((a (m))))", "(cond ((m) (m)) 1)", "(cond ((m) (m)) (else))", "(cond ((m)) (else 1) (1 1))", "(and (m) . 1)", "(or (m) . 1)", "(when (m) . 1)", "(else (m))", "(define (m))", "(let 1 (m))", "(define-syntax k (m))",
	} {
		wantFault(t, noFit+s, 1, api.ErrSyntax)
	}
	wantFault(t, noFit+"(m) ()", 1, api.ErrMacro)
	wantFault(t, noFit+"() (m)", 1, api.ErrSyntax)
	wantFault(t, noFit+"1 (begin 2 (begin 3 (m)) ())", 2, api.ErrMacro)
}

func TestDataThatMayNotBe(t *testing.T) {
	for _, d := range wrongData() {
		for _, l := range [][]api.Datum{{d}, {d, list()}} {
			_, err := expand.Program(l)
			if f, ok := err.(api.Fault); !ok || f != (api.Fault{At: 0, Why: api.ErrArg}) {
				t.Errorf("%.100v: %v", d.Kind, err)
			}
		}
		for _, l := range [][]api.Datum{{num("1"), num("2"), d}} {
			core, err := expand.Program(l)
			if f, ok := err.(api.Fault); !ok || f != (api.Fault{At: 2, Why: api.ErrArg}) || len(core) > 0 {
				t.Errorf("%.100v: %v", d.Kind, err)
			}
		}
		_, err := expand.Program([]api.Datum{list(), d})
		if f, ok := err.(api.Fault); !ok || f != (api.Fault{At: 0, Why: api.ErrSyntax}) {
			t.Errorf("() ahead of %.100v: %v", d.Kind, err)
		}
	}
	for _, bad := range []api.Datum{{}, num("01"), sym("a b")} { // within a form that is wrong, too
		wantArg := func(d api.Datum) {
			if _, err := expand.Program([]api.Datum{d}); err != (api.Fault{Why: api.ErrArg}) {
				t.Errorf("%v: %v", d, err)
			}
		}
		wantArg(list(bad))
		wantArg(list(sym("if"), bad))
		wantArg(list(sym("quote"), list(bad)))
		wantArg(list(list(), bad))
	}
}

func TestNilAndEmptyAreOne(t *testing.T) {
	empty := []api.Datum{}
	for _, l := range [][]api.Datum{nil, empty} {
		if core, err := expand.Program(l); len(core) > 0 || err != nil {
			t.Errorf("a program without forms: %v, %v", core, err)
		}
	}
	l := []api.Datum{{Kind: api.DList, List: []api.Datum{{Kind: api.DSymbol, Text: "quote", List: empty, Tail: empty}, {Kind: api.DList, List: empty, Tail: empty}}, Tail: empty}}
	if core, err := expand.Program(l); err != nil || texts(core) != "(quote ())" {
		t.Errorf("%v, %v", core, err)
	}
}

// How much and how deep

// costs is forms, how often something becomes core in them, and within how many of these the innermost one is.
var costs = []struct {
	form        string
	times, deep int
}{
	{"1", 1, 0}, {"x", 1, 0}, {"#(1 2 3)", 1, 0}, {"'(a b c)", 1, 0}, {"(if a b)", 3, 1}, {"(if a b c)", 4, 1}, {"(set! x 1)", 2, 1}, {"(f)", 2, 1}, {"(f x (g))", 5, 2},
	{"(lambda (a b) 1)", 2, 1}, {"(lambda (a b) 1 2)", 3, 1}, {"(lambda () (define a 1) (define b 2) 3)", 4, 1}, {"(lambda () (define (a) 1) 3)", 4, 2},
	{"(f (begin 1))", 4, 2}, {"(f (begin 1 2))", 5, 2},
	{"(let () 1)", 2, 1}, {"(let ((a 1) (b 2)) 3 4)", 5, 1}, {"(let ((a (f))) 1)", 4, 2},
	{"(let f () 1)", 6, 4}, {"(let f ((a 1)) 2)", 7, 4},
	{"(let* () 1)", 2, 1}, {"(let* ((a 1)) 2)", 3, 1}, {"(let* ((a 1) (b 2)) 3)", 5, 2}, {"(let* ((a 1) (b 2) (c 3)) 4)", 7, 3},
	{"(letrec () 1)", 2, 1}, {"(letrec ((a 1) (b 2)) 3)", 4, 1}, {"(letrec ((a 1)) (define b 2) 3 4)", 5, 1},
	{"(cond)", 1, 0}, {"(cond (a))", 3, 1}, {"(cond (a 1))", 5, 2}, {"(cond (a 1 2))", 6, 2}, {"(cond (else 1))", 3, 2}, {"(cond (a 1) (else 2))", 7, 3}, {"(cond (a) (b) (c))", 7, 3},
	{"(and)", 1, 0}, {"(and a)", 2, 1}, {"(and a b)", 4, 2}, {"(and a b c)", 6, 3}, {"(or)", 1, 0}, {"(or a)", 2, 1}, {"(or a b)", 4, 2}, {"(or a b c)", 6, 3},
	{"(when a b)", 4, 2}, {"(when a b c)", 5, 2}, {"(unless a b)", 4, 2}, {"(unless a b c)", 5, 2},
	{"(k)", 2, 1}, {"(k k)", 3, 2}, {"(k k k)", 4, 3},
}

// k is a macro that makes one datum of the forms in costs each time, or another use of it.
const k = "(define-syntax k (syntax-rules () ((_) 1) ((_ a b ...) (a b ...)))) "

func TestHowMuch(t *testing.T) {
	padding := func(n int) string { return rep("1 ", n) }
	for _, c := range costs {
		ahead := api.MaxForms - c.times
		fits := k + padding(ahead) + c.form
		if l, err := expand.Program(read(t, fits)); err != nil || len(l) != ahead+1 {
			t.Errorf("%d times and %s: %v", ahead, c.form, err)
		}
		wantFault(t, fits+" 1", ahead+2, api.ErrFull)
		wantFault(t, k+padding(ahead+1)+c.form, ahead+2, api.ErrFull)
		wantFault(t, k+padding(api.MaxForms)+c.form, api.MaxForms+1, api.ErrFull)
	}
	// outside of all forms a begin counts, and those within it; a define and a define-syntax do not
	for form, times := range map[string]int{"(begin 1)": 2, "(begin 1 2)": 3, "(begin (begin 1) (begin 2))": 5, "(define x 1)": 1, "(define (x) 1)": 2, "(begin (define x 1))": 2, k: 0, "(begin " + k + ")": 1} {
		l := read(t, padding(api.MaxForms-times)+form)
		if _, err := expand.Program(l); err != nil {
			t.Errorf("%s: %v", form, err)
		}
		wantFaultOf(t, append(l, num("1")), len(l), api.ErrFull)
	}
	wantFault(t, padding(api.MaxForms)+"(begin)", api.MaxForms, api.ErrFull)
	wantFault(t, padding(api.MaxForms)+"()", api.MaxForms, api.ErrFull)
	wantFault(t, padding(api.MaxForms)+"(define x)", api.MaxForms, api.ErrSyntax)
	wantFault(t, padding(api.MaxForms)+"(define-syntax x)", api.MaxForms, api.ErrSyntax)
	wantFault(t, "(f "+padding(api.MaxForms-1)+")", 0, api.ErrFull)
	wantFault(t, padding(api.MaxForms-1)+"(else)", api.MaxForms-1, api.ErrSyntax)
	wantFault(t, padding(api.MaxForms-2)+"(() 1)", api.MaxForms-2, api.ErrSyntax)
}

func TestHowDeep(t *testing.T) {
	within := func(n int, form string) string { return "(and " + rep("1 ", n-1) + form + ")" } // the form is within n others
	for _, c := range costs {
		most := 199 - c.deep
		if l, err := expand.Program(read(t, k+within(most, c.form))); err != nil || len(l) != 1 {
			t.Errorf("%s within %d: %v", c.form, most, err)
		}
		wantFault(t, k+within(most+1, c.form), 1, api.ErrDeep)
		wantFault(t, k+"1 "+within(200, c.form), 2, api.ErrDeep)
	}
	wantFault(t, within(200, "()"), 0, api.ErrDeep)
	wantFault(t, within(199, "()"), 0, api.ErrSyntax)
	wantFault(t, within(199, "(else)"), 0, api.ErrSyntax)
	wantFault(t, "(and "+rep("1 ", 100000)+")", 0, api.ErrDeep)
	wantFault(t, "(or "+rep("1 ", 100000)+")", 0, api.ErrDeep)
	wantFault(t, "(cond "+rep("(1 1) ", 100000)+")", 0, api.ErrDeep)
	wantFault(t, "(let* ("+rep("(a 1) ", 100000)+") 1)", 0, api.ErrDeep)
	// both at once: how much is asked first
	ahead := rep("1 ", api.MaxForms-400)
	wantFault(t, ahead+within(200, "1"), api.MaxForms-400, api.ErrDeep)
	wantFault(t, ahead+"1 "+within(200, "1"), api.MaxForms-399, api.ErrFull)
}

// TestBeginsOutsideAreDeep: what stands in a begin outside of all forms is within it, a define's and a define-syntax's parts are not within these.
func TestBeginsOutsideAreDeep(t *testing.T) {
	within := func(n int) string { return "(and " + rep("1 ", n) + ")" } // the innermost is within n others
	for around, deep := range map[string]int{"@": 0, "(begin @)": 1, "(begin 1 (begin 2 @))": 2, "(define x @)": 0, "(begin (define x @))": 1, "(define (x) @)": 1} {
		at := func(n int) string { return strings.Replace(around, "@", within(n), 1) }
		if _, err := expand.Program(read(t, at(199-deep))); err != nil {
			t.Errorf("%s: %v", around, err)
		}
		wantFault(t, at(200-deep), 0, api.ErrDeep)
	}
}

// Macros

func TestMacros(t *testing.T) {
	for _, c := range [][2]string{
		{"(define-syntax m (syntax-rules () ((_ a b ...) (list b ... a)))) (m 1 2 3)", "(list 2 3 1)"},
		{"(define-syntax swap (syntax-rules () ((_ a b) (let ((tmp a)) (set! a b) (set! b tmp))))) (swap x y)", "((lambda (tmp) (begin (set! x y) (set! y tmp))) x)"},
		{"(define-syntax swap (syntax-rules () ((_ a b) (let ((tmp a)) (set! a b) (set! b tmp))))) (swap tmp y)", "((lambda (tmp) (begin (set! tmp y) (set! y tmp))) tmp)"},
		{"(define-syntax m (syntax-rules () ((_) 0) ((_ a) (list a)) ((_ a b) (m a)))) (m) (m 1) (m 1 2)", "0 (list 1) (list 1)"},
		{"(define-syntax m (syntax-rules () ((_ a ...) 1) ((_) 2))) (m)", "1"},
		{"(define-syntax m (syntax-rules (else) ((_ else a) (quote a)) ((_ b a) (b a)))) (m else x) (m f x)", "(quote x) (f x)"},
		{"(define-syntax while (syntax-rules () ((_ c b ...) (let loop () (when c b ... (loop)))))) (while x y)", "(((lambda (loop) (begin (set! loop (lambda () (if x (begin y (loop)) (quote ())))) loop)) #f))"},
		{"(define-syntax m (syntax-rules () ((_ a) a))) m (f m) (set! m 1) (define m 2) (m 3)", "m (f m) (set! m 1) (define m 2) 3"},
		{"(define-syntax m (syntax-rules () ((_ a) a))) (lambda (m) (m 1)) (let ((m 2)) (m 3)) (lambda () (define m 4) (m 5))", "(lambda (m) 1) ((lambda (m) 3) 2) (lambda () ((lambda (m) (begin (set! m 4) 5)) #f))"},
		{"(m 1) (define-syntax m (syntax-rules () ((_ a) (g a)))) (m 1) (define-syntax m (syntax-rules () ((_ a) (h a)))) (m 1)", "(m 1) (g 1) (h 1)"},
		{"(define (f) (m 1)) (define-syntax m (syntax-rules () ((_ a) a))) (define (f) (m 1))", "(define f (lambda () (m 1))) (define f (lambda () 1))"},
		{"(define-syntax m (syntax-rules () ((_ a) '(a m)))) (m (m 1)) '(m 1) ((m f) 1)", "(quote ((m 1) m)) (quote (m 1)) ((quote (f m)) 1)"},
		{"(define-syntax m (syntax-rules () ((_ if) (list if)))) (m 1)", "(list 1)"},
		{"(define-syntax m (syntax-rules () ((_ . r) (list . r)))) (m) (m 1 2)", "(list) (list 1 2)"},
		{"(define-syntax m (syntax-rules () ((_ #(a ...)) (list a ...)))) (m #(1 2))", "(list 1 2)"},
		{"(define-syntax m (syntax-rules () ((_ (n a) ...) (let ((n a) ...) n ...)))) (m (x 1) (y 2))", "((lambda (x y) (begin x y)) 1 2)"},
		{"(define-syntax my-or (syntax-rules () ((_) #f) ((_ a) a) ((_ a b ...) (let ((t a)) (if t t (my-or b ...)))))) (my-or x y z)", "((lambda (t) (if t t ((lambda (t) (if t t z)) y))) x)"},
		{"(define-syntax m (syntax-rules () ((_ a) (begin a a)))) (lambda () (m 1))", "(lambda () (begin 1 1))"},
	} {
		wantCore(t, c[0], c[1])
	}
	wantFault(t, noFit+"(m)", 1, api.ErrMacro)
	wantFault(t, noFit+"(m 1)", 1, api.ErrMacro)
	wantFault(t, noFit+"1 (f (m 1 2 3))", 2, api.ErrMacro)
	wantFault(t, "(define-syntax m (syntax-rules ())) (m)", 1, api.ErrMacro)
	wantFault(t, noFit+"(m 1 . 2)", 1, api.ErrSyntax)
	wantFault(t, noFit+"(m . 2)", 1, api.ErrSyntax)
	wantFault(t, "(define-syntax m (syntax-rules () ((_ . r) 1))) (m 1 . 2)", 1, api.ErrSyntax)
	wantFault(t, "(define-syntax m (syntax-rules () ((_ a) (a . 1)))) (m f)", 1, api.ErrSyntax)
	wantFault(t, "(define-syntax m (syntax-rules () ((_ a) (if)))) (m 1)", 1, api.ErrSyntax)
	wantFault(t, "(define-syntax m (syntax-rules () ((_ a) ()))) (m 1)", 1, api.ErrSyntax)
	wantFault(t, "(define-syntax m (syntax-rules () ((_ a) else))) (m 1)", 1, api.ErrSyntax)
	wantFault(t, "(define-syntax m (syntax-rules () ((_ (a ...) (b ...)) '((a b) ...)))) (m (1) (2)) (m (1 2) (3))", 2, api.ErrSyntax)
	wantFault(t, "(define-syntax m (syntax-rules () ((_) (m)))) 1 (m)", 2, api.ErrDeep)
	wantFault(t, "(define-syntax m (syntax-rules () ((_ a ...) (m 1 a ...)))) (m)", 1, api.ErrFull)
	wantFault(t, "(define-syntax m (syntax-rules () ((_) (f (m) (m))))) (m)", 1, api.ErrDeep)
	wantFault(t, "(define-syntax m (syntax-rules () ((_ a) (m (a a))))) (m 1)", 1, api.ErrFull)
	wantFault(t, "(define-syntax m (syntax-rules () ((_ a) (m (a))))) (m 1)", 1, api.ErrDeep)
}

// TestHowMuchMacrosMake: of all that macros make the data are counted, in all of the program.
func TestHowMuchMacrosMake(t *testing.T) {
	const macro = "(define-syntax m (syntax-rules () ((_ a ...) '(a ...)))) " // of n parts it makes n + 3 data
	hundred := "(m " + rep("x ", 97) + ") "
	if l, err := expand.Program(read(t, macro+rep(hundred, 100))); err != nil || len(l) != 100 {
		t.Errorf("MaxForms data: %v", err)
	}
	wantFault(t, macro+rep(hundred, 100)+"(m)", 101, api.ErrFull)
	wantFault(t, macro+rep(hundred, 99)+"(m "+rep("x ", 98)+")", 100, api.ErrFull)
	wantFault(t, macro+rep(hundred, 99)+"(m "+rep("x ", 98)+") ()", 100, api.ErrFull)
	wantFault(t, macro+"(f "+rep(hundred, 101)+")", 1, api.ErrFull)
	if _, err := expand.Program(read(t, macro+"(m "+rep("x ", api.MaxForms-3)+")")); err != nil {
		t.Errorf("MaxForms data at once: %v", err)
	}
	wantFault(t, macro+"(m "+rep("x ", api.MaxForms-2)+")", 1, api.ErrFull)
	if _, err := expand.Program(read(t, macro+rep(hundred, 100)+rep("1 ", api.MaxForms-200)+hundred)); err == nil {
		t.Errorf("data count behind other forms, too")
	}
	const noFull = "(define-syntax n (syntax-rules () ((_ a) a))) "
	if _, err := expand.Program(read(t, noFull+rep("(n 1) ", 5000))); err != nil {
		t.Errorf("5000 uses: %v", err)
	}
}

func TestHowDeepAMacroMakes(t *testing.T) {
	const macro = "(define-syntax m (syntax-rules () ((_ a) '(a)))) " // one deeper than ((m a))
	deep := func(n int) string { return rep("(", n) + rep(")", n) }
	wantCore(t, macro+"(m "+deep(62)+")", "(quote ("+deep(62)+"))")
	wantFault(t, macro+"(m "+deep(63)+")", 1, api.ErrDeep)
	wantFault(t, macro+"1 (f (m "+deep(62)+")) (g (m "+deep(62)+")) ()", 4, api.ErrSyntax)
	// what is too deep has no data that could be too many
	const wide = "(define-syntax w (syntax-rules () ((_ a ...) '(a ...)))) "
	wantFault(t, macro+wide+"(w "+rep("x ", 9990)+") (m "+deep(63)+")", 3, api.ErrDeep)
}

// TestForms of the whole: a cond, an or and a let* whose core is deeper than what can be read.
func TestDeepCore(t *testing.T) {
	for _, s := range []string{"(or " + rep("a ", 100) + ")", "(cond " + rep("(a b) ", 100) + ")", "(let* (" + rep("(a b) ", 100) + ") c)"} {
		l, err := expand.Program(read(t, s))
		if err != nil || len(l) != 1 || datum.Can(l[0]) {
			t.Errorf("%.30s ..: %v", s, err)
		}
	}
	want := "c"
	for range 100 {
		want = "((lambda (a) " + want + ") b)"
	}
	wantCore(t, "(let* ("+rep("(a b) ", 100)+") c)", want)
}

// P11.2

func TestKeyword(t *testing.T) {
	own := strings.Fields("quote if set! define lambda begin let let* letrec cond else and or when unless define-syntax syntax-rules ... _")
	for _, s := range own {
		if !expand.Keyword(s) {
			t.Errorf("%s is an own name", s)
		}
		for _, n := range []string{s + s, s + " ", strings.ToUpper(s), s[1:], s + "x", " " + s} {
			if !slices.Contains(own, n) && expand.Keyword(n) {
				t.Errorf("%q is no own name", n)
			}
		}
	}
	for _, s := range []string{"", ".", "..", "=>", "list", "%or", "x", "do", "case", "delay", "define-record-type", "let-syntax", "letrec*", "set", "let**", "call/cc", "quasiquote", "\x00", "1"} {
		if expand.Keyword(s) {
			t.Errorf("%q is no own name", s)
		}
	}
}

// Memory

const whole = `5 "a" x #(1 #(2) (3 . 4)) '(a (b . c) #(d)) (if a b) (set! x 1) (define x '(1)) (define (f a . r) (define b 1) (define (c . d) d) b c)
	(lambda (a b . c) a) (lambda a a) (let ((x 1) (y 2)) x y) (let f ((x 1) (y '(2))) (f x y)) (let* ((x 1) (y 2) (z 3)) '(x)) (letrec ((f 1) (g 2)) f g)
	(cond (a) (b c d) (else e f)) (and 1 2 3) (or 1 2 3) (when a b c) (unless a b c) (begin 1 (begin 2 '(3)))
	(define-syntax m (syntax-rules (l) ((_ l a) '(a a a (x . a) #(a) . a)) ((_ a ...) '(a ... (a . 1) ... #(a ...) (q w))))) (m l (1 (2) . 3)) (m l (1 2)) (m (1) (2)) (m) (m l 5)`

func TestProgramAnswersNewMemory(t *testing.T) {
	given := roomy(read(t, whole))
	before := noted(given)
	core, err := expand.Program(given)
	if err != nil {
		t.Fatal(err)
	}
	wantNewMemory(t, whole, core, given)
	again, _ := expand.Program(given)
	wantNewMemory(t, whole, again, given, core)
	if noted(given) != before || texts(core) != texts(again) {
		t.Error("what was handed in has changed")
	}
}
