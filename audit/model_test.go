package audit_test

import (
	"bytes"
	"fmt"
	"testing"

	"rostrum/api"
	"rostrum/audit"
	"rostrum/code"
	"rostrum/vm"
)

// P24.1

// TestExample is the chapter's.
func TestExample(t *testing.T) {
	m := audit.New()
	wantModel(t, "new", m, 0)
	wantReply(t, m, running("a", "(root-set! (quote x) 1)"), doneWith("a", "#!void"))
	wantReply(t, m, running("b", "(root-ref (quote x))"), doneWith("b", "1"))
	wantModel(t, "at the end", m, 0, "x=1")
}

func TestReplies(t *testing.T) {
	for text, r := range map[string]api.Reply{
		"":                                   doneWith("q", "()"),
		"(+ 1 2)":                            doneWith("q", "3"),
		"1 2 \"b\"":                          doneWith("q", "\"b\""),
		"(car 5)":                            failedWith("q", api.ErrType),
		"(error \"no\")":                     failedWith("q", api.ErrUser),
		"(f)":                                failedWith("q", api.ErrUnbound),
		"(5)":                                failedWith("q", api.ErrProc),
		"(car)":                              failedWith("q", api.ErrCount),
		"(vector-ref (vector 1) 1)":          failedWith("q", api.ErrIndex),
		"(quotient 1 0)":                     failedWith("q", api.ErrZero),
		"(root-ref 'x)":                      doneWith("q", "#f"),
		"(root-ref 'abcdefghijk)":            doneWith("q", "#f"),
		"(root-ref 'abcdefghijkl)":           failedWith("q", api.ErrType),
		"(root-set! 'abcdefghijkl 1)":        failedWith("q", api.ErrType),
		"(call/cc (lambda (k) (+ 1 (k 5))))": doneWith("q", "5"),
		"(define (f) (f)) (f)":               failedWith("q", api.ErrFuel),
		"(define (f l) (f (cons (make-vector 1000 0) l))) (f '())": failedWith("q", api.ErrMemory),
		"(+ 1 (suspend 7))":           suspendedWith("q", 1, "7"),
		"(":                           failedWith("q", api.ErrRead),
		")":                           failedWith("q", api.ErrRead),
		rep("(", 65) + rep(")", 65):   failedWith("q", api.ErrDeep),
		rep("9", 201):                 failedWith("q", api.ErrBig),
		"(if)":                        failedWith("q", api.ErrSyntax),
		"(or" + rep(" a", 30) + ")":   failedWith("q", api.ErrArg),
		"(root-set! 'x 1) (car 5)":    failedWith("q", api.ErrType),
		"(suspend (make-vector 3 1))": suspendedWith("q", 1, "#(1 1 1)"),
		"(define-syntax m (syntax-rules () ((_ 1) 1))) (m 2)":                  failedWith("q", api.ErrMacro),
		"(root-set! 'a 1) (root-set! 'b (list 2 (root-ref 'a))) (root-ref 'b)": doneWith("q", "(2 1)"),
	} {
		wantReply(t, audit.New(), running("q", text), r)
	}
}

// TestEdgesOfRequests: the longest text and names, the last session.
func TestEdgesOfRequests(t *testing.T) {
	m := audit.New()
	wantReply(t, m, running("Ab345678", "5"+rep(" ", api.MaxText-1)), doneWith("Ab345678", "5"))
	wantReply(t, m, running("0", ""), doneWith("0", "()"))
	wantReply(t, m, resuming("a", 9999, "1"), failedWith("a", api.ErrSession))
}

// TestWhatMayNotBe: such a request is refused, and changes nothing.
func TestWhatMayNotBe(t *testing.T) {
	m := audit.New()
	wantReply(t, m, running("a", "(root-set! 'x 1) (suspend 2)"), suspendedWith("a", 1, "2"))
	for _, r := range []api.Request{
		{},
		running("", "(root-set! 'x 2)"),
		running("123456789", "(root-set! 'x 2)"),
		running("a-b", "(root-set! 'x 2)"),
		running("\xc3\xa4", "1"),
		running("q", "(root-set! 'x 2)"+rep(" ", api.MaxText)),
		{ID: "q", Kind: api.AskRun, Session: 1, Text: "(suspend 1)"},
		{ID: "q", Kind: api.AskRun, Session: -1, Text: "(suspend 1)"},
		{ID: "q", Kind: 0, Text: "(suspend 1)"},
		{ID: "q", Kind: 3, Text: "(suspend 1)"},
		{ID: "q", Kind: -1, Text: "(suspend 1)"},
		resuming("q", 0, "1"),
		resuming("q", -1, "1"),
		resuming("q", 10000, "1"),
		resuming("", 1, "1"),
		resuming("q", 1, "1"+rep(" ", api.MaxText)),
	} {
		if p, e := m.Do(r); p != (api.Reply{}) || e != api.ErrArg {
			t.Errorf("%.100s: %v, %v", fmt.Sprint(r), p, e)
		}
	}
	wantModel(t, "behind what was refused", m, 1, "x=1")
}

// TestRoots: what a request put is there for those behind it, if it is done or suspended, and for nobody, if it failed.
func TestRoots(t *testing.T) {
	m := audit.New()
	wantReply(t, m, running("a", "(root-set! 'x 1) (root-set! 'y '(1 \"b\"))"), doneWith("a", "#!void"))
	wantModel(t, "done", m, 0, "x=1", "y=(1 \"b\")")
	wantReply(t, m, running("b", "(root-set! 'x 2) (root-set! 'z 3) (list (root-ref 'x) (root-ref 'y) (root-ref 'z))"), doneWith("b", "(2 (1 \"b\") 3)"))
	wantReply(t, m, running("c", "(root-set! 'x 5) (root-set! 'w 6) (car (root-ref 'x))"), failedWith("c", api.ErrType))
	wantReply(t, m, running("d", "(root-set! 'x 5) (root-set! 'w 6) (define (f) (f)) (f)"), failedWith("d", api.ErrFuel))
	wantModel(t, "failed", m, 0, "x=2", "y=(1 \"b\")", "z=3")
	wantReply(t, m, running("e", "(root-set! 'A 1) (root-set! 'x (suspend (root-ref 'x))) (root-ref 'x)"), suspendedWith("e", 1, "2"))
	wantModel(t, "suspended", m, 1, "A=1", "x=2", "y=(1 \"b\")", "z=3")
	wantReply(t, m, resuming("f", 1, "(q)"), doneWith("f", "(q)"))
	wantReply(t, m, running("g", "(root-ref 'x)"), doneWith("g", "(q)"))
	wantModel(t, "resumed", m, 1, "A=1", "x=(q)", "y=(1 \"b\")", "z=3")
}

// TestSessions: each is resumed as often as one likes; they are numbered as they come; one that failed is none.
func TestSessions(t *testing.T) {
	m := audit.New()
	wantReply(t, m, running("a", "(+ 1 (suspend 7))"), suspendedWith("a", 1, "7"))
	wantReply(t, m, running("b", "(define k 10) (set! k (+ k (suspend 'b))) (root-set! 'x k) (+ k (suspend k))"), suspendedWith("b", 2, "b"))
	wantReply(t, m, resuming("c", 1, "4"), doneWith("c", "5"))
	wantReply(t, m, resuming("d", 1, " 10 ; ten"), doneWith("d", "11"))
	wantReply(t, m, resuming("e", 1, "x"), failedWith("e", api.ErrType))
	wantReply(t, m, resuming("f", 2, "5"), suspendedWith("f", 3, "15"))
	wantModel(t, "f", m, 3, "x=15")
	wantReply(t, m, resuming("g", 2, "6"), suspendedWith("g", 4, "16"))
	wantReply(t, m, resuming("h", 3, "100"), doneWith("h", "115"))
	wantReply(t, m, resuming("i", 4, "100"), doneWith("i", "116"))
	wantReply(t, m, resuming("j", 5, "100"), failedWith("j", api.ErrSession))
	wantReply(t, m, resuming("k", 5, ")"), failedWith("k", api.ErrSession))
	for _, text := range []string{")", "", "1 2", "(", "; 1"} {
		wantReply(t, m, resuming("l", 1, text), failedWith("l", api.ErrRead))
	}
	wantReply(t, m, resuming("m", 1, rep("'", 65)+"a"), failedWith("m", api.ErrDeep))
	wantReply(t, m, resuming("n", 1, rep("9", 201)), failedWith("n", api.ErrBig))
	wantModel(t, "at the end", m, 4, "x=16")
}

// TestFuel: just so much, anew for each request, also for one that resumes.
func TestFuel(t *testing.T) {
	fits, beyond := lasting(t, fuel), lasting(t, fuel+1)
	if m := machine(t, fits); m.State() != api.Done || m.Used() != fuel || machine(t, beyond).Used() != fuel+1 {
		t.Fatalf("state %d, used %d", m.State(), m.Used())
	}
	m := audit.New()
	wantReply(t, m, running("a", fits), doneWith("a", machine(t, fits).Value()))
	wantReply(t, m, running("b", beyond), failedWith("b", api.ErrFuel))
	wantReply(t, m, running("c", "(define s (suspend 1)) "+lasting(t, fuel-10)), suspendedWith("c", 1, "1"))
	wantReply(t, m, resuming("d", 1, "1"), doneWith("d", machine(t, lasting(t, fuel-10)).Value()))
	wantReply(t, m, running("e", lasting(t, fuel-10)+"(suspend 1) "+lasting(t, fuel-10)), suspendedWith("e", 2, "1"))
	wantReply(t, m, resuming("f", 2, "1"), doneWith("f", machine(t, lasting(t, fuel-10)).Value()))
	wantReply(t, m, running("g", "(suspend 1) "+lasting(t, fuel+10)), suspendedWith("g", 3, "1"))
	wantReply(t, m, resuming("h", 3, "1"), failedWith("h", api.ErrFuel))
}

// TestLongTexts: of a value the first 1000 bytes are told.
func TestLongTexts(t *testing.T) {
	m := audit.New()
	for _, n := range []int{997, 998, 999, 1100} {
		shown := "\"" + rep("x", n) + "\""
		shown = shown[:min(len(shown), 1000)]
		wantReply(t, m, running("a", "\""+rep("x", n)+"\""), doneWith("a", shown))
		wantReply(t, m, running("a", "(suspend \""+rep("x", n)+"\")"), suspendedWith("a", m.Sessions()+1, shown))
	}
}

// filling is a program that sets a root to a string of so many bytes.
func filling(name string, n int) string {
	text := "(define s \"" + rep("x", n%100) + "\") (define (f n) (if (= n 0) 0 (begin (set! s (string-append s \"" + rep("y", 100) + "\")) (f (- n 1)))))"
	return text + fmt.Sprintf("(f %d) (root-set! '%s s)", n/100, name)
}

func TestRootThatIsTooGreat(t *testing.T) {
	around := len(value(t, `"`+rep("x", 1000)+`"`)) - 1000
	m := audit.New()
	wantReply(t, m, running("a", filling("x", api.MaxBytes-around)), doneWith("a", "#!void"))
	if l := m.Roots(); len(l) != 1 || l[0].Name != "x" || len(l[0].Bytes) != api.MaxBytes {
		t.Fatalf("roots %v", l)
	}
	wantReply(t, m, running("b", "(root-set! 'x 1)"), doneWith("b", "#!void"))
	for i, text := range []string{"(root-set! 'x 2)", "(root-set! 'a 2)", "(root-set! 'z 2)", "(root-set! 'x 2) (suspend 1)"} {
		id := fmt.Sprint("c", i)
		wantReply(t, m, running(id, filling("y", api.MaxBytes-around+1)+text), failedWith(id, api.ErrFull))
		wantModel(t, text, m, 0, "x=1")
	}
	wantReply(t, m, running("d", filling("y", api.MaxBytes-around+1)+"(root-set! 'y 3)"), doneWith("d", "#!void"))
	wantReply(t, m, running("e", filling("y", api.MaxBytes-around+1)+"(car 5)"), failedWith("e", api.ErrType))
	wantModel(t, "what was put last counts", m, 0, "x=1", "y=3")
}

// great is a program whose session has just so many bytes, nearly all of them in 14 strings.
func great(t *testing.T, size int) string {
	t.Helper()
	const text = "(define (g s n) (if (= n 0) s (g (string-append s s) (- n 1)))) (define (h s n) (if (= n 0) '() (cons (g s 7) (h s (- n 1))))) (define l (list (h \"0123456789012345678901234567890\" 7) (h \"012345678901234567890123456789\" 7))) \"%s\" (suspend 1)"
	short := len(saved(t, fmt.Sprintf(text, rep("x", 200))))
	s := fmt.Sprintf(text, rep("x", 200+size-short))
	if n := len(saved(t, s)); n != size || len(s) > 1000 {
		t.Fatalf("a session of %d bytes, want %d; a text of %d", n, size, len(s))
	}
	return s
}

func TestSessionThatIsTooGreat(t *testing.T) {
	m := audit.New()
	wantReply(t, m, running("a", great(t, 40*1400)), suspendedWith("a", 1, "1"))
	wantReply(t, m, running("b", great(t, 40*1400+1)), failedWith("b", api.ErrFull))
	wantReply(t, m, running("b", "(root-set! 'x 1)"+great(t, 40*1400+1)), failedWith("b", api.ErrFull))
	wantModel(t, "too great", m, 1)
	wantReply(t, m, resuming("c", 1, "5"), doneWith("c", "5"))
	wantReply(t, m, running("d", "(suspend 2)"), suspendedWith("d", 2, "2"))
}

func TestLastSession(t *testing.T) {
	m := audit.New()
	for i := 1; i <= 9999; i++ {
		wantReply(t, m, running("a", "(suspend 1)"), suspendedWith("a", i, "1"))
	}
	wantReply(t, m, running("b", "(root-set! 'x 1) (suspend 1)"), failedWith("b", api.ErrFull))
	wantReply(t, m, resuming("c", 9999, "5"), doneWith("c", "5"))
	wantReply(t, m, running("d", "(root-set! 'y 1)"), doneWith("d", "#!void"))
	wantModel(t, "at the end", m, 9999, "y=1")
}

// TestSaveFails: the error of a machine that can't be saved is the request's. This one has all its room full when it is suspended.
func TestSaveFails(t *testing.T) {
	full := func(cells int) string {
		text := "(define (f n l) (if (= n 0) l (f (- n 1) (cons (make-vector 990 0) l)))) (define l (f 42 '()))"
		return text + fmt.Sprintf("(define m (make-vector %d 0)) (suspend 1)", cells)
	}
	text := full(young - machine(t, full(0)).Heap().Counts().Young)
	x := machine(t, text)
	_, e := x.Save()
	if x.State() != api.Suspended || e != api.ErrMemory {
		t.Fatalf("state %d, %v", x.State(), e)
	}
	m := audit.New()
	wantReply(t, m, running("a", text), failedWith("a", api.ErrMemory))
	wantModel(t, "not saved", m, 0)
}

// crowded is a program that keeps so many great vectors and one of so many fields, and then makes others that it does not keep.
func crowded(vectors, fields int) string {
	text := "(define (f n l) (if (= n 0) l (f (- n 1) (cons (make-vector 990 0) l)))) (define l (f %d '())) (define m (make-vector %d 0))"
	return fmt.Sprintf(text+"(define (g n) (if (= n 0) 0 (begin (make-vector 990 0) (g (- n 1))))) (g 12)", vectors, fields)
}

// firstTooMany is how many fields are too many for a heap, of those from a count on.
func firstTooMany(t *testing.T, vectors, from, young, old int) int {
	t.Helper()
	for n := from; n < 1000; n++ {
		c, err := code.Source(crowded(vectors, n))
		if err != nil {
			t.Fatal(err)
		}
		m, e := vm.New(c, young, old)
		want(t, "vm.New", e, api.OK)
		if m.Run(fuel, nil) == api.Failed {
			return n
		}
	}
	return 1000
}

// TestRoom: a machine has room for 4000 young cells and for 40000 old ones, and not for one more. (One of these programs fills the young ones, the other one the old ones.)
func TestRoom(t *testing.T) {
	for vectors, from := range map[int]int{39: 850, 40: 150} {
		n := firstTooMany(t, vectors, from, young, old)
		less, more := firstTooMany(t, vectors, from, young-1, old-1), firstTooMany(t, vectors, from, young+1, old+1)
		if less != n-1 || more != n+1 {
			t.Fatalf("%d, with less room %d, with more %d", n, less, more)
		}
		wantReply(t, audit.New(), running("a", crowded(vectors, n-1)), doneWith("a", "0"))
		wantReply(t, audit.New(), running("a", crowded(vectors, n)), failedWith("a", api.ErrMemory))
	}
}

// TestPlainModels: nil, and one that no call made.
func TestPlainModels(t *testing.T) {
	for _, m := range []*audit.Model{nil, {}} {
		for _, r := range []api.Request{running("a", "5"), running("b", "(suspend 1)"), {}} {
			if p, e := m.Do(r); p != (api.Reply{}) || e != api.ErrNil {
				t.Errorf("Do: %v, %v", p, e)
			}
		}
		if l, n := m.Roots(), m.Sessions(); len(l) > 0 || n != 0 {
			t.Errorf("roots %v, %d sessions", l, n)
		}
	}
}

// TestRootsAreNew: what is done with the roots that were told changes none of the model's.
func TestRootsAreNew(t *testing.T) {
	m := audit.New()
	wantReply(t, m, running("a", "(root-set! 'x 1) (root-set! 'y 2)"), doneWith("a", "#!void"))
	for range 2 {
		l := m.Roots()
		for i := range l {
			b := l[i].Bytes[:cap(l[i].Bytes)]
			copy(b, bytes.Repeat([]byte{'!'}, len(b)))
			l[i].Name = "z"
		}
		wantModel(t, "spoilt", m, 0, "x=1", "y=2")
	}
	wantReply(t, m, running("b", "(list (root-ref 'x) (root-ref 'y))"), doneWith("b", "(1 2)"))
}

// TestModelsApart: two models have nothing in common.
func TestModelsApart(t *testing.T) {
	a, b := audit.New(), audit.New()
	wantReply(t, a, running("a", "(root-set! 'x 1) (suspend 1)"), suspendedWith("a", 1, "1"))
	wantModel(t, "the other one", b, 0)
	wantReply(t, b, resuming("b", 1, "1"), failedWith("b", api.ErrSession))
	wantReply(t, b, running("c", "(root-ref 'x)"), doneWith("c", "#f"))
	wantModel(t, "the first one", a, 1, "x=1")
}
