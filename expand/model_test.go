package expand_test

import (
	"math/rand"
	"strings"
	"testing"

	"rostrum/api"
	"rostrum/datum"
	"rostrum/expand"
)

// A second expander, made in another way: each derived form is a rule that Match uses, and only the core is code. It knows no limits but MaxParams, and one fault.

// modelRules is for each derived form what it is short for. (%body b ...) is a body that stands as a form, (%no n) is #f.
const modelRules = `
	(let (_ ((n a) ...) b ...) ((lambda (n ...) b ...) a ...))
	(let (_ f ((n a) ...) b ...) ((letrec ((f (lambda (n ...) b ...))) f) a ...))
	(let* (_ () b ...) (let () b ...))
	(let* (_ (p) b ...) (%only-pair p (let (p) b ...)))
	(let* (_ (p q ...) b ...) (%only-pair p (let (p) (let* (q ...) b ...))))
	(letrec (_ () b ...) (let () b ...))
	(letrec (_ ((n a) ...) b ...) ((lambda (n ...) (set! n a) ... (%body b ...)) (%no n) ...))
	(cond (_) (quote ()))
	(cond (_ (else b ...)) (begin b ...))
	(cond (_ (else . r) . more) (if))
	(cond (_ (a) c ...) (if a #t (cond c ...)))
	(cond (_ (a b ...) c ...) (if a (begin b ...) (cond c ...)))
	(and (_) #t)
	(and (_ a) a)
	(and (_ a b ...) (if a (and b ...) #f))
	(or (_) #f)
	(or (_ a) a)
	(or (_ a b ...) ((lambda (%or) (if %or %or (or b ...))) a))
	(when (_ a b ...) (if a (begin b ...) (quote ())))
	(unless (_ a b ...) (if a (quote ()) (begin b ...)))
	(if (_ a b) (if a b (quote ())))`

type modelRule struct {
	pattern, template api.Datum
	literals          []string
}

type model struct {
	rules  map[string][]modelRule
	macros map[string][]modelRule
}

func newModel(t *testing.T) *model {
	m := &model{rules: map[string][]modelRule{}, macros: map[string][]modelRule{}}
	for _, d := range read(t, modelRules) {
		name := d.List[0].Text
		m.rules[name] = append(m.rules[name], modelRule{d.List[1], d.List[2], []string{"else"}})
	}
	return m
}

// wrong is the panic of the model: a form that is not as it should be.
type wrong struct{ why api.Errno }

func refuse(why api.Errno) api.Datum { panic(wrong{why}) }

func (m *model) must(ok bool) {
	if !ok {
		refuse(api.ErrSyntax)
	}
}

// program is a program's core, or a fault.
func (m *model) program(l []api.Datum) (core []api.Datum, fault api.Fault) {
	at := 0
	defer func() {
		switch w := recover().(type) {
		case nil:
		case wrong:
			core, fault = nil, api.Fault{At: at, Why: w.why}
		default:
			panic(w)
		}
	}()
	for i, d := range l {
		at = i
		core = append(core, m.outside(d)...)
	}
	return core, api.Fault{}
}

func head(d api.Datum) string {
	if d.Kind == api.DList && len(d.List) > 0 && d.List[0].Kind == api.DSymbol {
		return d.List[0].Text
	}
	return ""
}

func (m *model) outside(d api.Datum) []api.Datum {
	switch head(d) {
	case "begin":
		m.must(len(d.Tail) == 0 && len(d.List) > 1)
		var core []api.Datum
		for _, p := range d.List[1:] {
			core = append(core, m.outside(p)...)
		}
		return core
	case "define":
		n, v := m.define(d)
		return []api.Datum{list(sym("define"), n, m.form(v))}
	case "define-syntax":
		m.must(len(d.List) == 3) // those that the maker makes are right, or empty
		var l []modelRule
		for _, r := range d.List[2].List[2:] {
			l = append(l, modelRule{r.List[0], r.List[1], strings.Fields(strings.Trim(text(d.List[2].List[1]), "()"))})
		}
		m.macros[d.List[1].Text] = l
		return nil
	}
	return []api.Datum{m.form(d)}
}

// define is the name and the value of one.
func (m *model) define(d api.Datum) (api.Datum, api.Datum) {
	if full, ok, _ := expand.Match(list(sym("_"), dotted(sym("f"), sym("n")), sym("b"), sym("...")), list(sym("define"), sym("n"), list(sym("lambda"), sym("f"), sym("b"), sym("..."))), d, nil); ok {
		d = full
	}
	m.must(len(d.Tail) == 0 && len(d.List) == 3)
	m.name(d.List[1])
	return d.List[1], d.List[2]
}

func (m *model) name(d api.Datum) {
	m.must(d.Kind == api.DSymbol && !expand.Keyword(d.Text))
}

func (m *model) forms(l []api.Datum) []api.Datum {
	var core []api.Datum
	for _, d := range l {
		core = append(core, m.form(d))
	}
	return core
}

func (m *model) form(d api.Datum) api.Datum {
	switch {
	case d.Kind == api.DVector:
		return list(sym("quote"), d)
	case d.Kind == api.DSymbol:
		m.name(d)
		return d
	case d.Kind != api.DList:
		return d
	}
	m.must(len(d.List) > 0 && len(d.Tail) == 0)
	parts := d.List[1:]
	switch name := head(d); {
	case name == "quote":
		m.must(len(parts) == 1)
		return d
	case name == "if" && len(parts) == 3:
		return list(append([]api.Datum{sym("if")}, m.forms(parts)...)...)
	case name == "set!":
		m.must(len(parts) == 2)
		m.name(parts[0])
		return list(sym("set!"), parts[0], m.form(parts[1]))
	case name == "lambda":
		return m.lambda(parts)
	case name == "begin" && len(parts) == 1:
		return m.form(parts[0])
	case name == "begin":
		m.must(len(parts) > 0)
		return list(append([]api.Datum{sym("begin")}, m.forms(parts)...)...)
	case name == "%body":
		return m.body(parts)
	case name == "%no":
		return api.Datum{Kind: api.DBool, Text: "#f"}
	case name == "%only-pair": // a let* has no name ahead
		m.must(parts[0].Kind == api.DList)
		return m.form(parts[1])
	case m.rules[name] != nil:
		return m.rewritten(m.rules[name], d, api.ErrSyntax)
	case m.macros[name] != nil:
		return m.rewritten(m.macros[name], d, api.ErrMacro)
	default:
		m.must(!expand.Keyword(name))
	}
	return list(m.forms(d.List)...)
}

func (m *model) rewritten(rules []modelRule, d api.Datum, why api.Errno) api.Datum {
	for _, r := range rules {
		if made, ok, e := expand.Match(r.pattern, r.template, d, r.literals); ok {
			return m.form(made)
		} else if e != api.OK {
			refuse(e)
		}
	}
	return refuse(why)
}

func (m *model) lambda(parts []api.Datum) api.Datum {
	m.must(len(parts) > 0)
	names := []api.Datum{parts[0]}
	if parts[0].Kind == api.DList {
		names = append(append([]api.Datum{}, parts[0].List...), parts[0].Tail...)
	}
	m.unlike(names)
	return list(sym("lambda"), parts[0], m.body(parts[1:]))
}

func (m *model) unlike(names []api.Datum) {
	seen := map[string]bool{}
	for _, n := range names {
		m.name(n)
		seen[n.Text] = true
	}
	m.must(len(seen) == len(names) && len(names) <= api.MaxParams)
}

func (m *model) body(l []api.Datum) api.Datum {
	var names, sets []api.Datum
	for len(l) > 0 && head(l[0]) == "define" {
		n, v := m.define(l[0])
		names, sets, l = append(names, n), append(sets, list(sym("set!"), n, v)), l[1:]
	}
	m.must(len(l) > 0)
	if len(names) == 0 {
		return m.form(list(append([]api.Datum{sym("begin")}, l...)...))
	}
	m.unlike(names)
	call := []api.Datum{list(sym("lambda"), list(names...), list(append([]api.Datum{sym("begin")}, append(m.forms(sets), m.forms(l)...)...)...))}
	for range names {
		call = append(call, api.Datum{Kind: api.DBool, Text: "#f"})
	}
	return list(call...)
}

// maker makes programs by chance: forms that are right, for the most part.
type maker struct {
	*rand.Rand
	wrong int // one part in so many is something else
}

func (m maker) pick(l ...string) string { return l[m.Intn(len(l))] }

func (m maker) name() string {
	if m.Intn(m.wrong) == 0 {
		return m.pick("if", "else", "_", "...", "5", "(x)", "()", "\"x\"", "#(x)", "let", "define")
	}
	return m.pick("x", "y", "z", "f", "g", "k2", "tmp")
}

func (m maker) times(least, most int, one func() string) string {
	if m.Intn(m.wrong) == 0 {
		least = 0
	}
	var l []string
	for range least + m.Intn(most-least+1) {
		l = append(l, one())
	}
	if len(l) > 0 && m.Intn(4*m.wrong) == 0 {
		return strings.Join(l, " ") + " . " + m.pick("x", "5")
	}
	return strings.Join(l, " ")
}

func (m maker) forms(least, most, deep int) string {
	return m.times(least, most, func() string { return m.form(deep) })
}

func (m maker) body(deep int) string {
	s := m.times(0, 2, func() string {
		return m.pick("(define "+m.name()+" "+m.form(deep)+")", "(define ("+m.name()+" "+m.names()+") "+m.forms(1, 2, deep)+")")
	})
	if m.Intn(3) > 0 {
		s = ""
	}
	return s + " " + m.forms(1, 3, deep)
}

func (m maker) names() string {
	s := m.times(0, 3, m.name)
	if s != "" && m.Intn(4) == 0 {
		s += " . " + m.name()
	}
	return strings.Replace(s, " . x . ", " . ", 1)
}

func (m maker) pairs(deep int) string {
	return "(" + m.times(0, 3, func() string {
		if m.Intn(m.wrong) == 0 {
			return m.pick("x", "(x)", "()", "(x 1 2)", "(x . 1)", "#(x 1)")
		}
		return "(" + m.name() + " " + m.form(deep) + ")"
	}) + ")"
}

func (m maker) clause(deep int) string {
	if m.Intn(4*m.wrong) == 0 {
		return m.pick("x", "()", "(else)", "(else 1)", "#(1 2)")
	}
	return "(" + m.form(deep) + " " + m.forms(0, 2, deep) + ")"
}

func (m maker) form(deep int) string {
	if m.Intn(m.wrong*4) == 0 {
		return m.pick("()", "else", "...", "(else 1)", "(define x 1)", "(x . y)", "(1 2 . 3)", "(define-syntax)", "_", "if", "(let)", "(if)")
	}
	if deep == 0 || m.Intn(4) == 0 {
		return m.pick("x", "y", "f", "5", "-1", "#t", "#f", "\"s\"", "#(1 x)", "'(a . b)", "'()", "(quote if)")
	}
	deep--
	switch m.Intn(19) {
	case 0:
		return "(if " + m.forms(2, 3, deep) + ")"
	case 1:
		return "(set! " + m.name() + " " + m.forms(1, 1, deep) + ")"
	case 2:
		return "(lambda (" + m.names() + ") " + m.body(deep) + ")"
	case 3:
		return "(lambda " + m.name() + " " + m.body(deep) + ")"
	case 4:
		return "(begin " + m.forms(1, 3, deep) + ")"
	case 5, 6:
		return "(let " + m.pairs(deep) + " " + m.body(deep) + ")"
	case 7:
		return "(let " + m.name() + " " + m.pairs(deep) + " " + m.body(deep) + ")"
	case 8:
		return "(let* " + m.pairs(deep) + " " + m.body(deep) + ")"
	case 9:
		return "(letrec " + m.pairs(deep) + " " + m.body(deep) + ")"
	case 10:
		s := m.times(0, 3, func() string { return m.clause(deep) })
		if m.Intn(2) == 0 {
			s += " (else " + m.forms(1, 2, deep) + ")"
		}
		return "(cond " + s + ")"
	case 11:
		return "(and " + m.forms(0, 3, deep) + ")"
	case 12:
		return "(or " + m.forms(0, 3, deep) + ")"
	case 13:
		return "(" + m.pick("when", "unless") + " " + m.forms(2, 4, deep) + ")"
	case 14:
		return "(swap " + m.name() + " " + m.name() + ")"
	case 15:
		return "(my-let " + m.pairs(deep) + " " + m.forms(1, 2, deep) + ")"
	case 16:
		return "(my-or " + m.forms(0, 3, deep) + ")"
	}
	return "(" + m.forms(1, 3, deep) + ")"
}

func (m maker) outside() string {
	switch m.Intn(8) {
	case 0:
		return "(define " + m.name() + " " + m.form(3) + ")"
	case 1:
		return "(define (" + m.name() + " " + m.names() + ") " + m.body(2) + ")"
	case 2:
		return "(begin " + m.times(1, 3, func() string { return m.outside() }) + ")"
	}
	return m.form(4)
}

const someMacros = `
	(define-syntax swap (syntax-rules () ((_ a b) (let ((tmp a)) (set! a b) (set! b tmp)))))
	(define-syntax my-let (syntax-rules () ((_ ((n a) ...) b . r) ((lambda (n ...) b . r) a ...))))
	(define-syntax my-or (syntax-rules () ((_) #f) ((_ a) a) ((_ a b ...) (let ((t a)) (if t t (my-or b ...))))))`

// TestProgramAgainstTheModel holds programs made by chance against the model: what they become, and where a form is wrong.
func TestProgramAgainstTheModel(t *testing.T) {
	right, faults := 0, map[api.Errno]int{}
	second := newModel(t)
	for _, often := range []int{15, 60, 1 << 20} {
		m := maker{rand.New(rand.NewSource(int64(often))), often}
		for range 4000 {
			source := someMacros
			for range 1 + m.Intn(3) {
				source += " " + m.outside()
			}
			l, err := datum.Read(source)
			if err != nil {
				continue // by chance, two dots stand in one list
			}
			second.macros = map[string][]modelRule{}
			want, fault := second.program(l)
			got, err := expand.Program(l)
			if fault.Why != api.OK {
				faults[fault.Why]++
				if f, ok := err.(api.Fault); !ok || f.At != fault.At || f.Why != api.ErrSyntax && f.Why != api.ErrMacro {
					t.Fatalf("%s: %v, want %v", source[len(someMacros):], err, fault)
				}
				continue
			}
			right++
			if err != nil || texts(got) != texts(want) {
				t.Fatalf("%s becomes\n%s, %v, want\n%s", source[len(someMacros):], texts(got), err, texts(want))
			}
			wantNewMemory(t, source, got, l)
			wantSameAgain(t, got)
		}
	}
	if right < 3500 || faults[api.ErrSyntax] < 3500 || faults[api.ErrMacro] < 50 {
		t.Errorf("too few of some kind: %d right, %v", right, faults)
	}
}

// wantSameAgain: a core is its own core, but for its begins.
func wantSameAgain(t *testing.T, core []api.Datum) {
	t.Helper()
	if strings.Contains(texts(core), "(begin ") {
		return
	}
	for _, d := range core {
		if !datum.Can(d) {
			return
		}
	}
	again, err := expand.Program(core)
	if err != nil || texts(again) != texts(core) {
		t.Fatalf("%s becomes %s, %v", texts(core), texts(again), err)
	}
}

// P11.4

func TestCoreIsItsOwnCore(t *testing.T) {
	r := rand.New(rand.NewSource(4))
	names := []string{"x", "y", "f", "%or", "=>", "list"}
	var form func(deep int) api.Datum
	forms := func(n, deep int) []api.Datum {
		var l []api.Datum
		for range n {
			l = append(l, form(deep))
		}
		return l
	}
	form = func(deep int) api.Datum {
		name := sym(names[r.Intn(len(names))])
		kind := r.Intn(8)
		if deep == 0 {
			kind %= 3
		}
		switch kind {
		case 0:
			return name
		case 1:
			return num("-12")
		case 2:
			return list(sym("quote"), []api.Datum{list(), num("1"), {Kind: api.DVector, List: []api.Datum{name}}, list(sym("if"), sym("else")), dotted(name, name)}[r.Intn(5)])
		case 3:
			return list(append([]api.Datum{sym("if")}, forms(3, deep-1)...)...)
		case 4:
			return list(sym("set!"), name, form(deep-1))
		case 5:
			return list(sym("lambda"), []api.Datum{list(), list(sym("a"), name), name, dotted(name, sym("a"))}[r.Intn(4)], form(deep-1))
		}
		return list(forms(1+r.Intn(3), deep-1)...)
	}
	for range 5000 {
		l := forms(r.Intn(4), 5)
		l = append(l, list(sym("define"), sym("x"), form(5)))
		got, err := expand.Program(l)
		if err != nil || texts(got) != texts(l) {
			t.Fatalf("%s becomes %s, %v", texts(l), texts(got), err)
		}
	}
	inner := readOne(t, "(lambda (x) (begin x (begin y z)))")
	if got, err := expand.Program([]api.Datum{inner}); err != nil || texts(got) != text(inner) {
		t.Errorf("%s becomes %s, %v", text(inner), texts(got), err)
	}
}

// P11.5

func TestFormsAheadChangeNothing(t *testing.T) {
	m := maker{rand.New(rand.NewSource(5)), 40}
	for range 4000 {
		var ahead, behind []api.Datum
		for ahead == nil {
			ahead, _ = datum.Read(m.form(3) + " " + m.form(3))
		}
		for behind == nil {
			behind, _ = datum.Read(m.outside() + " " + m.outside())
		}
		first, err := expand.Program(ahead)
		if err != nil {
			continue
		}
		alone, fault := expand.Program(behind)
		both, err := expand.Program(append(ahead, behind...))
		if f, ok := fault.(api.Fault); ok {
			if err != (api.Fault{At: f.At + len(ahead), Why: f.Why}) {
				t.Fatalf("%s: %v, behind others %v", texts(behind), fault, err)
			}
			continue
		}
		if err != nil || texts(both) != strings.TrimSpace(texts(first)+" "+texts(alone)) {
			t.Fatalf("%s becomes %s, behind others %s", texts(behind), texts(alone), texts(both))
		}
	}
}

// TestAnyData: no call panics, whatever data come; what becomes something is new.
func TestAnyData(t *testing.T) {
	r := rand.New(rand.NewSource(6))
	words := strings.Fields("quote if set! define lambda begin let let* letrec cond else and or when unless define-syntax syntax-rules ... _ x y m")
	var some func(deep int) api.Datum
	some = func(deep int) api.Datum {
		if deep == 0 || r.Intn(3) == 0 {
			return []api.Datum{num("1"), sym("x"), sym("m"), list(), sym(words[r.Intn(len(words))])}[r.Intn(5)]
		}
		l := []api.Datum{sym(words[r.Intn(len(words))])}
		for range r.Intn(4) {
			l = append(l, some(deep-1))
		}
		d := list(l[r.Intn(2):]...)
		if len(d.List) > 0 && r.Intn(12) == 0 {
			d.Tail = []api.Datum{sym(words[r.Intn(len(words))])}
		}
		return d
	}
	rule := func() api.Datum {
		return list(sym("define-syntax"), sym("m"), list(sym("syntax-rules"), list(), list(some(3), some(3)), list(readOne(t, "(_ a b ...)"), some(4))))
	}
	fine := 0
	for range 30000 {
		l := []api.Datum{some(4), rule(), some(4), list(sym("m"), some(2), some(2))}
		core, err := expand.Program(l[r.Intn(3):])
		if err == nil {
			fine++
			wantNewMemory(t, texts(l), core, l)
		} else if len(core) > 0 {
			t.Fatalf("%s becomes %s, and has %v", texts(l), texts(core), err)
		}
		expand.Match(some(3), some(3), some(3), []string{"x"})
	}
	if fine < 300 {
		t.Errorf("only %d of these were right", fine)
	}
}
