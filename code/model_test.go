package code_test

import (
	"math/rand"
	"strconv"
	"strings"
	"testing"

	"rostrum/api"
	"rostrum/code"
	"rostrum/datum"
	"rostrum/scope"
)

// A second compiler, made in another way: lines of text, in which places are labels, that are put in at the end.

type model struct {
	labels int
	consts []api.Datum
	names  []string
}

func (m *model) label() string {
	m.labels++
	return "@" + strconv.Itoa(m.labels) + "."
}

func (m *model) constant(d api.Datum) string {
	for i, c := range m.consts {
		if datum.Same(c, d) {
			return strconv.Itoa(i)
		}
	}
	m.consts = append(m.consts, d)
	return strconv.Itoa(len(m.consts) - 1)
}

func (m *model) name(s string) string {
	for i, n := range m.names {
		if n == s {
			return strconv.Itoa(i)
		}
	}
	m.names = append(m.names, s)
	return strconv.Itoa(len(m.names) - 1)
}

// lines is the instructions of a node; a line that is a label alone names the place of the next one.
func (m *model) lines(n api.Node, tail bool) []string {
	var l []string
	kid := func(i int, tail bool) { l = append(l, m.lines(n.Kids[i], tail)...) }
	add := func(s ...string) { l = append(l, s...) }
	place := strconv.Itoa(n.A) + " " + strconv.Itoa(n.B)
	switch n.Op {
	case api.NConst:
		add("const " + m.constant(n.Datum))
	case api.NLocal:
		add("local " + place)
	case api.NGlobal:
		add("global " + m.name(n.Text))
	case api.NSet:
		kid(0, false)
		add("set " + place)
	case api.NSetG:
		kid(0, false)
		add("setg " + m.name(n.Text))
	case api.NDefine:
		kid(0, false)
		add("define " + m.name(n.Text))
	case api.NIf:
		other, behind := m.label(), m.label()
		kid(0, false)
		add("jumpf " + other)
		kid(1, tail)
		if !tail {
			add("jump " + behind)
		}
		add(other)
		kid(2, tail)
		add(behind)
		return l
	case api.NLambda:
		entry, behind := m.label(), m.label()
		add("closure "+entry+" "+strconv.Itoa(2*n.A+n.B), "jump "+behind, entry)
		kid(0, true)
		add(behind)
	case api.NSeq:
		for i := range n.Kids {
			kid(i, tail && i == len(n.Kids)-1)
		}
		return l
	case api.NCall:
		behind := m.label()
		if !tail {
			add("frame " + behind)
		}
		for i := range n.Kids[1:] {
			kid(i+1, false)
			add("push")
		}
		kid(0, false)
		add("call "+strconv.Itoa(len(n.Kids)-1), behind)
		return l
	}
	if tail {
		add("return")
	}
	return l
}

// compiled is the text of the code that the model makes of nodes, and how many instructions it has.
func compiled(nodes []api.Node) (string, int) {
	m := &model{}
	var all, instrs []string
	for _, n := range nodes {
		all = append(all, m.lines(n, false)...)
	}
	var pairs []string
	for _, s := range append(all, "halt") {
		if strings.HasPrefix(s, "@") {
			pairs = append(pairs, s, strconv.Itoa(len(instrs)))
		} else {
			instrs = append(instrs, s)
		}
	}
	var d []string
	for _, k := range m.consts {
		d = append(d, datum.Print(k))
	}
	return strings.NewReplacer(pairs...).Replace(strings.Join(instrs, ", ")) + "; " + strings.Join(d, " ") + "; " + strings.Join(m.names, " "), len(instrs)
}

// maker makes nodes by chance, all of which can be.
type maker struct{ *rand.Rand }

func (m maker) name() string { return []string{"x", "y", "zz", "+", "if", "..."}[m.Intn(6)] }

func (m maker) datum() api.Datum {
	l := []api.Datum{num(m.Intn(4)), sym(m.name()), {Kind: api.DString, Text: m.name()}, list(), {Kind: api.DVector}, {Kind: api.DBool, Text: "#t"}}
	d := l[m.Intn(len(l))]
	for m.Intn(3) == 0 {
		d = list(d, l[m.Intn(len(l))])
	}
	return d
}

func (m maker) nodes(n, deep int) []api.Node {
	var l []api.Node
	for range n {
		l = append(l, m.node(deep))
	}
	return l
}

func (m maker) node(deep int) api.Node {
	op := 1 + m.Intn(10)
	if deep == 0 {
		op = 1 + m.Intn(3)
	}
	switch op {
	case api.NConst:
		return quoted(m.datum())
	case api.NLocal:
		return local(m.Intn(101), m.Intn(17))
	case api.NGlobal:
		return global(m.name())
	case api.NSet:
		return set(m.Intn(101), m.Intn(17), m.node(deep-1))
	case api.NSetG:
		return setG(m.name(), m.node(deep-1))
	case api.NIf:
		return choice(m.nodes(3, deep-1)...)
	case api.NLambda:
		return lambda(m.Intn(17), m.Intn(2), m.node(deep-1))
	case api.NSeq:
		return seq(m.nodes(1+m.Intn(4), deep-1)...)
	case api.NCall:
		return call(m.nodes(1+m.Intn(4), deep-1)...)
	}
	return define(m.name(), m.node(deep-1))
}

func TestCompileAsTheModel(t *testing.T) {
	m := maker{rand.New(rand.NewSource(1))}
	sizes := 0
	for i := range 10000 {
		l := m.nodes(m.Intn(5), m.Intn(10))
		want, size := compiled(l)
		sizes = max(sizes, size)
		c, e := code.Compile(l)
		if e != api.OK || text(c) != want || len(c.Instrs) != size {
			t.Fatalf("%s, %v, want\n%s", text(c), e, want)
		}
		if i%10 > 0 {
			continue
		}
		if code.Verify(c) != api.OK {
			t.Fatalf("it may not be run: %s", want)
		}
		wantDecoded(t, want, encode(t, c), c)
	}
	if sizes < 500 {
		t.Errorf("the longest has only %d instructions", sizes)
	}
}

// P13.5: what Compile makes of what Resolve tells may be run.

// form is a form of the core by chance.
func (m maker) form(deep int) string {
	if deep == 0 {
		return []string{"1", "x", "y", "'(a . b)", "\"s\"", "#f", "z"}[m.Intn(7)]
	}
	f := func() string { return m.form(deep - 1) }
	switch m.Intn(6) {
	case 0:
		return "(if " + f() + " " + f() + " " + f() + ")"
	case 1:
		return "(set! " + []string{"x", "y", "z"}[m.Intn(3)] + " " + f() + ")"
	case 2:
		return "(lambda " + []string{"()", "(x)", "(x y)", "(y . x)", "x", "(a b c d e f g h i j k l m n . x)"}[m.Intn(6)] + " " + f() + ")"
	case 3:
		return "(begin " + f() + " " + f() + ")"
	}
	return "(" + f() + rep(" "+f(), m.Intn(4)) + ")"
}

func TestWhatResolveTellsMayBeRun(t *testing.T) {
	m := maker{rand.New(rand.NewSource(2))}
	for range 5000 {
		s := m.form(m.Intn(6)) + " (define x " + m.form(m.Intn(4)) + ")"
		l, err := datum.Read(s)
		if err != nil {
			t.Fatal(s, err)
		}
		n, err := scope.Resolve(l)
		if err != nil {
			t.Fatal(s, err)
		}
		c, e := code.Compile(n)
		if want, _ := compiled(n); e != api.OK || code.Verify(c) != api.OK || text(c) != want {
			t.Fatalf("%s: %s, %v", s, text(c), e)
		}
		if d, err := code.Source(s); err == nil && code.Verify(d) != api.OK {
			t.Fatalf("the source of %s may not be run", s)
		}
	}
}
