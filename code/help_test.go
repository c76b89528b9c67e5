package code_test

import (
	"errors"
	"slices"
	"strconv"
	"strings"
	"testing"

	"rostrum/api"
	"rostrum/code"
	"rostrum/datum"
	"rostrum/expand"
	"rostrum/scope"
)

func rep(s string, n int) string { return strings.Repeat(s, n) }

func num(n int) api.Datum    { return api.Datum{Kind: api.DNumber, Text: strconv.Itoa(n)} }
func sym(s string) api.Datum { return api.Datum{Kind: api.DSymbol, Text: s} }

func list(l ...api.Datum) api.Datum { return api.Datum{Kind: api.DList, List: l} }

// Nodes.

func konst(n int) api.Node                { return api.Node{Op: api.NConst, Datum: num(n)} }
func quoted(d api.Datum) api.Node         { return api.Node{Op: api.NConst, Datum: d} }
func local(a, b int) api.Node             { return api.Node{Op: api.NLocal, A: a, B: b} }
func global(s string) api.Node            { return api.Node{Op: api.NGlobal, Text: s} }
func seq(l ...api.Node) api.Node          { return api.Node{Op: api.NSeq, Kids: l} }
func call(l ...api.Node) api.Node         { return api.Node{Op: api.NCall, Kids: l} }
func choice(l ...api.Node) api.Node       { return api.Node{Op: api.NIf, Kids: l} }
func repeat(n api.Node, k int) []api.Node { return slices.Repeat([]api.Node{n}, k) }

func set(a, b int, n api.Node) api.Node {
	return api.Node{Op: api.NSet, A: a, B: b, Kids: []api.Node{n}}
}
func setG(s string, n api.Node) api.Node {
	return api.Node{Op: api.NSetG, Text: s, Kids: []api.Node{n}}
}
func define(s string, n api.Node) api.Node {
	return api.Node{Op: api.NDefine, Text: s, Kids: []api.Node{n}}
}
func lambda(a, b int, body api.Node) api.Node {
	return api.Node{Op: api.NLambda, A: a, B: b, Kids: []api.Node{body}}
}

// nested is a node within so many others of one Kid.
func nested(n api.Node, k int) api.Node {
	for range k {
		n = seq(n)
	}
	return n
}

// nodes is those of a program's text.
func nodes(t *testing.T, source string) []api.Node {
	t.Helper()
	l, err := datum.Read(source)
	if err == nil {
		l, err = expand.Program(l)
	}
	var n []api.Node
	if err == nil {
		n, err = scope.Resolve(l)
	}
	if err != nil {
		t.Fatalf("%.200s: %v", source, err)
	}
	return n
}

// Code as text.

const opNames = "? const local global set setg define jump jumpf closure frame push call return halt"

func line(in api.Instr) string {
	s := strconv.Itoa(in.Op)
	if in.Op > 0 && in.Op < api.NumOps {
		s = strings.Fields(opNames)[in.Op]
	}
	switch in.Op {
	case api.OpLocal, api.OpSet, api.OpClosure:
		return s + " " + strconv.Itoa(in.A) + " " + strconv.Itoa(in.B)
	case api.OpPush, api.OpReturn, api.OpHalt:
		if in.A == 0 && in.B == 0 {
			return s
		}
	}
	s += " " + strconv.Itoa(in.A)
	if in.B != 0 {
		s += " and B " + strconv.Itoa(in.B)
	}
	return s
}

// text is all of a code: its instructions; its constants; its names.
func text(c api.Code) string {
	var in, d []string
	for _, i := range c.Instrs {
		in = append(in, line(i))
	}
	for _, k := range c.Consts {
		d = append(d, datum.Print(k))
	}
	return strings.Join(in, ", ") + "; " + strings.Join(d, " ") + "; " + strings.Join(c.Names, " ")
}

func empty(c api.Code) bool { return len(c.Instrs)+len(c.Consts)+len(c.Names) == 0 }

func wantCode(t *testing.T, what string, l []api.Node, want string) {
	t.Helper()
	c, e := code.Compile(l)
	if e != api.OK || text(c) != want {
		t.Errorf("%s:\n%s, %v, want\n%s", what, text(c), e, want)
	}
	if e := code.Verify(c); e != api.OK {
		t.Errorf("%s: Verify is %v", what, e)
	}
}

func wantNone(t *testing.T, what string, l []api.Node, why api.Errno) {
	t.Helper()
	if c, e := code.Compile(l); e != why || !empty(c) {
		t.Errorf("%s: %.300s, %v, want %v", what, text(c), e, why)
	}
}

func wantOK(t *testing.T, what string, l []api.Node) {
	t.Helper()
	c, e := code.Compile(l)
	if e != api.OK || code.Verify(c) != api.OK {
		t.Errorf("%s: %v, Verify %v", what, e, code.Verify(c))
	}
}

func source(t *testing.T, s string) api.Code {
	t.Helper()
	c, err := code.Source(s)
	if err != nil {
		t.Fatalf("%.200s: %v", s, err)
	}
	return c
}

func wantFault(t *testing.T, s string, at int, why api.Errno) {
	t.Helper()
	c, err := code.Source(s)
	if f, ok := err.(api.Fault); !empty(c) || !ok || f != (api.Fault{At: at, Why: why}) {
		t.Errorf("%.200s: %.300s, %v, want %v at %d", s, text(c), err, why, at)
		return
	}
	for e := range api.Errno(300) {
		if errors.Is(err, e) != (e == why) {
			t.Errorf("%.200s: errors.Is tells %d", s, e)
		}
	}
	var f api.Fault
	if !errors.As(err, &f) || f.At != at {
		t.Errorf("%.200s: errors.As tells %v", s, f)
	}
}

func encode(t *testing.T, c api.Code) []byte {
	t.Helper()
	b, e := code.Encode(c)
	if e != api.OK {
		t.Fatalf("Encode of %.300s: %v", text(c), e)
	}
	return b
}

// copied is a code in memory of its own: its parts can be changed.
func copied(c api.Code) api.Code {
	return api.Code{Instrs: slices.Clone(c.Instrs), Consts: slices.Clone(c.Consts), Names: slices.Clone(c.Names)}
}

// Memory: the addresses of all that is in lists, the spare room behind their ends included.

func dataPlaces(l []api.Datum, to map[any]int) {
	for i := range l[:cap(l)] {
		to[&l[:cap(l)][i]]++
	}
	for _, d := range l {
		dataPlaces(d.List, to)
		dataPlaces(d.Tail, to)
	}
}

func nodePlaces(l []api.Node, to map[any]int) {
	for i := range l[:cap(l)] {
		to[&l[:cap(l)][i]]++
	}
	for _, n := range l {
		dataPlaces(n.Datum.List, to)
		dataPlaces(n.Datum.Tail, to)
		nodePlaces(n.Kids, to)
	}
}

func codePlaces(c api.Code, to map[any]int) {
	for i := range c.Instrs[:cap(c.Instrs)] {
		to[&c.Instrs[:cap(c.Instrs)][i]]++
	}
	for i := range c.Names[:cap(c.Names)] {
		to[&c.Names[:cap(c.Names)][i]]++
	}
	dataPlaces(c.Consts, to)
}

// roomyData and roomyNodes are copies whose lists have spare room behind them with something in it; noted is what stands there: all of it.

func roomyData(l []api.Datum) []api.Datum {
	c := make([]api.Datum, len(l), len(l)+2)
	for i, d := range l {
		c[i] = api.Datum{Kind: d.Kind, Text: d.Text, List: roomyData(d.List), Tail: roomyData(d.Tail)}
	}
	c[:len(l)+1][len(l)] = sym("spare")
	return c
}

func roomyNodes(l []api.Node) []api.Node {
	c := make([]api.Node, len(l), len(l)+2)
	for i, n := range l {
		d := n.Datum
		c[i] = api.Node{Op: n.Op, A: n.A, B: n.B, Text: n.Text, Datum: api.Datum{Kind: d.Kind, Text: d.Text, List: roomyData(d.List), Tail: roomyData(d.Tail)}, Kids: roomyNodes(n.Kids)}
	}
	c[:len(l)+1][len(l)] = global("spare")
	return c
}

func notedData(l []api.Datum) string {
	s := "["
	for _, d := range l[:cap(l)] {
		s += strconv.Itoa(d.Kind) + d.Text + notedData(d.List) + notedData(d.Tail)
	}
	return s + "]"
}

func notedNodes(l []api.Node) string {
	s := "["
	for _, n := range l[:cap(l)] {
		s += strconv.Itoa(n.Op) + "," + strconv.Itoa(n.A) + "," + strconv.Itoa(n.B) + n.Text + notedData([]api.Datum{n.Datum}) + notedNodes(n.Kids)
	}
	return s + "]"
}
