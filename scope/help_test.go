package scope_test

import (
	"errors"
	"strconv"
	"strings"
	"testing"

	"rostrum/api"
	"rostrum/datum"
	"rostrum/expand"
	"rostrum/scope"
)

func rep(s string, n int) string { return strings.Repeat(s, n) }

func sym(s string) api.Datum { return api.Datum{Kind: api.DSymbol, Text: s} }
func num(s string) api.Datum { return api.Datum{Kind: api.DNumber, Text: s} }

func list(l ...api.Datum) api.Datum { return api.Datum{Kind: api.DList, List: l} }

func dotted(tail api.Datum, l ...api.Datum) api.Datum {
	return api.Datum{Kind: api.DList, List: l, Tail: []api.Datum{tail}}
}

// around is a datum within so many copies of a form, which has a @ where it stands.
func around(t *testing.T, form string, n int, d api.Datum) api.Datum {
	t.Helper()
	f := read(t, form)[0]
	for range n {
		d = within(f, d)
	}
	return d
}

func within(f, d api.Datum) api.Datum {
	if f.Text == "@" {
		return d
	}
	c := api.Datum{Kind: f.Kind, Text: f.Text}
	for _, p := range f.List {
		c.List = append(c.List, within(p, d))
	}
	for _, p := range f.Tail {
		c.Tail = append(c.Tail, within(p, d))
	}
	return c
}

func read(t *testing.T, s string) []api.Datum {
	t.Helper()
	l, err := datum.Read(s)
	if err != nil {
		t.Fatalf("Read(%.200q): %v", s, err)
	}
	return l
}

// core is the core of a program's text.
func core(t *testing.T, s string) []api.Datum {
	t.Helper()
	l, err := expand.Program(read(t, s))
	if err != nil {
		t.Fatalf("%.200s: %v", s, err)
	}
	return l
}

// text is a node's: its Op, what else it has, its Kids.
func text(n api.Node) string {
	s := "[" + []string{0: "?", api.NConst: "const", api.NLocal: "local", api.NGlobal: "global", api.NSet: "set", api.NSetG: "setg", api.NIf: "if", api.NLambda: "lambda", api.NSeq: "seq", api.NCall: "call", api.NDefine: "define"}[n.Op]
	if n.Op == api.NLocal || n.Op == api.NSet || n.Op == api.NLambda || n.A != 0 || n.B != 0 {
		s += " " + strconv.Itoa(n.A) + " " + strconv.Itoa(n.B)
	}
	if n.Text != "" {
		s += " " + n.Text
	}
	if n.Op == api.NConst || n.Datum.Kind != 0 {
		s += " " + datum.Print(n.Datum)
	}
	if len(n.Kids) > 0 {
		s += " " + texts(n.Kids)
	}
	return s + "]"
}

func texts(l []api.Node) string {
	var s []string
	for _, n := range l {
		s = append(s, text(n))
	}
	return strings.Join(s, " ")
}

func wantNodes(t *testing.T, source, nodes string) {
	t.Helper()
	l, err := scope.Resolve(read(t, source))
	if err != nil || texts(l) != nodes {
		t.Errorf("%s: %s, %v, want %s", source, texts(l), err, nodes)
	}
}

func wantFault(t *testing.T, source string, at int, why api.Errno) {
	t.Helper()
	wantFaultOf(t, source, read(t, source), at, why)
}

func wantFaultOf(t *testing.T, what string, source []api.Datum, at int, why api.Errno) {
	t.Helper()
	l, err := scope.Resolve(source)
	if f, ok := err.(api.Fault); len(l) > 0 || !ok || f != (api.Fault{At: at, Why: why}) {
		t.Errorf("%.300s: %.300s, %v, want %v at %d", what, texts(l), err, why, at)
		return
	}
	for e := range api.Errno(300) {
		if errors.Is(err, e) != (e == why) {
			t.Errorf("%.300s: errors.Is tells %d", what, e)
		}
	}
}

// places is the addresses of all data in lists, and nodePlaces also those of nodes; the spare room behind their ends included.
func places(l []api.Datum, to map[any]int) {
	for i := range l[:cap(l)] {
		to[&l[:cap(l)][i]]++
	}
	for _, d := range l {
		places(d.List, to)
		places(d.Tail, to)
	}
}

func nodePlaces(l []api.Node, to map[any]int) {
	for i := range l[:cap(l)] {
		to[&l[:cap(l)][i]]++
	}
	for _, n := range l {
		places(n.Datum.List, to)
		places(n.Datum.Tail, to)
		nodePlaces(n.Kids, to)
	}
}

// roomy is a copy of data whose lists have spare room behind them, and noted is what stands there: all of it.
func roomy(l []api.Datum) []api.Datum {
	c := make([]api.Datum, len(l), len(l)+2)
	for i, d := range l {
		c[i] = api.Datum{Kind: d.Kind, Text: d.Text, List: roomy(d.List), Tail: roomy(d.Tail)}
	}
	return c
}

func noted(l []api.Datum) string {
	s := "["
	for _, d := range l[:cap(l)] {
		s += strconv.Itoa(d.Kind) + d.Text + noted(d.List) + noted(d.Tail)
	}
	return s + "]"
}
