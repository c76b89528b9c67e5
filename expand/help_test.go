package expand_test

import (
	"errors"
	"strings"
	"testing"

	"rostrum/api"
	"rostrum/datum"
	"rostrum/expand"
)

func rep(s string, n int) string { return strings.Repeat(s, n) }

func sym(s string) api.Datum { return api.Datum{Kind: api.DSymbol, Text: s} }
func num(s string) api.Datum { return api.Datum{Kind: api.DNumber, Text: s} }

func list(l ...api.Datum) api.Datum { return api.Datum{Kind: api.DList, List: l} }

func dotted(tail api.Datum, l ...api.Datum) api.Datum {
	return api.Datum{Kind: api.DList, List: l, Tail: []api.Datum{tail}}
}

// nest is a datum within so many lists.
func nest(n int, d api.Datum) api.Datum {
	for range n {
		d = list(d)
	}
	return d
}

// read is the data of a text that has no fault.
func read(t *testing.T, s string) []api.Datum {
	t.Helper()
	l, err := datum.Read(s)
	if err != nil {
		t.Fatalf("Read(%.200q): %v", s, err)
	}
	return l
}

// readOne is the datum of a text that has just one.
func readOne(t *testing.T, s string) api.Datum {
	t.Helper()
	l := read(t, s)
	if len(l) != 1 {
		t.Fatalf("%q has %d data", s, len(l))
	}
	return l[0]
}

// text is a datum's, however deep it is.
func text(d api.Datum) string {
	open := "("
	switch d.Kind {
	case api.DVector:
		open = "#("
	case api.DList:
	default:
		return datum.Print(d)
	}
	s := open + texts(d.List)
	for _, x := range d.Tail {
		s += " . " + text(x)
	}
	return s + ")"
}

func texts(l []api.Datum) string {
	var s []string
	for _, d := range l {
		s = append(s, text(d))
	}
	return strings.Join(s, " ")
}

// wantCore: a program becomes this core.
func wantCore(t *testing.T, source, core string) {
	t.Helper()
	l, err := expand.Program(read(t, source))
	if err != nil || texts(l) != core {
		t.Errorf("%.300s becomes %s, %v, want %s", source, texts(l), err, core)
	}
}

// wantFault: a program has this fault.
func wantFault(t *testing.T, source string, at int, why api.Errno) {
	t.Helper()
	wantFaultOf(t, read(t, source), at, why)
}

func wantFaultOf(t *testing.T, source []api.Datum, at int, why api.Errno) {
	t.Helper()
	l, err := expand.Program(source)
	if f, ok := err.(api.Fault); len(l) > 0 || !ok || f != (api.Fault{At: at, Why: why}) {
		t.Errorf("%.300s becomes %.300s, %v, want %v at %d", texts(source), texts(l), err, why, at)
		return
	}
	for e := range api.Errno(300) {
		if errors.Is(err, e) != (e == why) {
			t.Errorf("%.300s: errors.Is tells %d", texts(source), e)
		}
	}
}

// wrongData is data that may not be, each wrong in one way.
func wrongData() []api.Datum {
	a := sym("a")
	return []api.Datum{
		{}, {Kind: -1}, {Kind: 7}, num("01"), num(""), sym(""), sym("a b"), sym("1"), {Kind: api.DBool, Text: "t"},
		{Kind: api.DList, Text: "a"}, {Kind: api.DList, Tail: []api.Datum{a}}, dotted(list(), a), dotted(list(a), a), {Kind: api.DList, List: []api.Datum{a}, Tail: []api.Datum{a, a}},
		{Kind: api.DVector, Text: "a"}, {Kind: api.DVector, List: []api.Datum{a}, Tail: []api.Datum{a}},
		{Kind: api.DSymbol, Text: "a", List: []api.Datum{a}}, {Kind: api.DSymbol, Text: "a", Tail: []api.Datum{a}},
		list(a, api.Datum{}), list(sym("quote"), num("+1")), dotted(api.Datum{}, a), nest(65, a), nest(64, list()), nest(1000, a), holdsItself(),
	}
}

func holdsItself() api.Datum {
	l := make([]api.Datum, 2)
	l[0] = sym("a")
	l[1] = list(l...)
	return l[1]
}

// places is the addresses of all that is in lists, the spare room behind their ends included.
func places(l []api.Datum, to map[*api.Datum]int) {
	for i := range l[:cap(l)] {
		to[&l[:cap(l)][i]]++
	}
	for _, d := range l {
		places(d.List, to)
		places(d.Tail, to)
	}
}

// wantNewMemory: nothing of an answer is in the same place as something else of it, or of what was handed in.
func wantNewMemory(t *testing.T, what string, answer []api.Datum, given ...[]api.Datum) {
	t.Helper()
	old, now := map[*api.Datum]int{}, map[*api.Datum]int{}
	for _, l := range given {
		places(l, old)
	}
	places(answer, now)
	for p, n := range now {
		if n > 1 || old[p] > 0 {
			t.Errorf("%.300s: the answer's memory is shared", what)
			return
		}
	}
}

// roomy is a copy of data whose lists have spare room behind them, and noted is what stands there: all of it.
func roomy(l []api.Datum) []api.Datum {
	c := make([]api.Datum, len(l), len(l)+2)
	for i, d := range l {
		c[i] = api.Datum{Kind: d.Kind, Text: d.Text, List: roomy(d.List), Tail: roomy(d.Tail)}
	}
	return c
}

func noted(l []api.Datum) string {
	s := "["
	for _, d := range l[:cap(l)] {
		s += string(rune('0'+d.Kind)) + d.Text + noted(d.List) + noted(d.Tail)
	}
	return s + "]"
}
