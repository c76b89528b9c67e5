package scope_test

import (
	"errors"
	"math/rand"
	"slices"
	"strconv"
	"strings"
	"testing"

	"rostrum/api"
	"rostrum/datum"
	"rostrum/scope"
)

// maker makes forms of the core by chance, all of them right.
type maker struct{ *rand.Rand }

func (m maker) name() string {
	return []string{"x", "y", "z", "f", "g", "%or", "+"}[m.Intn(7)]
}

func (m maker) forms(n, deep int) []api.Datum {
	var l []api.Datum
	for range n {
		l = append(l, m.form(deep))
	}
	return l
}

// names is what a lambda binds: all unlike.
func (m maker) names() api.Datum {
	var l []api.Datum
	for range m.Intn(4) {
		if n := sym(m.name()); !slices.ContainsFunc(l, func(d api.Datum) bool { return d.Text == n.Text }) {
			l = append(l, n)
		}
	}
	switch {
	case len(l) == 1 && m.Intn(3) == 0:
		return l[0]
	case len(l) > 1 && m.Intn(3) == 0:
		return dotted(l[0], l[1:]...)
	}
	return list(l...)
}

func (m maker) form(deep int) api.Datum {
	if deep == 0 || m.Intn(4) == 0 {
		return []api.Datum{sym(m.name()), sym(m.name()), num("7"), list(sym("quote"), list(sym("x"), sym("if")))}[m.Intn(4)]
	}
	deep--
	switch m.Intn(7) {
	case 0:
		return list(append([]api.Datum{sym("if")}, m.forms(3, deep)...)...)
	case 1:
		return list(sym("set!"), sym(m.name()), m.form(deep))
	case 2:
		return list(append([]api.Datum{sym("begin")}, m.forms(1+m.Intn(3), deep)...)...)
	case 3, 4:
		return list(sym("lambda"), m.names(), m.form(deep))
	}
	return list(m.forms(1+m.Intn(3), deep)...)
}

func (m maker) program() []api.Datum {
	l := m.forms(1+m.Intn(3), 6)
	return append(l, list(sym("define"), sym(m.name()), m.form(5)))
}

// binder is the names that a lambda binds.
func binder(f api.Datum) []string {
	var names []string
	for _, d := range slices.Concat(f.List, f.Tail) {
		names = append(names, d.Text)
	}
	if f.Kind == api.DSymbol {
		names = []string{f.Text}
	}
	return names
}

// follow goes through a form and its node side by side: is the node what the form means? The innermost names come first.
func follow(d api.Datum, n api.Node, ribs [][]string) bool {
	where := func(name string) (int, int) {
		for up, rib := range ribs {
			if i := slices.Index(rib, name); i >= 0 {
				return up, i
			}
		}
		return -1, -1
	}
	if d.Kind == api.DSymbol {
		up, place := where(d.Text)
		if up < 0 {
			return sameNode(n, api.Node{Op: api.NGlobal, Text: d.Text})
		}
		return sameNode(n, api.Node{Op: api.NLocal, A: up, B: place})
	}
	if d.Kind != api.DList {
		return sameNode(n, api.Node{Op: api.NConst, Datum: d})
	}
	want, forms := api.Node{}, d.List[1:]
	switch d.List[0].Text {
	case "quote":
		return sameNode(n, api.Node{Op: api.NConst, Datum: d.List[1]})
	case "if":
		want.Op = api.NIf
	case "begin":
		want.Op = api.NSeq
	case "define":
		want.Op, want.Text, forms = api.NDefine, d.List[1].Text, d.List[2:]
	case "set!":
		want.Op, want.Text, forms = api.NSetG, d.List[1].Text, d.List[2:]
		if up, place := where(want.Text); up >= 0 {
			want = api.Node{Op: api.NSet, A: up, B: place}
		}
	case "lambda":
		rib := binder(d.List[1])
		rest := len(d.List[1].Tail)
		if d.List[1].Kind == api.DSymbol {
			rest = 1
		}
		want, forms = api.Node{Op: api.NLambda, A: len(rib) - rest, B: rest}, d.List[2:]
		ribs = append([][]string{rib}, ribs...)
	default:
		want.Op, forms = api.NCall, d.List
	}
	if len(n.Kids) != len(forms) {
		return false
	}
	for i, f := range forms {
		if !follow(f, n.Kids[i], ribs) {
			return false
		}
	}
	n.Kids = nil
	return sameNode(n, want)
}

// sameNode tells whether two nodes without Kids are the same.
func sameNode(a, b api.Node) bool {
	return a.Op == b.Op && a.A == b.A && a.B == b.B && a.Text == b.Text && datum.Same(a.Datum, b.Datum) && len(a.Kids)+len(b.Kids) == 0
}

// P12.1

func TestNodesFollowTheirForms(t *testing.T) {
	m := maker{rand.New(rand.NewSource(1))}
	for range 10000 {
		l := m.program()
		n, err := scope.Resolve(l)
		if err != nil || len(n) != len(l) {
			t.Fatalf("%v: %v", l, err)
		}
		for i, d := range l {
			if !follow(d, n[i], nil) {
				t.Fatalf("%s: %s", datum.Print(d), text(n[i]))
			}
		}
	}
}

// P12.2

// TestFreeAndSizeAgainstTheText: the node's text names all globals, and has a [ for each node.
func TestFreeAndSizeAgainstTheText(t *testing.T) {
	m := maker{rand.New(rand.NewSource(2))}
	for range 3000 {
		n, err := scope.Resolve(m.program())
		if err != nil {
			t.Fatal(err)
		}
		words := strings.Fields(strings.NewReplacer("[", " [ ", "]", " ] ").Replace(texts(n)))
		var free []string
		for i, w := range words {
			if w == "global" || w == "setg" || w == "define" {
				free = append(free, words[i+1])
			}
		}
		slices.Sort(free)
		if got := scope.Free(n); !slices.Equal(got, slices.Compact(free)) {
			t.Fatalf("%s: %q", texts(n), got)
		}
		if scope.Size(n) != strings.Count(texts(n), "[") {
			t.Fatalf("%s: %d", texts(n), scope.Size(n))
		}
	}
}

// P12.3

// renamed is a form whose bound names are new ones.
func renamed(d api.Datum, names map[string]string, count *int) api.Datum {
	name := func(d api.Datum) api.Datum {
		if n, ok := names[d.Text]; ok && d.Kind == api.DSymbol {
			return sym(n)
		}
		return d
	}
	if d.Kind != api.DList {
		return name(d)
	}
	c, from := list(), 0
	switch d.List[0].Text {
	case "quote":
		return d
	case "if", "begin":
		from = 1
	case "set!":
		c, from = list(sym("set!"), name(d.List[1])), 2
		return list(c.List[0], c.List[1], renamed(d.List[2], names, count))
	case "define":
		return list(sym("define"), d.List[1], renamed(d.List[2], names, count))
	case "lambda":
		inner := map[string]string{}
		for k, v := range names {
			inner[k] = v
		}
		for _, n := range binder(d.List[1]) {
			*count++
			inner[n] = "new-" + strconv.Itoa(*count)
		}
		names = inner
		f := name(d.List[1])
		if f.Kind == api.DList {
			f = list()
			for _, n := range d.List[1].List {
				f.List = append(f.List, name(n))
			}
			for _, n := range d.List[1].Tail {
				f.Tail = append(f.Tail, name(n))
			}
		}
		return list(sym("lambda"), f, renamed(d.List[2], names, count))
	}
	for i, p := range d.List {
		if i >= from {
			p = renamed(p, names, count)
		}
		c.List = append(c.List, p)
	}
	return c
}

func TestNamesPlayNoPart(t *testing.T) {
	m := maker{rand.New(rand.NewSource(3))}
	turned := 0
	for range 5000 {
		l := m.program()
		var other []api.Datum
		count := 0
		for _, d := range l {
			other = append(other, renamed(d, nil, &count))
		}
		a, err1 := scope.Resolve(l)
		b, err2 := scope.Resolve(other)
		if err1 != nil || err2 != nil || texts(a) != texts(b) {
			t.Fatalf("%v, %v: %s and %s", err1, err2, texts(a), texts(b))
		}
		turned += count
	}
	if turned < 5000 {
		t.Errorf("only %d names were other ones", turned)
	}
}

// P12.4

func inside(n api.Node, sizes []int) bool {
	if n.Op == api.NLocal || n.Op == api.NSet {
		if n.A < 0 || n.A >= len(sizes) || n.B < 0 || n.B >= sizes[len(sizes)-1-n.A] {
			return false
		}
	}
	if n.Op == api.NLambda {
		sizes = append(slices.Clone(sizes), n.A+n.B)
	}
	for _, k := range n.Kids {
		if !inside(k, sizes) {
			return false
		}
	}
	return true
}

func TestLocalsLieWithin(t *testing.T) {
	m := maker{rand.New(rand.NewSource(4))}
	for range 5000 {
		l := m.program()
		n, err := scope.Resolve(l)
		if err != nil {
			t.Fatal(err)
		}
		for _, x := range n {
			if !inside(x, nil) {
				t.Fatalf("%s", text(x))
			}
		}
	}
}

// TestAnyData: no call panics, whatever data come; without a fault the nodes follow their forms.
func TestAnyData(t *testing.T) {
	r := rand.New(rand.NewSource(5))
	words := strings.Fields("quote if set! define lambda begin let else x y x y x y")
	var some func(deep int) api.Datum
	some = func(deep int) api.Datum {
		if deep == 0 || r.Intn(3) == 0 {
			return []api.Datum{num("1"), sym("x"), list(), sym(words[r.Intn(len(words))])}[r.Intn(4)]
		}
		l := []api.Datum{sym(words[r.Intn(len(words))])}
		for range r.Intn(4) {
			l = append(l, some(deep-1))
		}
		d := list(l[r.Intn(2):]...)
		if len(d.List) > 0 && r.Intn(12) == 0 {
			d.Tail = []api.Datum{sym(words[r.Intn(len(words))])}
		}
		return d
	}
	fine := 0
	for range 50000 {
		d := some(4)
		n, err := scope.Resolve([]api.Datum{d})
		if err == nil {
			fine++
			if !follow(d, n[0], nil) {
				t.Fatalf("%s: %s", datum.Print(d), text(n[0]))
			}
		} else if len(n) > 0 {
			t.Fatalf("%s: %s, and %v", datum.Print(d), texts(n), err)
		}
	}
	if fine < 5000 {
		t.Errorf("only %d of these were right", fine)
	}
}

// TestErrArgIsWhatDatumSays: it is told of just those data that may not be, most of which are too deep here.
func TestErrArgIsWhatDatumSays(t *testing.T) {
	r := rand.New(rand.NewSource(6))
	forms := []string{"(f @)", "(@)", "(x @ y)", "(if 1 @ 2)", "(set! x @)", "(begin @ 1)", "(lambda () @)", "(lambda (x . y) @)", "(quote @)", "#(@)", "(f . #(@))", "(else @)", "(lambda (@) 1)"}
	insides := []api.Datum{sym("x"), sym("y"), sym("if"), num("1"), num("2"), list(), list(sym("quote"), list(sym("x"))), {}, num("01")}
	may := 0
	for range 5000 {
		d := insides[r.Intn(len(insides))]
		for range r.Intn(2 * api.MaxDepth) {
			d = around(t, forms[r.Intn(len(forms))], 1, d)
		}
		_, err := scope.Resolve([]api.Datum{sym("x"), d})
		if errors.Is(err, api.ErrArg) == datum.Can(d) {
			t.Fatalf("%v: %v", d, err)
		}
		if datum.Can(d) {
			may++
		}
	}
	if may < 1000 || may > 4000 {
		t.Errorf("%d of 5000 may be", may)
	}
}
