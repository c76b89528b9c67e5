package vm_test

import (
	"fmt"
	"math/big"
	"strings"
	"testing"

	"rostrum/api"
	"rostrum/datum"
	"rostrum/expand"
	"rostrum/scope"
)

// What nodes mean, by functions that are handed what is to be done with a value: no stack, no frame, no heap.

type (
	value  any // *big.Int, bool, symbol, none, nought, *pair, *vector, *text, *closure, *cont, primitive
	symbol string
	none   struct{} // the empty list
	nought struct{} // what has nothing to tell
	pair   struct{ first, rest value }
	vector struct{ parts []value }
	text   struct{ s string }
)

type closure struct {
	node *api.Node
	up   *rib
}

type cont struct {
	k     next
	winds *wind
}

type primitive string

type rib struct {
	values []value
	up     *rib
}

type wind struct {
	before, after value
	up            *wind
}

// next is what is done with a value; each step is one more to be done, so that nothing gets deep.
type (
	next func(value) step
	step func() step
)

type meaning struct {
	globals map[string]value
	winds   *wind
	roots   map[string]value
	answer  func(told string) value // what suspend answers
	result  value
}

type failure struct{ why api.Errno }

func fail(e api.Errno) step { panic(failure{e}) }

// mean is what a program shows, or its error; false, if it does not end within so many steps.
func mean(nodes []api.Node, steps int, answer func(told string) value) (shown string, why api.Errno, ends bool) {
	m := &meaning{globals: map[string]value{}, roots: map[string]value{}, answer: answer, result: none{}}
	for _, name := range strings.Fields("+ - * quotient = < eq? cons car cdr set-car! null? pair? not list vector vector-ref vector-set! length reverse append string-append number->string procedure? apply call/cc dynamic-wind suspend root-ref root-set!") {
		m.globals[name] = primitive(name)
	}
	defer func() {
		switch x := recover().(type) {
		case nil:
		case failure:
			shown, why, ends = "", x.why, true
		default:
			panic(x)
		}
	}()
	var all func(i int) step
	all = func(i int) step {
		if i == len(nodes) {
			return nil
		}
		return m.eval(&nodes[i], nil, func(v value) step {
			m.result = v
			return func() step { return all(i + 1) }
		})
	}
	for s := all(0); s != nil; s = s() {
		if steps--; steps < 0 {
			return "", api.OK, false
		}
	}
	return show(m.result), api.OK, true
}

func (m *meaning) eval(n *api.Node, r *rib, k next) step {
	switch n.Op {
	case api.NConst:
		return k(constant(n.Datum))
	case api.NLocal:
		return k(around(r, n.A).values[n.B])
	case api.NGlobal:
		v, ok := m.globals[n.Text]
		if !ok {
			return fail(api.ErrUnbound)
		}
		return k(v)
	case api.NSet:
		return m.eval(&n.Kids[0], r, func(v value) step {
			around(r, n.A).values[n.B] = v
			return k(nought{})
		})
	case api.NSetG, api.NDefine:
		return m.eval(&n.Kids[0], r, func(v value) step {
			if _, ok := m.globals[n.Text]; !ok && n.Op == api.NSetG {
				return fail(api.ErrUnbound)
			}
			m.globals[n.Text] = v
			return k(nought{})
		})
	case api.NIf:
		return m.eval(&n.Kids[0], r, func(v value) step {
			if v == false {
				return m.eval(&n.Kids[2], r, k)
			}
			return m.eval(&n.Kids[1], r, k)
		})
	case api.NLambda:
		return k(&closure{n, r})
	case api.NSeq:
		return m.seq(n.Kids, r, k)
	}
	return m.args(n.Kids[1:], r, nil, func(args []value) step {
		return m.eval(&n.Kids[0], r, func(f value) step { return m.call(f, args, k) })
	})
}

func around(r *rib, n int) *rib {
	for range n {
		r = r.up
	}
	return r
}

func (m *meaning) seq(l []api.Node, r *rib, k next) step {
	if len(l) == 1 {
		return m.eval(&l[0], r, k)
	}
	return m.eval(&l[0], r, func(value) step { return m.seq(l[1:], r, k) })
}

// args is the values of nodes, in order; each list of them is its own, since one may come here again.
func (m *meaning) args(l []api.Node, r *rib, sofar []value, k func([]value) step) step {
	if len(l) == 0 {
		return k(sofar)
	}
	return m.eval(&l[0], r, func(v value) step {
		return m.args(l[1:], r, append(append([]value{}, sofar...), v), k)
	})
}

func (m *meaning) call(f value, args []value, k next) step {
	switch f := f.(type) {
	case *closure:
		n := f.node.A
		if len(args) < n || len(args) > n && f.node.B == 0 {
			return fail(api.ErrCount)
		}
		values := append([]value{}, args[:n]...)
		if f.node.B == 1 {
			values = append(values, list(args[n:]))
		}
		return func() step { return m.eval(&f.node.Kids[0], &rib{values, f.up}, k) }
	case *cont:
		if len(args) != 1 {
			return fail(api.ErrCount)
		}
		return m.travel(f, args[0])
	case primitive:
		return m.primitive(string(f), args, k)
	}
	return fail(api.ErrProc)
}

func list(l []value) value {
	var v value = none{}
	for i := len(l) - 1; i >= 0; i-- {
		v = &pair{l[i], v}
	}
	return v
}

func items(v value) ([]value, bool) {
	var l []value
	for {
		switch p := v.(type) {
		case none:
			return l, true
		case *pair:
			l = append(l, p.first)
			v = p.rest
		default:
			return nil, false
		}
		if len(l) > 10000 {
			return nil, false
		}
	}
}

// travel finds where the ways part, leaves all on this side of it, enters all on the other.
func (m *meaning) travel(c *cont, v value) step {
	var here, there []*wind
	for w := m.winds; w != nil; w = w.up {
		here = append([]*wind{w}, here...)
	}
	for w := c.winds; w != nil; w = w.up {
		there = append([]*wind{w}, there...)
	}
	n := 0
	for n < len(here) && n < len(there) && here[n] == there[n] {
		n++
	}
	var in func(i int) step
	in = func(i int) step {
		if i == len(there) {
			return func() step { return c.k(v) }
		}
		return m.call(there[i].before, nil, func(value) step {
			m.winds = there[i]
			return in(i + 1)
		})
	}
	var out func(i int) step
	out = func(i int) step {
		if i == n {
			return in(n)
		}
		m.winds = here[i-1].up
		return m.call(here[i-1].after, nil, func(value) step { return out(i - 1) })
	}
	return out(len(here))
}

// arity is how many arguments primitives take; -1 any.
var arity = map[string]int{"quotient": 2, "=": 2, "<": 2, "eq?": 2, "cons": 2, "car": 1, "cdr": 1, "set-car!": 2, "null?": 1, "pair?": 1, "not": 1, "vector-ref": 2, "vector-set!": 3, "length": 1, "reverse": 1, "number->string": 1, "procedure?": 1,
	"apply": 2, "call/cc": 1, "dynamic-wind": 3, "suspend": 1, "root-ref": 1, "root-set!": 2}

func (m *meaning) primitive(name string, args []value, k next) step {
	if n, ok := arity[name]; ok && len(args) != n {
		return fail(api.ErrCount)
	}
	switch name {
	case "apply":
		l, ok := items(args[1])
		if !ok {
			return fail(api.ErrType)
		}
		if len(l) > 255 {
			return fail(api.ErrCount)
		}
		return func() step { return m.call(args[0], l, k) }
	case "call/cc":
		return m.call(args[0], []value{&cont{k, m.winds}}, k)
	case "dynamic-wind":
		return m.call(args[0], nil, func(value) step {
			m.winds = &wind{args[0], args[2], m.winds}
			return m.call(args[1], nil, func(v value) step {
				m.winds = m.winds.up
				return m.call(args[2], nil, func(value) step { return k(v) })
			})
		})
	case "suspend":
		v := m.answer(show(args[0]))
		return func() step { return k(v) }
	case "root-ref":
		v, ok := m.roots[string(args[0].(symbol))]
		if !ok {
			v = false
		}
		return k(copied(v, map[*pair]*pair{}))
	case "root-set!":
		m.roots[string(args[0].(symbol))] = copied(args[1], map[*pair]*pair{})
		return k(nought{})
	}
	v := plain(name, args)
	return func() step { return k(v) }
}

// copied is a value of pairs and plain parts anew.
func copied(v value, met map[*pair]*pair) value {
	p, ok := v.(*pair)
	if !ok {
		return v
	}
	if c, ok := met[p]; ok {
		return c
	}
	c := &pair{}
	met[p] = c
	c.first, c.rest = copied(p.first, met), copied(p.rest, met)
	return c
}

func as[T any](v value) T {
	x, ok := v.(T)
	if !ok {
		fail(api.ErrType)
	}
	return x
}

func each[T any](l []value) []T {
	var r []T
	for _, v := range l {
		r = append(r, as[T](v))
	}
	return r
}

func listed(v value) []value {
	l, ok := items(v)
	if !ok {
		fail(api.ErrType)
	}
	return l
}

func sized(n *big.Int) value {
	if len(strings.TrimPrefix(n.String(), "-")) > api.MaxDigits {
		fail(api.ErrBig)
	}
	return n
}

// plain is a primitive that calls nothing.
func plain(name string, args []value) value {
	switch name {
	case "+", "*", "-", "quotient", "=", "<":
		return arithmetic(name, each[*big.Int](args))
	case "eq?":
		if n, ok := args[0].(*big.Int); ok {
			o, ok := args[1].(*big.Int)
			return ok && n.Cmp(o) == 0
		}
		return args[0] == args[1]
	case "cons":
		return &pair{args[0], args[1]}
	case "car":
		return as[*pair](args[0]).first
	case "cdr":
		return as[*pair](args[0]).rest
	case "set-car!":
		as[*pair](args[0]).first = args[1]
		return nought{}
	case "null?":
		return args[0] == none{}
	case "pair?":
		_, ok := args[0].(*pair)
		return ok
	case "not":
		return args[0] == false
	case "list":
		return list(args)
	case "vector":
		return &vector{append([]value{}, args...)}
	case "length":
		return big.NewInt(int64(len(listed(args[0]))))
	case "reverse":
		var v value = none{}
		for _, x := range listed(args[0]) {
			v = &pair{x, v}
		}
		return v
	case "append":
		var all []value
		for _, x := range args {
			all = append(all, listed(x)...)
		}
		return list(all)
	case "string-append":
		s := ""
		for _, x := range each[*text](args) {
			s += x.s
		}
		return &text{s}
	case "number->string":
		return &text{as[*big.Int](args[0]).String()}
	case "procedure?":
		switch args[0].(type) {
		case *closure, *cont, primitive:
			return true
		}
		return false
	}
	v, n := as[*vector](args[0]), as[*big.Int](args[1])
	if !n.IsInt64() || n.Int64() < 0 || n.Int64() >= int64(len(v.parts)) {
		fail(api.ErrIndex)
	}
	if name == "vector-ref" {
		return v.parts[n.Int64()]
	}
	v.parts[n.Int64()] = args[2]
	return nought{}
}

func arithmetic(name string, l []*big.Int) value {
	switch name {
	case "=":
		return l[0].Cmp(l[1]) == 0
	case "<":
		return l[0].Cmp(l[1]) < 0
	case "quotient":
		if l[1].Sign() == 0 {
			fail(api.ErrZero)
		}
		return new(big.Int).Quo(l[0], l[1])
	}
	if name == "-" && len(l) == 0 {
		fail(api.ErrCount)
	}
	if name == "-" && len(l) == 1 {
		return new(big.Int).Neg(l[0])
	}
	sofar := big.NewInt(0)
	if name == "*" {
		sofar = big.NewInt(1)
	}
	if name == "-" {
		sofar, l = l[0], l[1:]
	}
	for _, n := range l {
		switch name {
		case "+":
			sofar = new(big.Int).Add(sofar, n)
		case "-":
			sofar = new(big.Int).Sub(sofar, n)
		case "*":
			sofar = new(big.Int).Mul(sofar, n)
		}
		sized(sofar)
	}
	return sofar
}

func constant(d api.Datum) value {
	switch d.Kind {
	case api.DNumber:
		n, _ := new(big.Int).SetString(d.Text, 10)
		return n
	case api.DBool:
		return d.Text == "#t"
	case api.DString:
		return &text{d.Text}
	case api.DSymbol:
		return symbol(d.Text)
	}
	var l []value
	for _, x := range d.List {
		l = append(l, constant(x))
	}
	if d.Kind == api.DVector {
		return &vector{l}
	}
	var rest value = none{}
	for _, x := range d.Tail {
		rest = constant(x)
	}
	for i := len(l) - 1; i >= 0; i-- {
		rest = &pair{l[i], rest}
	}
	return rest
}

// show is the text of a value, of which no more than api.MaxShow parts are begun.
func show(v value) string {
	begun := 0
	begin := func() bool {
		begun++
		return begun <= api.MaxShow
	}
	var one func(v value) string
	one = func(v value) string {
		if !begin() {
			return "..."
		}
		switch x := v.(type) {
		case *vector:
			var l []string
			for _, y := range x.parts {
				l = append(l, one(y))
			}
			return "#(" + strings.Join(l, " ") + ")"
		case *pair:
			s := "(" + one(x.first)
			for {
				p, ok := x.rest.(*pair)
				if !ok {
					break
				}
				if !begin() {
					return s + " ...)"
				}
				x = p
				s += " " + one(x.first)
			}
			if (x.rest != none{}) {
				s += " . " + one(x.rest)
			}
			return s + ")"
		}
		return bare(v)
	}
	return one(v)
}

func bare(v value) string {
	switch x := v.(type) {
	case *big.Int:
		return x.String()
	case bool:
		if x {
			return "#t"
		}
		return "#f"
	case symbol:
		return string(x)
	case none:
		return "()"
	case nought:
		return "#!void"
	case *text:
		return `"` + x.s + `"`
	}
	return "#!procedure"
}

func nodesOf(t *testing.T, s string) []api.Node {
	t.Helper()
	l, err := datum.Read(s)
	if err == nil {
		l, err = expand.Program(l)
	}
	var n []api.Node
	if err == nil {
		n, err = scope.Resolve(l)
	}
	if err != nil {
		t.Fatalf("%.2000s: %v", s, err)
	}
	return n
}

// TestModel: the model itself knows what is known.
func TestModel(t *testing.T) {
	for _, x := range [][2]string{
		{"(+ 1 (call/cc (lambda (k) (k 5))))", "6"}, {"(define (f n) (if (= n 0) 1 (* n (f (- n 1))))) (f 20)", "2432902008176640000"}, {"(car 5)", "*150"}, {"(let ((x (list 1 2 '(3 . ())))) (set-car! x 9) x)", "(9 2 (3))"},
		{notes + "(define c #f) (define n 0) (wind 1 (lambda () (wind 2 (lambda () (note (call/cc (lambda (k) (set! c k) 'a))))))) (set! n (+ n 1)) (if (= n 1) (c 'b) (told))", "((in 1) (in 2) a (out 2) (out 1) (in 1) (in 2) b (out 2) (out 1))"},
	} {
		s, why, ends := mean(nodesOf(t, x[0]), 10000, nil)
		if why != api.OK {
			s = fmt.Sprint("*", int(why))
		}
		if s != x[1] || !ends {
			t.Errorf("%s: %s, want %s", x[0], s, x[1])
		}
	}
}
