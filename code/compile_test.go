package code_test

import (
	"slices"
	"strconv"
	"testing"

	"rostrum/api"
	"rostrum/code"
	"rostrum/datum"
)

// P13.1: the table, row by row.

func TestExample(t *testing.T) {
	wantCode(t, "(+ 1 2)", nodes(t, "(+ 1 2)"), "frame 7, const 0, push, const 1, push, global 0, call 2, halt; 1 2; +")
}

func TestProgramWithoutForms(t *testing.T) {
	for _, l := range [][]api.Node{nil, {}} {
		wantCode(t, "no forms", l, "halt; ; ")
	}
}

func TestEachNodeOutside(t *testing.T) {
	for _, c := range []struct {
		what string
		n    api.Node
		want string
	}{
		{"const", konst(5), "const 0, halt; 5; "},
		{"a constant that is a list", quoted(list(sym("a"), list())), "const 0, halt; (a ()); "},
		{"local", local(3, 4), "local 3 4, halt; ; "},
		{"global", global("x"), "global 0, halt; ; x"},
		{"set", set(1, 2, local(3, 4)), "local 3 4, set 1 2, halt; ; "},
		{"setg", setG("x", local(3, 4)), "local 3 4, setg 0, halt; ; x"},
		{"define", define("x", local(3, 4)), "local 3 4, define 0, halt; ; x"},
		{"if", choice(local(1, 1), local(2, 2), local(3, 3)), "local 1 1, jumpf 4, local 2 2, jump 5, local 3 3, halt; ; "},
		{"lambda", lambda(2, 0, local(0, 1)), "closure 2 4, jump 4, local 0 1, return, halt; ; "},
		{"lambda with a rest", lambda(2, 1, local(0, 1)), "closure 2 5, jump 4, local 0 1, return, halt; ; "},
		{"lambda of a rest alone", lambda(0, 1, local(0, 0)), "closure 2 1, jump 4, local 0 0, return, halt; ; "},
		{"seq", seq(local(1, 1), local(2, 2), local(3, 3)), "local 1 1, local 2 2, local 3 3, halt; ; "},
		{"seq of one", seq(local(1, 1)), "local 1 1, halt; ; "},
		{"call", call(local(1, 1), local(2, 2), local(3, 3)), "frame 7, local 2 2, push, local 3 3, push, local 1 1, call 2, halt; ; "},
		{"call without arguments", call(local(1, 1)), "frame 3, local 1 1, call 0, halt; ; "},
	} {
		wantCode(t, c.what, []api.Node{c.n}, c.want)
	}
}

// TestEachNodeInTailPlace: each is the body of a lambda.
func TestEachNodeInTailPlace(t *testing.T) {
	x, y, z := local(1, 1), local(2, 2), local(3, 3)
	for _, c := range []struct {
		what string
		n    api.Node
		want string // behind the closure, with the place behind the body ahead
	}{
		{"const", konst(5), "4, const 0, return, halt; 5; "},
		{"local", x, "4, local 1 1, return, halt; ; "},
		{"global", global("x"), "4, global 0, return, halt; ; x"},
		{"set", set(1, 2, x), "5, local 1 1, set 1 2, return, halt; ; "},
		{"setg", setG("x", x), "5, local 1 1, setg 0, return, halt; ; x"},
		{"define", define("x", x), "5, local 1 1, define 0, return, halt; ; x"},
		{"if", choice(x, y, z), "8, local 1 1, jumpf 6, local 2 2, return, local 3 3, return, halt; ; "},
		{"lambda", lambda(0, 0, x), "7, closure 4 0, jump 6, local 1 1, return, return, halt; ; "},
		{"seq", seq(x, y), "5, local 1 1, local 2 2, return, halt; ; "},
		{"seq of one", seq(x), "4, local 1 1, return, halt; ; "},
		{"call", call(x, y), "6, local 2 2, push, local 1 1, call 1, halt; ; "},
		{"a seq that ends with a call", seq(call(x), call(y)), "7, frame 5, local 1 1, call 0, local 2 2, call 0, halt; ; "},
		{"an if with calls", choice(call(x), call(y), call(z)), "10, frame 5, local 1 1, call 0, jumpf 8, local 2 2, call 0, local 3 3, call 0, halt; ; "},
		{"an if within an if", choice(x, choice(x, y, z), y), "12, local 1 1, jumpf 10, local 1 1, jumpf 8, local 2 2, return, local 3 3, return, local 2 2, return, halt; ; "},
		{"what is set is in no tail place", set(0, 0, call(x)), "7, frame 5, local 1 1, call 0, set 0 0, return, halt; ; "},
		{"what is set is no if in tail place", setG("x", choice(x, y, z)), "9, local 1 1, jumpf 6, local 2 2, jump 7, local 3 3, setg 0, return, halt; ; x"},
		{"a test is in no tail place", choice(choice(x, y, z), y, z), "12, local 1 1, jumpf 6, local 2 2, jump 7, local 3 3, jumpf 10, local 2 2, return, local 3 3, return, halt; ; "},
		{"arguments and the operator are in no tail place", call(call(x), call(y)), "10, frame 5, local 2 2, call 0, push, frame 9, local 1 1, call 0, call 1, halt; ; "},
		{"an argument that is a lambda", call(x, lambda(1, 0, y)), "9, closure 4 2, jump 6, local 2 2, return, push, local 1 1, call 1, halt; ; "},
	} {
		wantCode(t, c.what, []api.Node{lambda(0, 0, c.n)}, "closure 2 0, jump "+c.want)
	}
}

func TestFormsOneBehindTheOther(t *testing.T) {
	x, y := local(1, 1), local(2, 2)
	wantCode(t, "forms", []api.Node{x, y, seq(x, y), x}, "local 1 1, local 2 2, local 1 1, local 2 2, local 1 1, halt; ; ")
	wantCode(t, "calls", []api.Node{call(x), call(y)}, "frame 3, local 1 1, call 0, frame 6, local 2 2, call 0, halt; ; ")
	wantCode(t, "seq of calls outside", []api.Node{seq(call(x), call(y))}, "frame 3, local 1 1, call 0, frame 6, local 2 2, call 0, halt; ; ")
	wantCode(t, "ifs", []api.Node{choice(x, x, x), choice(y, y, y)}, "local 1 1, jumpf 4, local 1 1, jump 5, local 1 1, local 2 2, jumpf 9, local 2 2, jump 10, local 2 2, halt; ; ")
	wantCode(t, "an if in an if's else", []api.Node{choice(x, y, choice(y, x, y))}, "local 1 1, jumpf 4, local 2 2, jump 9, local 2 2, jumpf 8, local 1 1, jump 9, local 2 2, halt; ; ")
	wantCode(t, "lambdas", []api.Node{lambda(0, 0, x), lambda(1, 1, y)}, "closure 2 0, jump 4, local 1 1, return, closure 6 3, jump 8, local 2 2, return, halt; ; ")
	wantCode(t, "a define of a lambda", nodes(t, "(define (f x . r) (if x (g r) 'a)) (f 1)"), "closure 2 3, jump 10, local 0 0, jumpf 8, local 0 1, push, global 0, call 1, const 0, return, define 1, frame 16, const 1, push, global 1, call 1, halt; a 1; g f")
}

// TestConstsAndNames: in the order in which the instructions meet them, each once.
func TestConstsAndNames(t *testing.T) {
	wantCode(t, "numbers", []api.Node{konst(2), konst(1), konst(2), konst(3), konst(1)}, "const 0, const 1, const 0, const 2, const 1, halt; 2 1 3; ")
	wantCode(t, "names", []api.Node{global("b"), global("a"), global("b"), setG("c", global("a")), define("b", konst(1))}, "global 0, global 1, global 0, global 1, setg 2, const 0, define 0, halt; 1; b a c")
	wantCode(t, "an operator behind its arguments", []api.Node{call(global("f"), global("x"), konst(2), call(global("g"), konst(1)))}, "frame 13, global 0, push, const 0, push, frame 10, const 1, push, global 1, call 1, push, global 2, call 3, halt; 2 1; x g f")
	wantCode(t, "a name that is set behind what it is set to", []api.Node{setG("x", global("y")), define("z", setG("w", global("z")))}, "global 0, setg 1, global 2, setg 3, define 2, halt; ; y x z w")
	wantCode(t, "a name that is set to itself", []api.Node{setG("x", global("x"))}, "global 0, setg 0, halt; ; x")
	l := []api.Datum{num(5), {Kind: api.DString, Text: "5"}, sym("x"), {Kind: api.DString, Text: "x"}, list(), {Kind: api.DVector}, list(num(5)), list(list(num(5))), {Kind: api.DVector, List: []api.Datum{num(5)}}, {Kind: api.DBool, Text: "#t"}, {Kind: api.DString, Text: "#t"}, {Kind: api.DList, List: []api.Datum{num(5)}, Tail: []api.Datum{num(5)}}, list(num(5), sym("x"), num(5)), {Kind: api.DString}}
	var n []api.Node
	for range 2 {
		for _, d := range l {
			n = append(n, quoted(d))
		}
	}
	// nil and empty lists are the same
	n = append(n, quoted(api.Datum{Kind: api.DList, List: []api.Datum{}, Tail: []api.Datum{}}), quoted(api.Datum{Kind: api.DNumber, Text: "5", List: []api.Datum{}}))
	c, e := code.Compile(n)
	if e != api.OK || len(c.Consts) != len(l) {
		t.Fatalf("%d constants of %d data: %v", len(c.Consts), len(l), e)
	}
	for i, in := range c.Instrs[:len(n)] {
		if in.A != []int{i % len(l), 4, 0}[max(0, i-2*len(l)+1)] || !datum.Same(c.Consts[in.A], n[i].Datum) {
			t.Errorf("the constant of %d is %d: %s", i, in.A, datum.Print(c.Consts[in.A]))
		}
	}
}

func TestManyConstsAndNames(t *testing.T) {
	var l []api.Node
	for i := range api.MaxCode - 1 {
		if i%2 == 0 {
			l = append(l, konst(i))
		} else {
			l = append(l, global("x"+strconv.Itoa(i)))
		}
	}
	c, e := code.Compile(l)
	if e != api.OK || len(c.Consts) != api.MaxCode/2 || len(c.Names) != api.MaxCode/2-1 || len(c.Instrs) != api.MaxCode {
		t.Errorf("%d, %d, %d, %v", len(c.Instrs), len(c.Consts), len(c.Names), e)
	}
	for i := range c.Consts {
		if c.Consts[i].Text != strconv.Itoa(2*i) || c.Instrs[2*i].A != i {
			t.Fatalf("the constant %d is %s", i, datum.Print(c.Consts[i]))
		}
	}
}

// P13.1: nodes that can't be.

// wrongNodes is nodes that can't be, each wrong in one way.
func wrongNodes() map[string]api.Node {
	x := konst(1)
	one, some := []api.Node{x}, []api.Datum{num(1)}
	m := map[string]api.Node{
		"Op 0": {}, "Op -1": {Op: -1}, "Op 11": {Op: 11}, "Op 11 with a Kid": {Op: 11, Kids: one}, "a huge Op": {Op: 1 << 62}, "the least Op": {Op: -1 << 63},
		"no Kids of an if": choice(), "one Kid of an if": choice(x), "two Kids of an if": choice(x, x), "four Kids of an if": choice(x, x, x, x),
		"an empty seq": seq(), "an empty call": call(), "256 arguments": call(repeat(x, 257)...), "many arguments": call(repeat(x, 100000)...),
		"a name that is empty": global(""), "a name with a blank": global("a b"), "a name that is a number": global("5"), "a dot as a name": global("."), "a name of 65 bytes": global(rep("a", 65)), "a name of a strange byte": global("a\xff"),
		"a constant that is none": {Op: api.NConst}, "a number that is none": quoted(api.Datum{Kind: api.DNumber, Text: "01"}), "a symbol that is none": quoted(sym("")), "a list in a list's Tail": quoted(api.Datum{Kind: api.DList, List: some, Tail: []api.Datum{list()}}), "a datum too deep": quoted(deepDatum(65)), "a kind of data that is none": quoted(api.Datum{Kind: 7}),
	}
	for op, n := range map[string]api.Node{"const": x, "local": local(0, 0), "global": global("g"), "set": set(0, 0, x), "setg": setG("g", x), "define": define("g", x), "lambda": lambda(0, 0, x)} {
		want := len(n.Kids)
		for _, k := range []int{0, 1, 2, 3, 5} {
			if k != want {
				w := n
				w.Kids = repeat(x, k)
				m[op+" of "+strconv.Itoa(k)+" Kids"] = w
			}
		}
	}
	for op, n := range map[string]api.Node{"const": x, "local": local(0, 0), "set": set(0, 0, x), "if": choice(x, x, x), "lambda": lambda(0, 0, x), "seq": seq(x), "call": call(x)} {
		n.Text = "a"
		m[op+" with a Text"] = n
	}
	for op, n := range map[string]api.Node{"local": local(0, 0), "global": global("g"), "set": set(0, 0, x), "setg": setG("g", x), "define": define("g", x), "if": choice(x, x, x), "lambda": lambda(0, 0, x), "seq": seq(x), "call": call(x)} {
		for i, d := range []api.Datum{num(1), {Kind: 1}, {Text: "a"}, {List: some}, {Tail: some}, list(), {Kind: -1}} {
			n.Datum = d
			m[op+" with a Datum "+strconv.Itoa(i)] = n
		}
	}
	for op, n := range map[string]api.Node{"setg": setG("g", x), "define": define("g", x)} {
		for _, s := range []string{"", "a b", "5", "-5a", ".", "#t", rep("a", 65)} {
			n.Text = s
			m[op+" of the Text "+s] = n
		}
	}
	for op, n := range map[string]api.Node{"const": x, "global": global("g"), "setg": setG("g", x), "define": define("g", x), "if": choice(x, x, x), "seq": seq(x), "call": call(x)} {
		for _, v := range []int{-1, 1, 2, -1 << 63, 1<<63 - 1} {
			n.A, n.B = v, 0
			m[op+" with A "+strconv.Itoa(v)] = n
			n.A, n.B = 0, v
			m[op+" with B "+strconv.Itoa(v)] = n
		}
	}
	for _, v := range []int{-1, -1 << 63, 101, 1<<63 - 1} {
		m["local with A "+strconv.Itoa(v)], m["set with A "+strconv.Itoa(v)] = local(v, 0), set(v, 0, x)
	}
	for _, v := range []int{-1, -1 << 63, 17, 1<<63 - 1} {
		m["local with B "+strconv.Itoa(v)], m["set with B "+strconv.Itoa(v)], m["lambda with A "+strconv.Itoa(v)] = local(0, v), set(0, v, x), lambda(v, 0, x)
	}
	for _, v := range []int{-1, -1 << 63, 2, 1<<63 - 1} {
		m["lambda with B "+strconv.Itoa(v)] = lambda(0, v, x)
	}
	return m
}

func deepDatum(n int) api.Datum {
	d := num(1)
	for range n {
		d = list(d)
	}
	return d
}

func TestNodesThatCannotBe(t *testing.T) {
	x := konst(1)
	full := repeat(x, api.MaxCode)
	for what, w := range wrongNodes() {
		for place, l := range map[string][]api.Node{
			"outside": {w}, "the first": {w, x}, "the last": {x, x, w}, "a test": {choice(w, x, x)}, "a then": {choice(x, w, x)}, "an else": {choice(x, x, w)},
			"an operator": {call(w, x)}, "an argument": {call(x, x, w)}, "a body": {lambda(0, 0, w)}, "in a seq": {seq(x, w)}, "set": {set(0, 0, w)}, "set global": {setG("g", w)}, "defined": {define("g", w)}, "deep": {nested(w, 399)},
			"behind too many": append(slices.Clone(full), w), "within too many": {seq(append(slices.Clone(full), w)...)},
		} {
			wantNone(t, what+" "+place, l, api.ErrCode)
		}
	}
}

func TestEdgesOfNodes(t *testing.T) {
	x := konst(1)
	for what, n := range map[string]api.Node{
		"local 0 0": local(0, 0), "local 100 16": local(100, 16), "set 100 16": set(100, 16, x), "lambda 16 1": lambda(16, 1, x), "lambda 0 0": lambda(0, 0, x), "lambda 16 0": lambda(16, 0, x), "lambda 0 1": lambda(0, 1, x),
		"255 arguments": call(repeat(x, 256)...), "a long seq": seq(repeat(x, 10000)...), "a name of 64 bytes": global(rep("a", 64)), "an own name": global("if"), "an own name that is set": setG("lambda", x), "an own name that is defined": define("...", x), "a datum of depth 64": quoted(deepDatum(64)),
		"a define within": lambda(0, 0, define("x", x)), "a string": quoted(api.Datum{Kind: api.DString, Text: rep("\xff", 100000)}),
		"empty lists": {Op: api.NLocal, Datum: api.Datum{List: []api.Datum{}, Tail: []api.Datum{}}, Kids: []api.Node{}},
	} {
		wantOK(t, what, []api.Node{n})
	}
	wantCode(t, "lambda 16 1", []api.Node{lambda(16, 1, x)}, "closure 2 33, jump 4, const 0, return, halt; 1; ")
}

func TestDeepNodes(t *testing.T) {
	around := map[string]func(n api.Node) api.Node{
		"seq": func(n api.Node) api.Node { return seq(n) }, "seq behind": func(n api.Node) api.Node { return seq(local(0, 0), n) }, "lambda": func(n api.Node) api.Node { return lambda(0, 0, n) }, "operator": func(n api.Node) api.Node { return call(n) }, "argument": func(n api.Node) api.Node { return call(local(0, 0), n) },
		"test": func(n api.Node) api.Node { return choice(n, local(0, 0), local(0, 0)) }, "then": func(n api.Node) api.Node { return choice(local(0, 0), n, local(0, 0)) }, "else": func(n api.Node) api.Node { return choice(local(0, 0), local(0, 0), n) },
		"set": func(n api.Node) api.Node { return set(0, 0, n) }, "setg": func(n api.Node) api.Node { return setG("x", n) }, "define": func(n api.Node) api.Node { return define("x", n) },
	}
	for what, f := range around {
		for _, k := range []int{1, 398, 399, 400, 401, 500, 1 << 16} {
			n := konst(1)
			for range k {
				n = f(n)
			}
			if k < 400 {
				wantOK(t, what+" "+strconv.Itoa(k), []api.Node{n})
			} else {
				wantNone(t, what+" "+strconv.Itoa(k), []api.Node{n}, api.ErrCode)
			}
		}
	}
	// one that was met less deep ahead, or deeper, in the same memory
	part := seq(nested(konst(1), 10))
	wantOK(t, "399 behind 10", []api.Node{part, nested(part, 388)})
	wantNone(t, "400 behind 10", []api.Node{part, nested(part, 389)}, api.ErrCode)
	wantOK(t, "10 behind 399", []api.Node{nested(part, 388), part})
	wantNone(t, "400 behind 399", []api.Node{nested(part, 388), part, nested(part, 389)}, api.ErrCode)
	// lists that begin at one place, but are not one
	l := []api.Node{konst(1), {}}
	wantNone(t, "a longer list at one place", []api.Node{seq(l[:1]...), {Op: api.NSeq, Kids: l[:1]}, {Op: api.NSeq, Kids: l}}, api.ErrCode)
}

// TestNodesThatHoldThemselves, and such as are part of others so often that nobody could count them: it ends.
func TestNodesThatHoldThemselves(t *testing.T) {
	l := make([]api.Node, 3)
	l[0] = konst(1)
	l[1] = seq(l[0])
	l[1].Kids = l
	l[2] = api.Node{Op: api.NCall, Kids: l}
	wantNone(t, "a seq in itself", l, api.ErrCode)
	wantNone(t, "a seq in itself", l[1:2], api.ErrCode)
	d := []api.Datum{num(1), {Kind: api.DVector}}
	d[1].List = d
	wantNone(t, "a datum in itself", []api.Node{quoted(d[1])}, api.ErrCode)
	many := konst(1)
	for range 399 {
		many = seq(many, many)
		many.Kids[1].Kids = many.Kids[0].Kids
	}
	wantNone(t, "2^399 nodes", []api.Node{many}, api.ErrFull)
	wantNone(t, "2^400 nodes, too deep", []api.Node{seq(many)}, api.ErrCode)
	wrong := api.Node{}
	for range 399 {
		wrong = seq(konst(1), konst(1), wrong)
	}
	wantNone(t, "a wrong one below", []api.Node{many, wrong}, api.ErrCode)
}

// P13.1: MaxCode.

func TestFull(t *testing.T) {
	x := local(0, 0)
	for what, c := range map[string]struct {
		n    api.Node
		size int
	}{
		"local": {x, 1}, "const": {konst(1), 1}, "global": {global("x"), 1}, "set": {set(0, 0, x), 2}, "setg": {setG("x", x), 2}, "define": {define("x", x), 2}, "if": {choice(x, x, x), 5}, "lambda": {lambda(0, 0, x), 4}, "seq": {seq(x, x, x), 3}, "call": {call(x, x, x), 7}, "call of none": {call(x), 3},
		"a lambda of a call": {lambda(0, 0, call(x)), 4}, "a lambda of an if": {lambda(0, 0, choice(x, x, x)), 8}, "a lambda of a lambda": {lambda(0, 0, lambda(0, 0, x)), 7},
	} {
		fit := append(repeat(x, api.MaxCode-1-c.size), c.n)
		got, e := code.Compile(fit)
		if e != api.OK || len(got.Instrs) != api.MaxCode || code.Verify(got) != api.OK {
			t.Errorf("%s: %d instructions, %v", what, len(got.Instrs), e)
		}
		wantNone(t, what+", one more", append(repeat(x, api.MaxCode-c.size), c.n), api.ErrFull)
		wantNone(t, what+", one ahead", append([]api.Node{c.n}, repeat(x, api.MaxCode-c.size)...), api.ErrFull)
		wantNone(t, what+", again and again", repeat(c.n, api.MaxCode), api.ErrFull)
		wantNone(t, what+", within a lambda", []api.Node{lambda(0, 0, seq(repeat(c.n, api.MaxCode)...))}, api.ErrFull)
	}
	wantNone(t, "a long seq", []api.Node{seq(repeat(x, 1<<20)...)}, api.ErrFull)
}

// Memory

func TestCompileAnswersNewMemory(t *testing.T) {
	l := nodes(t, "5 x '(a (b . c) #(d)) '() (quote #(1 2)) '(a (b . c) #(d)) (if a '(b) c) (set! x '(1)) (define x '(1 2)) (lambda (a b . c) (begin a b c '(d))) (f 1 '(2) (g))")
	given := roomyNodes(l)
	before := notedNodes(given)
	c, e := code.Compile(given)
	again, f := code.Compile(given)
	if e != api.OK || f != api.OK || text(c) != text(again) {
		t.Fatal(e, f)
	}
	old, now := map[any]int{}, map[any]int{}
	nodePlaces(given, old)
	codePlaces(c, now)
	codePlaces(again, now)
	for p, n := range now {
		if n > 1 || old[p] > 0 {
			t.Fatal("the answer's memory is shared")
		}
	}
	if notedNodes(given) != before {
		t.Error("what was handed in has changed")
	}
}
