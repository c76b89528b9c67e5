package prims_test

import (
	"strconv"
	"testing"

	"rostrum/api"
	"rostrum/heap"
	"rostrum/prims"
)

// P15.1

func TestNames(t *testing.T) {
	names := []string{
		"+", "-", "*", "quotient", "remainder", "=", "<", ">", "eq?", "equal?",
		"cons", "car", "cdr", "set-car!", "set-cdr!",
		"null?", "pair?", "list?", "number?", "symbol?", "string?", "vector?", "procedure?", "boolean?",
		"not", "list", "vector", "length", "reverse", "append",
		"vector-ref", "vector-set!", "vector-length", "make-vector", "string-append", "string-length",
		"string->symbol", "symbol->string", "number->string", "string->number", "error",
		"apply", "call/cc", "dynamic-wind", "suspend", "root-ref", "root-set!",
	}
	if prims.Count() != len(names) {
		t.Errorf("Count: %d, want %d", prims.Count(), len(names))
	}
	for n, name := range names {
		if prims.Name(n) != name {
			t.Errorf("Name(%d) = %q, want %q", n, prims.Name(n), name)
		}
		if m, found := prims.Find(name); m != n || !found {
			t.Errorf("Find(%q) = %d, %v, want %d", name, m, found, n)
		}
	}
	for _, n := range []int{-1 << 63, -1, len(names), 1000, 1<<63 - 1} {
		if s := prims.Name(n); s != "" {
			t.Errorf("Name(%d) = %q", n, s)
		}
	}
	for _, s := range []string{"", " ", "x", "car ", "Car", "call", "+ -", "/"} {
		if n, found := prims.Find(s); n != 0 || found {
			t.Errorf("Find(%q) = %d, %v", s, n, found)
		}
	}
}

// Objects

func TestHeapsThatNoCallMade(t *testing.T) {
	for _, h := range []*heap.Heap{nil, {}} {
		for _, n := range []int{-1, 0, 10, 41, 100} {
			for _, args := range []int{-1, 0, 1} {
				if w, e := prims.Apply(h, n, args); w != 0 || e != api.ErrNil {
					t.Errorf("Apply: %d, %v", w, e)
				}
			}
		}
		for _, d := range []api.Datum{num("5"), num("x"), list(), str("a"), {}, vec(num("1"))} {
			if w, e := prims.Load(h, d); w != 0 || e != api.ErrNil {
				t.Errorf("Load: %d, %v", w, e)
			}
		}
		for _, s := range []string{"5", "x", rep("9", 50)} {
			if w, e := prims.Number(h, s); w != 0 || e != api.ErrNil {
				t.Errorf("Number: %d, %v", w, e)
			}
		}
		for _, w := range []api.Word{1, 5, api.Nil, api.True, 2, api.Prim0} {
			if s := prims.Show(h, w); s != "" {
				t.Errorf("Show: %q", s)
			}
			if s, is := prims.Digits(h, w); s != "" || is {
				t.Errorf("Digits: %q, %v", s, is)
			}
			if prims.Equal(h, w, w) {
				t.Error("Equal")
			}
		}
	}
}

// P15.2

func TestApplyOfWrongNumbers(t *testing.T) {
	h := newHeap(t, 100, 100)
	load(t, h, "1 2 (3)")
	before := h.Counts()
	for _, c := range []struct{ n, args int }{{-1, 0}, {47, 0}, {-1 << 63, 1}, {1<<63 - 1, 1}, {0, -1}, {0, 4}, {0, -1 << 63}, {0, 1<<63 - 1}, {47, 4}, {11, 4}, {41, 4}} {
		if w, e := prims.Apply(h, c.n, c.args); w != 0 || e != api.ErrArg {
			t.Errorf("Apply(%d, %d) = %d, %v", c.n, c.args, w, e)
		}
	}
	if h.Roots() != 3 || h.Counts() != before {
		t.Error("something has changed")
	}
}

// TestApplyTakesTheLastRoots, in their order; and all stay.
func TestApplyTakesTheLastRoots(t *testing.T) {
	h := newHeap(t, 100, 100)
	load(t, h, "100 20 3")
	for args, want := range []string{"", "-3", "17", "77"} {
		w, e := apply(t, h, "-", args)
		if args == 0 && e != api.ErrCount || args > 0 && (e != api.OK || prims.Show(h, w) != want) {
			t.Errorf("- of %d: %s, %v", args, prims.Show(h, w), e)
		}
	}
	w, e := apply(t, h, "list", 2)
	if e != api.OK || prims.Show(h, w) != "(20 3)" {
		t.Errorf("list of 2: %s, %v", prims.Show(h, w), e)
	}
}

// TestCounts: each primitive with each count of arguments; that is asked ahead of their types.
func TestCounts(t *testing.T) {
	takes := map[string][2]int{
		"+": {0, 9}, "-": {1, 9}, "*": {0, 9}, "quotient": {2, 2}, "remainder": {2, 2}, "=": {2, 2}, "<": {2, 2}, ">": {2, 2}, "eq?": {2, 2}, "equal?": {2, 2},
		"cons": {2, 2}, "car": {1, 1}, "cdr": {1, 1}, "set-car!": {2, 2}, "set-cdr!": {2, 2},
		"null?": {1, 1}, "pair?": {1, 1}, "list?": {1, 1}, "number?": {1, 1}, "symbol?": {1, 1}, "string?": {1, 1}, "vector?": {1, 1}, "procedure?": {1, 1}, "boolean?": {1, 1},
		"not": {1, 1}, "list": {0, 9}, "vector": {0, 9}, "length": {1, 1}, "reverse": {1, 1}, "append": {0, 9},
		"vector-ref": {2, 2}, "vector-set!": {3, 3}, "vector-length": {1, 1}, "make-vector": {2, 2}, "string-append": {0, 9}, "string-length": {1, 1},
		"string->symbol": {1, 1}, "symbol->string": {1, 1}, "number->string": {1, 1}, "string->number": {1, 1}, "error": {1, 9},
		"apply": {0, 9}, "call/cc": {0, 9}, "dynamic-wind": {0, 9}, "suspend": {0, 9}, "root-ref": {0, 9}, "root-set!": {0, 9},
	}
	if len(takes) != prims.Count() {
		t.Fatal(len(takes))
	}
	for name, c := range takes {
		for _, arg := range []api.Word{1, api.Void} {
			h := newHeap(t, 100, 100)
			for args := range 10 {
				before := h.Counts()
				_, e := apply(t, h, name, args)
				if (e == api.ErrCount) != (args < c[0] || args > c[1]) {
					t.Errorf("%s of %d: %v", name, args, e)
				}
				if e != api.OK && h.Counts() != before {
					t.Errorf("%s of %d: something has changed", name, args)
				}
				ok(t, h.Push(arg))
			}
		}
	}
}

// TestTypes: each argument of each primitive, of each type.
func TestTypes(t *testing.T) {
	values := map[string]string{"small": "5", "big": rep("9", 20), "list": "(1 2)", "pair": "(1 . 2)", "empty": "()", "vector": "#(1 2)", "string": `"ab"`, "symbol": "ab", "truth": "#t", "false": "#f"}
	is := map[byte][]string{
		'N': {"small", "big"}, 'S': {"string"}, 'L': {"list", "empty"}, 'V': {"vector"}, 'P': {"list", "pair"}, 'Y': {"symbol"},
	}
	good := map[byte]string{'N': "1", 'S': `"a"`, 'L': "(1)", 'V': "#(1 2 3)", 'P': "(1)", 'Y': "a", 'X': "()"}
	for name, types := range map[string]string{
		"+": "NNN", "-": "NNN", "*": "NNN", "quotient": "NN", "remainder": "NN", "=": "NN", "<": "NN", ">": "NN", "eq?": "XX", "equal?": "XX",
		"cons": "XX", "car": "P", "cdr": "P", "set-car!": "PX", "set-cdr!": "PX",
		"null?": "X", "pair?": "X", "list?": "X", "number?": "X", "symbol?": "X", "string?": "X", "vector?": "X", "procedure?": "X", "boolean?": "X",
		"not": "X", "list": "XXX", "vector": "XXX", "length": "L", "reverse": "L", "append": "LLL",
		"vector-ref": "VN", "vector-set!": "VNX", "vector-length": "V", "make-vector": "NX", "string-append": "SSS", "string-length": "S",
		"string->symbol": "S", "symbol->string": "Y", "number->string": "N", "string->number": "S", "error": "SXX",
	} {
		for place := range len(types) {
			for value, text := range values {
				h := newHeap(t, 1000, 1000)
				for i := range len(types) {
					s := good[types[i]]
					if i == place {
						s = text
					}
					load(t, h, s)
				}
				fits := types[place] == 'X'
				for _, s := range is[types[place]] {
					fits = fits || s == value
				}
				before := h.Counts()
				_, e := apply(t, h, name, len(types))
				if (e == api.ErrType) == fits {
					t.Errorf("%s with the argument %d a %s: %v", name, place, value, e)
				}
				if e != api.OK && h.Counts() != before {
					t.Errorf("%s with the argument %d a %s: something has changed", name, place, value)
				}
			}
		}
	}
	// words that no datum has
	for _, name := range []string{"+", "car", "length", "vector-length", "string-length", "symbol->string", "number->string", "error", "append", "string-append"} {
		for _, w := range []api.Word{api.Void, api.Unbound, api.Prim0, -1000, -1 << 21} {
			h := newHeap(t, 100, 100)
			ok(t, h.Push(w))
			if _, e := apply(t, h, name, 1); e != api.ErrType {
				t.Errorf("%s of the word %d: %v", name, w, e)
			}
		}
	}
}

// P15.6

func TestArithmetic(t *testing.T) {
	most := rep("9", api.MaxDigits)
	wantRows(t, []row{
		{"+", "", "0", 0}, {"+", "5", "5", 0}, {"+", "1 2", "3", 0}, {"+", "1 2 3 -10", "-4", 0}, {"+", most, most, 0}, {"+", "-" + most, "-" + most, 0},
		{"+", "1099511627776 1", "1099511627777", 0}, {"+", "-1099511627776 -1", "-1099511627777", 0}, {"+", "1099511627777 -1", "1099511627776", 0},
		{"-", "5", "-5", 0}, {"-", "-5", "5", 0}, {"-", "0", "0", 0}, {"-", most, "-" + most, 0}, {"-", "5 7", "-2", 0}, {"-", "100 20 3", "77", 0}, {"-", "1 2 3 4", "-8", 0},
		{"*", "", "1", 0}, {"*", "5", "5", 0}, {"*", "-3 4", "-12", 0}, {"*", "2 3 4", "24", 0}, {"*", "1000000000000 1000000000000", "1" + rep("0", 24), 0}, {"*", most + " 1", most, 0},
		{"quotient", "7 2", "3", 0}, {"quotient", "-7 2", "-3", 0}, {"quotient", "7 -2", "-3", 0}, {"quotient", "-7 -2", "3", 0}, {"quotient", "0 5", "0", 0}, {"quotient", most + " " + most, "1", 0}, {"quotient", "1 " + most, "0", 0},
		{"remainder", "7 2", "1", 0}, {"remainder", "-7 2", "-1", 0}, {"remainder", "7 -2", "1", 0}, {"remainder", "-7 -2", "-1", 0}, {"remainder", "6 3", "0", 0}, {"remainder", "5 " + most, "5", 0},
		// errors
		{"+", most + " 1", "", api.ErrBig}, {"+", most + " 1 -1", "", api.ErrBig}, {"-", most + " -1 1", "", api.ErrBig}, {"-", "-" + most + " 1", "", api.ErrBig}, {"*", most + " 10 0", "", api.ErrBig}, {"*", "0 " + most + " 10", "0", 0},
		{"+", most + " 1 x", "", api.ErrType}, {"-", most + " -1 \"a\"", "", api.ErrType}, {"*", most + " 10 ()", "", api.ErrType},
		{"quotient", "1 0", "", api.ErrZero}, {"remainder", "1 0", "", api.ErrZero}, {"quotient", "0 0", "", api.ErrZero}, {"quotient", "x 0", "", api.ErrType}, {"remainder", most + " 0", "", api.ErrZero},
		// comparisons
		{"=", "1 1", "#t", 0}, {"=", "1 2", "#f", 0}, {"=", most + " " + most, "#t", 0}, {"=", most + " -" + most, "#f", 0}, {"=", "0 0", "#t", 0},
		{"<", "1 2", "#t", 0}, {"<", "2 1", "#f", 0}, {"<", "1 1", "#f", 0}, {"<", "-2 -1", "#t", 0}, {"<", "-" + most + " 5", "#t", 0}, {"<", "9 10", "#t", 0}, {"<", "5 " + most, "#t", 0},
		{">", "1 2", "#f", 0}, {">", "2 1", "#t", 0}, {">", "1 1", "#f", 0}, {">", "-2 -1", "#f", 0}, {">", "10 9", "#t", 0}, {">", most + " 5", "#t", 0},
	})
}

// TestWordsOfNumbers: of small ones, 2n + 1; of others a KBig. (P15.3)
func TestWordsOfNumbers(t *testing.T) {
	h := newHeap(t, 1000, 1000)
	for n, bigger := range map[int]int{0: 0, 1: 0, -1: 0, 5: 0, 1 << 40: 0, -1 << 40: 0, 1<<40 - 1: 0, 1<<40 + 1: 1, -1<<40 - 1: 1, 1<<62 - 1: 1, -1 << 63: 1, 1<<63 - 1: 1} {
		s := strconv.Itoa(n)
		for what, w := range map[string]func() (api.Word, api.Errno){
			"Number": func() (api.Word, api.Errno) { return prims.Number(h, s) },
			"Load":   func() (api.Word, api.Errno) { return prims.Load(h, num(s)) },
			"+":      func() (api.Word, api.Errno) { load(t, h, s); return apply(t, h, "+", 1) },
		} {
			w, e := w()
			if e != api.OK || bigger == 0 && w != api.Word(2*n+1) || bigger == 1 && (h.Kind(w) != api.KBig || h.String(w) != s) {
				t.Errorf("%s of %s: %d, %v", what, s, w, e)
			}
			if d, is := prims.Digits(h, w); d != s || !is {
				t.Errorf("Digits of %s: %s, %v", s, d, is)
			}
		}
	}
	for _, s := range []string{"", "-", "-0", "01", "+1", "a", "1 ", rep("9", api.MaxDigits+1)} {
		before := h.Counts()
		if w, e := prims.Number(h, s); w != 0 || e != api.ErrNumber {
			t.Errorf("Number(%q) = %d, %v", s, w, e)
		}
		wantCells(t, s, h, before, 0)
	}
	if w, e := prims.Number(h, "-"+rep("9", api.MaxDigits)); e != api.OK || h.Kind(w) != api.KBig {
		t.Errorf("the least number: %v", e)
	}
	tiny := newHeap(t, 16, 16)
	if w, e := prims.Number(tiny, rep("9", 121)); w != 0 || e != api.ErrMemory {
		t.Errorf("a number that is too great for the heap: %d, %v", w, e)
	}
}

func TestDigits(t *testing.T) {
	h := newHeap(t, 1000, 1000)
	text := func(kind int, s string) api.Word {
		w, e := h.Text(kind, s)
		ok(t, e)
		return w
	}
	// each odd word is a small number, and each KBig of digits a number
	for s, w := range map[string]api.Word{"0": 1, "-1": -1, "-2": -3, "4611686018427387903": 1<<63 - 1, "-4611686018427387904": -1<<63 + 1, "5": text(api.KBig, "5"), rep("7", 200): text(api.KBig, rep("7", 200))} {
		if d, is := prims.Digits(h, w); d != s || !is {
			t.Errorf("Digits of %d: %q, %v, want %s", w, d, is, s)
		}
	}
	for _, w := range []api.Word{api.Nil, api.True, api.Void, api.Prim0, 1 << 40, -1 << 62, text(api.KString, "5"), text(api.KSymbol, "5"), text(api.KBig, "x"), text(api.KBig, ""), text(api.KBig, "007"), one(t, h, "(1)"), one(t, h, "#(1)")} {
		if d, is := prims.Digits(h, w); d != "" || is {
			t.Errorf("Digits of %d: %q, %v", w, d, is)
		}
	}
}

func TestPairs(t *testing.T) {
	wantRows(t, []row{
		{"cons", "1 2", "(1 . 2)", 0}, {"cons", "1 ()", "(1)", 0}, {"cons", "(1) (2 3)", "((1) 2 3)", 0},
		{"car", "(1 2)", "1", 0}, {"cdr", "(1 2)", "(2)", 0}, {"cdr", "(1 . 2)", "2", 0}, {"car", "((1) 2)", "(1)", 0}, {"cdr", "(1)", "()", 0},
		{"car", "()", "", api.ErrType}, {"cdr", "()", "", api.ErrType}, {"car", "#(1)", "", api.ErrType},
		{"set-car!", "(1 2) 5", "#!void", 0}, {"set-cdr!", "(1 2) 5", "#!void", 0}, {"set-car!", "() 5", "", api.ErrType}, {"set-cdr!", "x 5", "", api.ErrType},
		{"null?", "()", "#t", 0}, {"null?", "(1)", "#f", 0}, {"null?", "#f", "#f", 0}, {"null?", "#()", "#f", 0},
		{"pair?", "(1)", "#t", 0}, {"pair?", "(1 . 2)", "#t", 0}, {"pair?", "()", "#f", 0}, {"pair?", "#(1 2)", "#f", 0},
		{"list?", "()", "#t", 0}, {"list?", "(1 2)", "#t", 0}, {"list?", "(1 . 2)", "#f", 0}, {"list?", "(1 2 . 3)", "#f", 0}, {"list?", "#(1)", "#f", 0},
		{"number?", "5", "#t", 0}, {"number?", rep("9", 30), "#t", 0}, {"number?", `"5"`, "#f", 0}, {"number?", "x", "#f", 0}, {"number?", "#t", "#f", 0},
		{"symbol?", "x", "#t", 0}, {"symbol?", `"x"`, "#f", 0}, {"symbol?", "5", "#f", 0},
		{"string?", `"x"`, "#t", 0}, {"string?", "x", "#f", 0}, {"string?", rep("9", 30), "#f", 0},
		{"vector?", "#()", "#t", 0}, {"vector?", "(1)", "#f", 0}, {"vector?", "()", "#f", 0},
		{"procedure?", "car", "#f", 0}, {"procedure?", "5", "#f", 0}, {"procedure?", "()", "#f", 0}, {"procedure?", "(1)", "#f", 0},
		{"boolean?", "#t", "#t", 0}, {"boolean?", "#f", "#t", 0}, {"boolean?", "()", "#f", 0}, {"boolean?", "0", "#f", 0},
		{"not", "#f", "#t", 0}, {"not", "#t", "#f", 0}, {"not", "()", "#f", 0}, {"not", "0", "#f", 0},
	})
	h := newHeap(t, 100, 100)
	load(t, h, "(1 2) x")
	apply(t, h, "set-car!", 2)
	if s := prims.Show(h, h.Root(0)); s != "(x 2)" {
		t.Errorf("set-car!: %s", s)
	}
	apply(t, h, "set-cdr!", 2)
	if s := prims.Show(h, h.Root(0)); s != "(x . x)" || field(t, h, h.Root(0), 1) != h.Root(1) {
		t.Errorf("set-cdr!: %s", s)
	}
}

func TestProcedures(t *testing.T) {
	h := newHeap(t, 100, 100)
	closure, e := h.Make(api.KClosure, 1, 3, api.Nil)
	ok(t, e)
	cont, e := h.Make(api.KCont, api.Nil, api.Nil)
	ok(t, e)
	frame, e := h.Make(api.KFrame, 1, api.Nil, api.Nil, api.Nil)
	ok(t, e)
	last := api.Prim0 - 2*api.Word(prims.Count()-1)
	for w, want := range map[api.Word]api.Word{closure: api.True, cont: api.True, frame: api.False, api.Prim0: api.True, last: api.True, last - 2: api.False, api.Unbound: api.False, api.Void: api.False, api.Prim0 - 1: api.False, -1 << 21: api.False, 1: api.False} {
		ok(t, h.Push(w))
		if got, e := apply(t, h, "procedure?", 1); got != want || e != api.OK {
			t.Errorf("procedure? of %d: %d, %v", w, got, e)
		}
		s := map[api.Word]string{api.True: "#!procedure", api.False: ""}[want]
		if got := prims.Show(h, w); (got == "#!procedure") != (s != "") {
			t.Errorf("%d is shown as %s", w, got)
		}
	}
}

func TestTruthIsOneWord(t *testing.T) {
	h := newHeap(t, 100, 100)
	load(t, h, "1 1")
	if w, e := apply(t, h, "=", 2); w != api.True || e != api.OK {
		t.Errorf("%d, %v", w, e)
	}
	if w, e := apply(t, h, "<", 2); w != api.False || e != api.OK {
		t.Errorf("%d, %v", w, e)
	}
	if w, e := apply(t, h, "list", 0); w != api.Nil || e != api.OK {
		t.Errorf("%d, %v", w, e)
	}
}

// P15.7

func TestLists(t *testing.T) {
	wantRows(t, []row{
		{"list", "", "()", 0}, {"list", "1", "(1)", 0}, {"list", "1 (2) x", "(1 (2) x)", 0}, {"list", "()", "(())", 0},
		{"length", "()", "0", 0}, {"length", "(1)", "1", 0}, {"length", "(1 (2 3) 4)", "3", 0}, {"length", "(1 . 2)", "", api.ErrType}, {"length", "5", "", api.ErrType}, {"length", "#(1)", "", api.ErrType},
		{"reverse", "()", "()", 0}, {"reverse", "(1)", "(1)", 0}, {"reverse", "(1 (2 3) x)", "(x (2 3) 1)", 0}, {"reverse", "(1 . 2)", "", api.ErrType},
		{"append", "", "()", 0}, {"append", "()", "()", 0}, {"append", "(1 2)", "(1 2)", 0}, {"append", "(1) () (2 3) ((4))", "(1 2 3 (4))", 0}, {"append", "(1) 2", "", api.ErrType}, {"append", "(1) (2 . 3)", "", api.ErrType}, {"append", "1 (2)", "", api.ErrType}, {"append", "() ()", "()", 0},
	})
}

// TestAppendMakesNewPairs, of the last list, too; and what is in the lists is the same.
func TestAppendMakesNewPairs(t *testing.T) {
	h := newHeap(t, 1000, 1000)
	load(t, h, `("a") ("b" "c")`)
	before := h.Counts()
	w, e := apply(t, h, "append", 2)
	ok(t, e)
	wantCells(t, "append", h, before, 9)
	old := h.Root(1)
	second := field(t, h, w, 1)
	if second == old || field(t, h, second, 1) == field(t, h, old, 1) || field(t, h, second, 0) != field(t, h, old, 0) {
		t.Error("append shares pairs, or has new items")
	}
	if w, e := apply(t, h, "append", 1); e != api.OK || w == h.Root(1) {
		t.Error("append of one list is that list")
	}
	before = h.Counts()
	w, e = apply(t, h, "reverse", 1)
	ok(t, e)
	wantCells(t, "reverse", h, before, 6)
	if field(t, h, w, 0) != field(t, h, field(t, h, old, 1), 0) {
		t.Error("reverse has new items")
	}
}

// chain pushes a list of so many pairs, the items 0, 1 and so on.
func chain(t *testing.T, h *heap.Heap, n int) {
	t.Helper()
	ok(t, h.Push(api.Nil))
	at := h.Roots() - 1
	for i := n - 1; i >= 0; i-- {
		w, e := h.Make(api.KPair, api.Word(2*i+1), h.Root(at))
		ok(t, e)
		ok(t, h.SetRoot(at, w))
	}
}

// TestLongLists: at most 10000 pairs are a list.
func TestLongLists(t *testing.T) {
	for n, list := range map[int]bool{9999: true, 10000: true, 10001: false, 20000: false} {
		for _, young := range []int{api.MaxHeap, 16} {
			h := newHeap(t, young, api.MaxHeap)
			chain(t, h, n)
			w, e := prims.Apply(h, number(t, "list?"), 1)
			if w == api.True != list || e != api.OK {
				t.Errorf("list? of %d pairs: %d, %v", n, w, e)
			}
			for _, name := range []string{"length", "reverse", "append"} {
				w, e := prims.Apply(h, number(t, name), 1)
				switch {
				case !list && e != api.ErrType:
					t.Errorf("%s of %d pairs: %v", name, n, e)
				case list && e != api.OK:
					t.Errorf("%s of %d pairs: %v", name, n, e)
				case list && name == "length" && w != api.Word(2*n+1):
					t.Errorf("the length of %d pairs: %d", n, w)
				case list && name != "length":
					wantChain(t, h, w, n, name == "reverse")
				}
			}
		}
	}
	// what goes round and round is none
	h := newHeap(t, 100, 100)
	chain(t, h, 3)
	last := field(t, h, field(t, h, h.Root(0), 1), 1)
	ok(t, h.Set(last, 1, h.Root(0)))
	for name, why := range map[string]api.Errno{"length": api.ErrType, "reverse": api.ErrType, "append": api.ErrType, "list?": api.OK} {
		if w, e := prims.Apply(h, number(t, name), 1); e != why || w != 0 && w != api.False {
			t.Errorf("%s of a round: %d, %v", name, w, e)
		}
	}
	// append may make more than 10000 pairs, though it is no list then
	h = newHeap(t, 1000, api.MaxHeap)
	chain(t, h, 6000)
	ok(t, h.Push(h.Root(0)))
	w, e := prims.Apply(h, number(t, "append"), 2)
	ok(t, e)
	for i := range 12000 {
		if field(t, h, w, 0) != api.Word(2*(i%6000)+1) {
			t.Fatalf("the item %d", i)
		}
		w = field(t, h, w, 1)
	}
	if w != api.Nil {
		t.Error("the end")
	}
}

func wantChain(t *testing.T, h *heap.Heap, w api.Word, n int, down bool) {
	t.Helper()
	for i := range n {
		want := i
		if down {
			want = n - 1 - i
		}
		if field(t, h, w, 0) != api.Word(2*want+1) {
			t.Fatalf("the item %d is %d", i, field(t, h, w, 0))
		}
		w = field(t, h, w, 1)
	}
	if w != api.Nil {
		t.Errorf("behind %d items stands %d", n, w)
	}
}

// TestManyArguments: as many as there are roots.
func TestManyArguments(t *testing.T) {
	for _, young := range []int{16, api.MaxHeap} {
		h := newHeap(t, young, api.MaxHeap)
		for i := range mostRoots {
			ok(t, h.Push(api.Word(2*i+1)))
		}
		w, e := prims.Apply(h, number(t, "list"), mostRoots)
		ok(t, e)
		wantChain(t, h, w, mostRoots, false)
		if w, e := prims.Apply(h, number(t, "+"), mostRoots); w != 2*(mostRoots*(mostRoots-1)/2)+1 || e != api.OK {
			t.Errorf("+: %d, %v", w, e)
		}
		if w, e := prims.Apply(h, number(t, "vector"), mostRoots); w != 0 || e != api.ErrArg {
			t.Errorf("vector: %d, %v", w, e)
		}
		for i := range mostRoots {
			ok(t, h.SetRoot(i, api.Nil))
		}
		ok(t, h.Pop(2))
		load(t, h, `"abc"`)
		ok(t, h.Push(api.Nil))
		chainAt := mostRoots - 2
		for i := range 3 {
			w, e := h.Make(api.KPair, api.Word(2*i+1), h.Root(chainAt+1))
			ok(t, e)
			ok(t, h.SetRoot(chainAt+1, w))
		}
		for name, want := range map[string]string{"reverse": "(0 1 2)", "append": "(2 1 0)", "length": "3"} {
			if w, e := prims.Apply(h, number(t, name), 1); e != api.OK || prims.Show(h, w) != want {
				t.Errorf("%s with all roots: %s, %v", name, prims.Show(h, w), e)
			}
		}
		if h.Roots() != mostRoots || h.String(h.Root(chainAt)) != "abc" {
			t.Error("the roots have changed")
		}
	}
}

func TestVectors(t *testing.T) {
	thousand := "#(" + rep("0 ", 999) + "x)"
	wantRows(t, []row{
		{"vector", "", "#()", 0}, {"vector", "1 (2) x", "#(1 (2) x)", 0},
		{"vector-ref", "#(a b) 0", "a", 0}, {"vector-ref", "#(a b) 1", "b", 0}, {"vector-ref", "#(a b) 2", "", api.ErrIndex}, {"vector-ref", "#(a b) -1", "", api.ErrIndex}, {"vector-ref", "#() 0", "", api.ErrIndex}, {"vector-ref", "#(a) " + rep("9", 30), "", api.ErrIndex}, {"vector-ref", "#(a) 18446744073709551616", "", api.ErrIndex}, {"vector-ref", "#(a) -9223372036854775808", "", api.ErrIndex}, {"vector-ref", "#(a) x", "", api.ErrType}, {"vector-ref", "(a) 0", "", api.ErrType}, {"vector-ref", "(a) 9", "", api.ErrType},
		{"vector-set!", "#(a b) 0 x", "#!void", 0}, {"vector-set!", "#(a b) 2 x", "", api.ErrIndex}, {"vector-set!", "#(a b) -1 x", "", api.ErrIndex}, {"vector-set!", "#(a b) " + rep("9", 30) + " x", "", api.ErrIndex}, {"vector-set!", "#(a b) () x", "", api.ErrType}, {"vector-set!", "x 0 x", "", api.ErrType},
		{"vector-length", "#()", "0", 0}, {"vector-length", "#(a (b c))", "2", 0}, {"vector-length", `"ab"`, "", api.ErrType}, {"vector-length", "(a)", "", api.ErrType},
		{"make-vector", "0 x", "#()", 0}, {"make-vector", "3 x", "#(x x x)", 0}, {"make-vector", "-1 x", "", api.ErrIndex}, {"make-vector", "1001 x", "", api.ErrIndex}, {"make-vector", rep("9", 30) + " x", "", api.ErrIndex}, {"make-vector", "x x", "", api.ErrType},
	})
	h := newHeap(t, 10000, 10000)
	load(t, h, thousand+" 999")
	if w, e := apply(t, h, "vector-ref", 2); e != api.OK || prims.Show(h, w) != "x" {
		t.Errorf("the last of 1000: %s, %v", prims.Show(h, w), e)
	}
	load(t, h, `1000 "s"`)
	w, e := apply(t, h, "make-vector", 2)
	if e != api.OK || h.Kind(w) != api.KVector || h.Len(w) != 1000 || field(t, h, w, 0) != h.Root(h.Roots()-1) || field(t, h, w, 999) != field(t, h, w, 0) {
		t.Errorf("make-vector 1000: %v", e)
	}
	// a vector that was set
	load(t, h, "#(1 2 3) 1 (x)")
	if w, e := apply(t, h, "vector-set!", 3); w != api.Void || e != api.OK {
		t.Errorf("vector-set!: %d, %v", w, e)
	}
	if s := prims.Show(h, h.Root(h.Roots()-3)); s != "#(1 (x) 3)" {
		t.Errorf("vector-set!: %s", s)
	}
	// of 1000 and of more
	for n, why := range map[int]api.Errno{1000: api.OK, 1001: api.ErrArg} {
		h := newHeap(t, 10000, 10000)
		for i := range n {
			ok(t, h.Push(api.Word(2*i+1)))
		}
		before := h.Counts()
		w, e := apply(t, h, "vector", n)
		if e != why || e == api.OK && (h.Len(w) != n || field(t, h, w, n-1) != api.Word(2*n-1)) {
			t.Errorf("vector of %d: %v", n, e)
		}
		if e != api.OK {
			wantCells(t, "vector", h, before, 0)
		}
	}
}

func TestStrings(t *testing.T) {
	half := `"` + rep("a", 2000) + `"`
	wantRows(t, []row{
		{"string-append", "", `""`, 0}, {"string-append", `"a"`, `"a"`, 0}, {"string-append", `"a" "" "b\n"`, `"ab\n"`, 0}, {"string-append", half + half, `"` + rep("a", 4000) + `"`, 0}, {"string-append", half + half + `""`, `"` + rep("a", 4000) + `"`, 0},
		{"string-append", half + half + `"a"`, "", api.ErrFull}, {"string-append", half + half + half + half, "", api.ErrFull}, {"string-append", half + half + `"a" 5`, "", api.ErrType}, {"string-append", `"a" b`, "", api.ErrType},
		{"string-length", `""`, "0", 0}, {"string-length", "\"\xc3\xa9\"", "2", 0}, {"string-length", half, "2000", 0}, {"string-length", "x", "", api.ErrType}, {"string-length", "#(1)", "", api.ErrType},
		{"string->symbol", `"x"`, "x", 0}, {"string->symbol", `"set-car!"`, "set-car!", 0}, {"string->symbol", `"` + rep("a", 64) + `"`, rep("a", 64), 0},
		{"string->symbol", `"` + rep("a", 65) + `"`, "", api.ErrType}, {"string->symbol", `""`, "", api.ErrType}, {"string->symbol", `"a b"`, "", api.ErrType}, {"string->symbol", `"5"`, "", api.ErrType}, {"string->symbol", `"."`, "", api.ErrType}, {"string->symbol", `"#t"`, "", api.ErrType}, {"string->symbol", "x", "", api.ErrType},
		{"symbol->string", "x", `"x"`, 0}, {"symbol->string", "...", `"..."`, 0}, {"symbol->string", `"x"`, "", api.ErrType}, {"symbol->string", "5", "", api.ErrType},
		{"number->string", "5", `"5"`, 0}, {"number->string", "-" + rep("9", 200), `"-` + rep("9", 200) + `"`, 0}, {"number->string", "-0", `"0"`, 0}, {"number->string", `"5"`, "", api.ErrType},
		{"string->number", `"5"`, "5", 0}, {"string->number", `"-12"`, "-12", 0}, {"string->number", `"` + rep("9", 200) + `"`, rep("9", 200), 0}, {"string->number", `"` + rep("9", 201) + `"`, "#f", 0}, {"string->number", `"x"`, "#f", 0}, {"string->number", `""`, "#f", 0}, {"string->number", `"+5"`, "#f", 0}, {"string->number", `"05"`, "#f", 0}, {"string->number", `"-0"`, "#f", 0}, {"string->number", `" 5"`, "#f", 0}, {"string->number", "5", "", api.ErrType},
		{"error", `"x"`, "", api.ErrUser}, {"error", `"x" 1 (2) y`, "", api.ErrUser}, {"error", "x", "", api.ErrType}, {"error", `1 "x"`, "", api.ErrType},
	})
	for name, kind := range map[string]int{"string-append": api.KString, "string->symbol": api.KSymbol, "number->string": api.KString, "symbol->string": api.KString, "string->number": api.KBig} {
		h := newHeap(t, 100, 100)
		load(t, h, map[string]string{"number->string": "5", "symbol->string": "x", "string->number": `"99999999999999"`}[name]+map[string]string{"string-append": `"x"`, "string->symbol": `"x"`}[name])
		if w, e := apply(t, h, name, 1); e != api.OK || h.Kind(w) != kind || w == h.Root(0) {
			t.Errorf("%s: %v, a %d", name, e, h.Kind(w))
		}
	}
	// bytes are counted, whatever they are
	h := newHeap(t, 100, 100)
	for _, s := range []string{"\x00\xff", "\"\\"} {
		w, e := h.Text(api.KString, s)
		ok(t, e)
		ok(t, h.Push(w))
	}
	if w, e := apply(t, h, "string-append", 2); e != api.OK || h.String(w) != "\x00\xff\"\\" {
		t.Errorf("%q, %v", h.String(w), e)
	}
}

func TestTheMachines(t *testing.T) {
	for _, name := range []string{"apply", "call/cc", "dynamic-wind", "suspend", "root-ref", "root-set!"} {
		wantRows(t, []row{{name, "", "", api.ErrProc}, {name, "1", "", api.ErrProc}, {name, "x (1)", "", api.ErrProc}, {name, "1 2 3 4", "", api.ErrProc}})
	}
}

// TestMemory: a heap's error is the primitive's; the roots stay.
func TestMemory(t *testing.T) {
	for name, args := range map[string]string{"make-vector": "16 x", "string-append": `"` + rep("a", 60) + `" "` + rep("a", 61) + `"`, "*": "1" + rep("0", 60) + " 1" + rep("0", 60)} {
		h := newHeap(t, 16, 1000)
		n := load(t, h, args)
		before := h.Counts()
		if w, e := apply(t, h, name, n); w != 0 || e != api.ErrMemory {
			t.Errorf("%s: %d, %v", name, w, e)
		}
		wantCells(t, name, h, before, 0)
	}
	// a heap that is spent on the way
	for _, name := range []string{"list", "append", "reverse"} {
		h := newHeap(t, 16, 64)
		for i := range 20 {
			ok(t, h.Push(api.Word(2*i+1)))
		}
		args := 20
		if name != "list" {
			w, e := apply(t, h, "list", 10)
			ok(t, e)
			ok(t, h.Push(w))
			ok(t, h.Push(w))
			args = map[string]int{"append": 2, "reverse": 1}[name]
		}
		before := make([]string, h.Roots())
		for i := range before {
			before[i] = prims.Show(h, h.Root(i))
		}
		w, e := apply(t, h, name, args)
		for e == api.OK {
			ok(t, h.Push(w))
			before = append(before, prims.Show(h, w))
			ok(t, h.Push(w))
			before = append(before, prims.Show(h, w))
			w, e = apply(t, h, name, args)
		}
		if e != api.ErrMemory || h.Collect(true) != api.ErrMemory {
			t.Errorf("%s: %v", name, e)
		}
		for i, s := range before {
			if got := prims.Show(h, h.Root(i)); got != s {
				t.Errorf("%s: the root %d was %s, and is %s", name, i, s, got)
			}
		}
	}
}

// TestFewCells: primitives make just what they tell.
func TestFewCells(t *testing.T) {
	for _, c := range []struct {
		name, args string
		cells      int
	}{
		{"+", "1 2", 0}, {"+", "1099511627776 1", 3}, {"cons", "1 2", 3}, {"car", "(1)", 0}, {"set-car!", "(1) 2", 0}, {"list", "1 2 3", 9}, {"vector", "1 2 3", 4}, {"length", "(1 2)", 0}, {"reverse", "(1 2)", 6}, {"append", "(1 2) (3)", 9},
		{"vector-ref", "#(1) 0", 0}, {"make-vector", "5 1", 6}, {"string-append", `"abc" "defghi"`, 3}, {"string->symbol", `"abc"`, 2}, {"symbol->string", "abc", 2}, {"number->string", "5", 2}, {"string->number", `"5"`, 0}, {"string->number", `"x"`, 0}, {"equal?", "(1) (1)", 0}, {"list?", "(1)", 0},
	} {
		h := newHeap(t, 1000, 1000)
		n := load(t, h, c.args)
		before := h.Counts()
		_, e := apply(t, h, c.name, n)
		ok(t, e)
		wantCells(t, c.name, h, before, c.cells)
	}
}
