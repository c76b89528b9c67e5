package prims_test

import (
	"math/rand"
	"slices"
	"testing"

	"rostrum/api"
	"rostrum/datum"
	"rostrum/heap"
	"rostrum/prims"
)

// P15.3

func TestLoad(t *testing.T) {
	h := newHeap(t, 1000, 1000)
	for s, want := range map[string]api.Word{"5": 11, "-5": -9, "0": 1, "#t": api.True, "#f": api.False, "()": api.Nil} {
		before := h.Counts()
		if w := one(t, h, s); w != want {
			t.Errorf("%s is %d, want %d", s, w, want)
		}
		wantCells(t, s, h, before, 0)
	}
	for s, c := range map[string]struct {
		kind  int
		text  string
		cells int
	}{`"a\n"`: {api.KString, "a\n", 2}, `""`: {api.KString, "", 1}, "abc": {api.KSymbol, "abc", 2}, "99999999999999": {api.KBig, "99999999999999", 3}, "(1 2)": {api.KPair, "", 6}, "(1 . 2)": {api.KPair, "", 3}, "#()": {api.KVector, "", 1}, "#(1 ())": {api.KVector, "", 3}, "(#(a) . b)": {api.KPair, "", 3 + 2 + 2 + 2}} {
		before := h.Counts()
		w := one(t, h, s)
		if h.Kind(w) != c.kind || h.String(w) != c.text {
			t.Errorf("%s is a %d, %q", s, h.Kind(w), h.String(w))
		}
		wantCells(t, s, h, before, c.cells)
	}
	w := one(t, h, "(1 #(2 x) . 3)")
	rest := field(t, h, w, 1)
	v := field(t, h, rest, 0)
	if field(t, h, w, 0) != 3 || h.Kind(rest) != api.KPair || field(t, h, rest, 1) != 7 || h.Kind(v) != api.KVector || h.Len(v) != 2 || field(t, h, v, 0) != 5 || h.String(field(t, h, v, 1)) != "x" {
		t.Error("the parts of a list")
	}
	if h.Roots() != 0 {
		t.Errorf("%d roots", h.Roots())
	}
}

// TestLoadMakesEachPartAnew: what stands twice in a datum is two objects.
func TestLoadMakesEachPartAnew(t *testing.T) {
	h := newHeap(t, 10000, 1000)
	for _, part := range []string{`"a"`, `"` + rep("a", 200) + `"`, "(x)", "#(1)", "#(" + rep("1 ", 40) + ")"} {
		d := read(t, part)
		shared := []api.Datum{list(d...), list(d...)} // both have the same memory
		w, e := prims.Load(h, list(shared...))
		ok(t, e)
		a, b := field(t, h, w, 0), field(t, h, field(t, h, w, 1), 0)
		if a == b || field(t, h, a, 0) == field(t, h, b, 0) || !prims.Equal(h, a, b) {
			t.Errorf("%.20s is loaded once", part)
		}
	}
}

func TestLoadOfWrongData(t *testing.T) {
	deep := list()
	for range api.MaxDepth {
		deep = list(deep)
	}
	h := newHeap(t, 10000, 10000)
	load(t, h, "(1 2) x")
	before := h.Counts()
	for _, d := range []api.Datum{
		{}, {Kind: 7}, {Kind: -1}, num("x"), num(""), num("007"), num(rep("9", 201)), sym(""), sym("a b"), sym("5"), {Kind: api.DBool, Text: "t"}, {Kind: api.DString, Text: "a", List: []api.Datum{num("1")}}, {Kind: api.DList, Tail: []api.Datum{num("1")}}, {Kind: api.DList, List: []api.Datum{num("1")}, Tail: []api.Datum{list()}}, deep,
		list(str("a"), num("x")), vec(str("a"), sym("")),
		// data that no heap has: its own error
		str(rep("a", 4001)), list(sym("x"), str(rep("a", 4001))), vec(slices.Repeat([]api.Datum{num("1")}, 1001)...), list(str("a"), vec(slices.Repeat([]api.Datum{num("1")}, 1001)...)), {Kind: api.DList, List: []api.Datum{str("a")}, Tail: []api.Datum{str(rep("a", 4001))}},
		vec(slices.Concat([]api.Datum{str(rep("a", 4001))}, slices.Repeat([]api.Datum{num("1")}, 999))...),
	} {
		if w, e := prims.Load(h, d); w != 0 || e != api.ErrArg {
			t.Errorf("Load(%.60v) = %d, %v", d, w, e)
		}
	}
	wantCells(t, "all these", h, before, 0)
	if h.Roots() != 2 || prims.Show(h, h.Root(0)) != "(1 2)" {
		t.Error("the roots have changed")
	}
	// just within
	for _, d := range []api.Datum{deep.List[0], str(rep("a", 4000)), vec(slices.Repeat([]api.Datum{num("1")}, 1000)...)} {
		if _, e := prims.Load(h, d); e != api.OK {
			t.Errorf("Load(%.60v): %v", d, e)
		}
	}
}

// TestLoadLeavesNothing: where a part is too great for the heap, none of the others is in it.
func TestLoadLeavesNothing(t *testing.T) {
	great := rep("a", 121)
	for _, s := range []string{
		`"` + great + `"`, `("` + great + `")`, `("a" "` + great + `" "b")`, `("a" . "` + great + `")`, `#("a" ("b" "` + great + `"))`,
		"(" + rep("9", 121) + " \"a\")", "(\"a\" #(" + rep("1 ", 16) + "))", "#(" + rep("\"a\" ", 16) + ")", "(\"a\" . #(" + rep("\"a\" ", 16) + "))", "#(\"a\" #(" + rep("1 ", 16) + "))",
	} {
		h := newHeap(t, 16, 1000)
		load(t, h, "(1)")
		before := h.Counts()
		if w, e := prims.Load(h, read(t, s)[0]); w != 0 || e != api.ErrMemory {
			t.Errorf("Load(%.40s) = %d, %v", s, w, e)
		}
		wantCells(t, s, h, before, 0)
		if h.Roots() != 1 || prims.Show(h, h.Root(0)) != "(1)" {
			t.Errorf("%.40s: the roots have changed", s)
		}
		// a cell more, and it goes
		h = newHeap(t, 17, 1000)
		w, e := prims.Load(h, read(t, s)[0])
		if e != api.OK || prims.Show(h, w) != datum.Print(read(t, s)[0]) || h.Roots() != 0 {
			t.Errorf("Load(%.40s): %v, %.60s", s, e, prims.Show(h, w))
		}
	}
}

// TestLoadInFullHeaps: one that is spent on the way; what the roots lead to is there still.
func TestLoadInFullHeaps(t *testing.T) {
	for _, s := range []string{"(" + rep("(a) ", 10) + "(a))", "(" + rep("1 ", 20) + "1)", "#(" + rep("(a) ", 10) + "(a))", "(1 . #(" + rep("\"abc\" ", 10) + "\"abc\"))", "(x #(" + rep("(y) ", 9) + "#(z)) . \"end\")"} {
		goes := 0
		for old := 16; old < 120; old++ {
			h := newHeap(t, 16, old)
			load(t, h, `("abc" x)`)
			w, e := prims.Load(h, read(t, s)[0])
			if e == api.OK {
				goes++
				if prims.Show(h, w) != s {
					t.Errorf("%s is shown %s", s, prims.Show(h, w))
				}
			} else if w != 0 || e != api.ErrMemory {
				t.Errorf("%s with %d old cells: %d, %v", s, old, w, e)
			}
			if h.Roots() != 1 || prims.Show(h, h.Root(0)) != `("abc" x)` {
				t.Errorf("%s with %d old cells: the root has changed", s, old)
			}
			if e == api.OK {
				continue
			}
			if w, e := prims.Load(h, num("5")); w != 11 || e != api.OK {
				t.Errorf("a small number in a heap that is spent: %d, %v", w, e)
			}
			if w, e := prims.Load(h, str("")); w != 0 || e != api.ErrMemory {
				t.Errorf("a string in a heap that is spent: %d, %v", w, e)
			}
		}
		if goes < 10 || goes > 95 {
			t.Errorf("%s went %d times", s, goes)
		}
	}
}

// TestLoadWithFewRoots: with none left, what stands by itself is loaded; the roots stay.
func TestLoadWithFewRoots(t *testing.T) {
	const deep = 10
	s := rep("(a #(", deep/2) + "x" + rep(") b)", deep/2)
	for left := range deep + 3 {
		h := newHeap(t, 16, 10000)
		for range mostRoots - left {
			ok(t, h.Push(5))
		}
		for _, text := range []string{"5", "x", `"abc"`, "()", "#()", rep("9", 20)} {
			if w, e := prims.Load(h, read(t, text)[0]); e != api.OK || prims.Show(h, w) != text {
				t.Errorf("%s with %d roots left: %s, %v", text, left, prims.Show(h, w), e)
			}
		}
		before := h.Counts()
		w, e := prims.Load(h, read(t, s)[0])
		if left >= deep && (e != api.OK || prims.Show(h, w) != s) || left == 0 && e != api.ErrFull {
			t.Errorf("%s with %d roots left: %s, %v", s, left, prims.Show(h, w), e)
		}
		if e != api.OK {
			if e != api.ErrFull || w != 0 {
				t.Errorf("%d, %v", w, e)
			}
			wantCells(t, s, h, before, 0)
		}
		if h.Roots() != mostRoots-left || h.Root(h.Roots()-1) != 5 {
			t.Errorf("%d roots", h.Roots())
		}
	}
}

// TestLoadOfLongData, in small heaps, too.
func TestLoadOfLongData(t *testing.T) {
	const n = 100000
	l := make([]api.Datum, n)
	for i := range l {
		l[i] = []api.Datum{num("5"), str("abc"), list(num("1")), vec()}[i%4]
	}
	for _, young := range []int{16, 1000, api.MaxHeap} {
		h := newHeap(t, young, api.MaxHeap)
		w, e := prims.Load(h, list(l...))
		ok(t, e)
		for i := range n {
			x := field(t, h, w, 0)
			if i%4 == 0 && x != 11 || i%4 == 1 && h.String(x) != "abc" || i%4 == 2 && h.Kind(x) != api.KPair || i%4 == 3 && h.Kind(x) != api.KVector {
				t.Fatalf("the item %d", i)
			}
			w = field(t, h, w, 1)
		}
		if w != api.Nil {
			t.Error("the end")
		}
	}
}

// random is a datum that may be, of about so many parts.
func random(r *rand.Rand, size, deep int) api.Datum {
	if size <= 1 || deep == 0 {
		switch r.Intn(8) {
		case 0, 1:
			return num([]string{"0", "7", "-3", "1099511627776", "1099511627777", "-" + rep("8", 1+r.Intn(api.MaxDigits))}[r.Intn(6)])
		case 2:
			return api.Datum{Kind: api.DBool, Text: []string{"#t", "#f"}[r.Intn(2)]}
		case 3, 4:
			return str(rep([]string{"a", "\"", "\\", "\n\t", "\xff\x00"}[r.Intn(5)], r.Intn(30)))
		case 5, 6:
			return sym([]string{"x", "quote", "set-car!", "...", rep("z", 1+r.Intn(64))}[r.Intn(5)])
		}
		return []api.Datum{list(), vec()}[r.Intn(2)]
	}
	var l []api.Datum
	for left := size - 1; left > 0; {
		n := 1 + r.Intn(left)
		l = append(l, random(r, n, deep-1))
		left -= n
	}
	if r.Intn(3) == 0 {
		return vec(l...)
	}
	d := list(l...)
	if r.Intn(3) == 0 {
		if tail := random(r, 1+r.Intn(3), deep-1); tail.Kind != api.DList {
			d.Tail = []api.Datum{tail}
		}
	}
	return d
}

// TestShowOfLoad is Print of the datum. (P15.5)
func TestShowOfLoad(t *testing.T) {
	r := rand.New(rand.NewSource(1))
	collected := 0
	for range 5000 {
		d := random(r, 1+r.Intn(1+r.Intn(200)), r.Intn(10))
		if !datum.Can(d) {
			t.Fatal("the datum may not be")
		}
		young := 40 + r.Intn(1+r.Intn(1000))
		h := newHeap(t, max(young, 220), 20000)
		ok(t, h.Push(5))
		w, e := prims.Load(h, d)
		if e != api.OK || prims.Show(h, w) != datum.Print(d) {
			t.Fatalf("%s is shown %s, %v", datum.Print(d), prims.Show(h, w), e)
		}
		if h.Roots() != 1 || h.Root(0) != 5 {
			t.Fatal("the roots have changed")
		}
		collected += h.Counts().Minor
	}
	if collected < 500 {
		t.Errorf("only %d collections", collected)
	}
	for _, deep := range []string{rep("(", 64) + rep(")", 64), rep("#(", 64) + rep(")", 64), rep("(a . #(", 31) + "b" + rep("))", 31)} {
		h := newHeap(t, 16, 1000)
		if w := one(t, h, deep); prims.Show(h, w) != deep {
			t.Errorf("%s is shown %s", deep, prims.Show(h, w))
		}
	}
}

// P15.4

func TestShow(t *testing.T) {
	h := newHeap(t, 10000, 10000)
	mk := func(kind int, fields ...api.Word) api.Word {
		w, e := h.Make(kind, fields...)
		ok(t, e)
		return w
	}
	text := func(kind int, s string) api.Word {
		w, e := h.Text(kind, s)
		ok(t, e)
		return w
	}
	str := text(api.KString, "a\"\\\n\t\r\x00\xff")
	closure := mk(api.KClosure, 1, 3, api.Nil)
	frame := mk(api.KFrame, 1, api.Nil, api.Nil, api.Nil)
	for _, c := range []struct {
		w    api.Word
		want string
	}{
		{1, "0"}, {11, "5"}, {-9, "-5"}, {1<<63 - 1, "4611686018427387903"}, {api.Nil, "()"}, {api.True, "#t"}, {api.False, "#f"}, {api.Void, "#!void"}, {api.Unbound, "#!unbound"}, {api.Prim0, "#!procedure"}, {api.Prim0 - 2*46, "#!procedure"}, {api.Prim0 - 2*47, "#!other"}, {-1 << 21, "#!other"}, {-1<<21 - 2, "#!other"}, {1 << 40, "#!other"}, {-1 << 63, "#!other"}, {1<<63 - 2, "#!other"},
		{text(api.KBig, "-123456789012345"), "-123456789012345"}, {text(api.KSymbol, "set-car!"), "set-car!"}, {str, `"a\"\\\n\t` + "\r\x00\xff\""}, {text(api.KString, ""), `""`},
		{closure, "#!procedure"}, {mk(api.KCont, api.Nil, api.Nil), "#!procedure"}, {frame, "#!other"},
		{mk(api.KPair, 3, 5), "(1 . 2)"}, {mk(api.KPair, 3, api.Nil), "(1)"}, {mk(api.KPair, 3, mk(api.KPair, 5, str)), `(1 2 . "a\"\\\n\t` + "\r\x00\xff\")"}, {mk(api.KPair, api.Nil, api.Nil), "(())"}, {mk(api.KPair, api.Void, api.Unbound), "(#!void . #!unbound)"}, {mk(api.KPair, frame, closure), "(#!other . #!procedure)"},
		{mk(api.KPair, 3, mk(api.KVector, 5)), "(1 . #(2))"}, {mk(api.KVector), "#()"}, {mk(api.KVector, 3, mk(api.KVector), mk(api.KPair, 5, 7)), "#(1 #() (2 . 3))"},
	} {
		if s := prims.Show(h, c.w); s != c.want {
			t.Errorf("%d is shown %q, want %q", c.w, s, c.want)
		}
	}
	// a word that became void
	w := mk(api.KPair, 1, 1)
	ok(t, h.Collect(true))
	if s := prims.Show(h, w); s != "#!other" {
		t.Errorf("a word that is not there is shown %q", s)
	}
}

// TestShowOfMuch: no more than MaxShow words are begun.
func TestShowOfMuch(t *testing.T) {
	ones := func(n int) string { return rep("1 ", n) }
	show := func(build func(h *heap.Heap) api.Word) string {
		h := newHeap(t, api.MaxHeap, api.MaxHeap)
		return prims.Show(h, build(h))
	}
	text := func(s string) func(h *heap.Heap) api.Word {
		return func(h *heap.Heap) api.Word { return one(t, h, s) }
	}
	vec := func(l ...int) string { // vectors of so many ones, one behind the other in a vector
		s := "#("
		for i, n := range l {
			if i > 0 {
				s += " "
			}
			s += "#(" + rep("1 ", max(n-1, 0)) + rep("1", min(n, 1)) + ")"
		}
		return s + ")"
	}
	for what, c := range map[string]struct{ got, want string }{
		"999 items":           {show(text("(" + ones(999) + ")")), "(" + ones(998) + "1)"},
		"1000 items":          {show(text("(" + ones(1000) + ")")), "(" + ones(999) + "1)"},
		"1001 items":          {show(text("(" + ones(1001) + ")")), "(" + ones(1000) + "...)"},
		"1500 items":          {show(text("(" + ones(1500) + ")")), "(" + ones(1000) + "...)"},
		"999 items, a rest":   {show(text("(" + ones(999) + ". 2)")), "(" + ones(999) + ". 2)"},
		"1000 items, a rest":  {show(text("(" + ones(1000) + ". 2)")), "(" + ones(1000) + ". ...)"},
		"a list within one":   {show(text("((" + ones(1000) + "))")), "((" + ones(999) + "...))"},
		"a list and more":     {show(text("((" + ones(999) + ") 2 3)")), "((" + ones(998) + "1) ... ...)"},
		"a list, and then":    {show(text("((" + ones(998) + ") 2 3)")), "((" + ones(997) + "1) 2 ...)"},
		"vectors, all":        {show(text(vec(1000, 997))), vec(1000, 997)},
		"vectors, one more":   {show(text(vec(1000, 998))), vec(1000, 997)[:len(vec(1000, 997))-2] + " ...))"},
		"vectors, three more": {show(text(vec(1000, 1000))), vec(1000, 997)[:len(vec(1000, 997))-2] + " ... ... ...))"},
		"vectors, none left":  {show(text(vec(1000, 996, 5))), vec(1000, 996)[:len(vec(1000, 996))-1] + " #(... ... ... ... ...))"},
		"vectors, and others": {show(text(vec(1000, 997, 5, 0))), vec(1000, 997)[:len(vec(1000, 997))-1] + " ... ...)"},
		"an odd one":          {show(text("#((" + ones(999) + ") 2)")), "#((" + ones(998) + "1) 2)"},
		"a pair without item": {show(text("(2 . #((" + ones(999) + ")))")), "(2 . #((" + ones(998) + "...)))"},
	} {
		if c.got != c.want {
			t.Errorf("%s: %d bytes .. %q, want %d bytes .. %q", what, len(c.got), c.got[max(0, len(c.got)-30):], len(c.want), c.want[max(0, len(c.want)-30):])
		}
	}
	// a pair that is its own rest, its own first part, a vector that is in itself
	round := func(kind, at int, fields ...api.Word) string {
		return show(func(h *heap.Heap) api.Word {
			w, e := h.Make(kind, fields...)
			ok(t, e)
			ok(t, h.Set(w, at, w))
			return w
		})
	}
	if s := round(api.KPair, 1, 3, 1); s != "("+ones(1000)+"...)" {
		t.Errorf("its own rest: %d bytes", len(s))
	}
	if s := round(api.KPair, 0, 3, api.Nil); s != rep("(", 2000)+"..."+rep(")", 2000) {
		t.Errorf("its own first part: %d bytes", len(s))
	}
	if s := round(api.KPair, 0, 3, 5); s != rep("(", 2000)+"..."+rep(" . ...)", 2000) {
		t.Errorf("its own first part, with a rest: %d bytes", len(s))
	}
	if s := round(api.KVector, 1, 3, 1, 5); s != rep("#(1 ", 1000)+"..."+rep(" ...)", 1000) {
		t.Errorf("a vector in itself: %d bytes, %.30s", len(s), s[len(s)-30:])
	}
}
