package prims_test

import (
	"testing"

	"rostrum/api"
	"rostrum/heap"
	"rostrum/prims"
)

func TestEq(t *testing.T) {
	big := rep("9", 30)
	for _, c := range []struct {
		args      string
		eq, equal string
	}{
		{"1 1", "#t", "#t"}, {"1 2", "#f", "#f"}, {big + " " + big, "#t", "#t"}, {big + " -" + big, "#f", "#f"}, {"1 " + big, "#f", "#f"}, {big + " 1", "#f", "#f"},
		{"x x", "#t", "#t"}, {"x y", "#f", "#f"}, {`x "x"`, "#f", "#f"}, {`"x" "x"`, "#f", "#t"}, {`"x" "y"`, "#f", "#f"}, {`"" ""`, "#f", "#t"}, {`"5" 5`, "#f", "#f"}, {`"` + big + `" ` + big, "#f", "#f"}, {big + ` "` + big + `"`, "#f", "#f"},
		{"() ()", "#t", "#t"}, {"#t #t", "#t", "#t"}, {"#t #f", "#f", "#f"}, {"() #f", "#f", "#f"}, {"() #()", "#f", "#f"},
		{"(1) (1)", "#f", "#t"}, {"(1 2) (1)", "#f", "#f"}, {"(1 . 2) (1 . 2)", "#f", "#t"}, {"(1 . 2) (1 . 3)", "#f", "#f"}, {"(2 . 1) (3 . 1)", "#f", "#f"}, {`(1 ("a" x) . #(2)) (1 ("a" x) . #(2))`, "#f", "#t"},
		{"#() #()", "#f", "#t"}, {"#(1 2) #(1 2)", "#f", "#t"}, {"#(1 2) #(1)", "#f", "#f"}, {"#(1) #(1 2)", "#f", "#f"}, {"#(1 2) #(1 3)", "#f", "#f"}, {"#(1 2) (1 2)", "#f", "#f"}, {"#(1 2) (1 . 2)", "#f", "#f"}, {`#("a" (b)) #("a" (b))`, "#f", "#t"}, {"(() #()) (#() ())", "#f", "#f"},
	} {
		wantRows(t, []row{{"eq?", c.args, c.eq, api.OK}, {"equal?", c.args, c.equal, api.OK}})
		h := newHeap(t, 1000, 1000)
		load(t, h, c.args)
		for _, turned := range []int{0, 1} {
			if got := prims.Equal(h, h.Root(turned), h.Root(1-turned)); got != (c.equal == "#t") {
				t.Errorf("Equal of %s: %v", c.args, got)
			}
		}
	}
	// the same word, whatever it is
	h := newHeap(t, 1000, 1000)
	mk := func(kind int, fields ...api.Word) api.Word {
		w, e := h.Make(kind, fields...)
		ok(t, e)
		return w
	}
	text := func(kind int, s string) api.Word {
		w, e := h.Text(kind, s)
		ok(t, e)
		return w
	}
	kinds := []func() api.Word{
		func() api.Word { return mk(api.KClosure, 1, 3, api.Nil) }, func() api.Word { return mk(api.KCont, api.Nil, api.Nil) }, func() api.Word { return mk(api.KFrame, 1, api.Nil, api.Nil, api.Nil) },
		func() api.Word { return text(api.KBig, "no number") },
	}
	for i, f := range kinds {
		a, b := f(), f()
		for _, w := range [][2]api.Word{{a, a}, {a, b}, {b, a}} {
			ok(t, h.Push(w[0]))
			ok(t, h.Push(w[1]))
			for _, name := range []string{"eq?", "equal?"} {
				if v, e := apply(t, h, name, 2); v == api.True != (w[0] == w[1]) || e != api.OK {
					t.Errorf("%s of the kind %d: %d, %v", name, i, v, e)
				}
			}
		}
	}
	for _, w := range []api.Word{api.Void, api.Unbound, api.Prim0} {
		if !prims.Equal(h, w, w) || prims.Equal(h, w, api.Nil) || prims.Equal(h, w, 1) || prims.Equal(h, w, w-2) {
			t.Errorf("Equal of %d", w)
		}
	}
	// numbers are the same by their digits, made by hand or not
	if !prims.Equal(h, 11, text(api.KBig, "5")) || !prims.Equal(h, text(api.KBig, "5"), 11) || prims.Equal(h, 13, text(api.KBig, "5")) || prims.Equal(h, text(api.KBig, "x"), text(api.KBig, "5")) {
		t.Error("numbers made by hand")
	}
}

// TestEqualOfMuch: more than MaxShow parts that are looked at are not equal?.
func TestEqualOfMuch(t *testing.T) {
	for n, want := range map[int]bool{100: true, 999: true, 1000: true, 1001: false, 5000: false} {
		h := newHeap(t, api.MaxHeap, api.MaxHeap)
		chain(t, h, n) // two parts of each pair
		chain(t, h, n)
		if got := prims.Equal(h, h.Root(0), h.Root(1)); got != want {
			t.Errorf("lists of %d: %v", n, got)
		}
		if !prims.Equal(h, h.Root(0), h.Root(0)) {
			t.Errorf("the same list of %d", n)
		}
	}
	for n, want := range map[int]bool{997: true, 998: true, 999: false, 1000: false} {
		h := newHeap(t, api.MaxHeap, api.MaxHeap)
		s := "#(#(" + rep("1 ", 1000) + ") #(" + rep("1 ", n) + "))"
		if got := prims.Equal(h, one(t, h, s), one(t, h, s)); got != want {
			t.Errorf("vectors of 1000 and %d: %v", n, got)
		}
	}
	// what goes round and round, in two
	h := newHeap(t, 1000, 1000)
	var rounds []api.Word
	for range 2 {
		w, e := h.Make(api.KPair, 3, 1)
		ok(t, e)
		ok(t, h.Set(w, 1, w))
		rounds = append(rounds, w)
	}
	if prims.Equal(h, rounds[0], rounds[1]) || !prims.Equal(h, rounds[0], rounds[0]) {
		t.Error("rounds")
	}
	// parts that are shared are looked at each time, but for those that are the same word
	double := func(h *heap.Heap) api.Word {
		w := api.Nil
		for range 60 {
			v, e := h.Make(api.KPair, w, w)
			ok(t, e)
			w = v
		}
		return w
	}
	a, b := double(h), double(h)
	if prims.Equal(h, a, b) || !prims.Equal(h, a, a) {
		t.Error("2^60 parts")
	}
	x, e := h.Make(api.KPair, a, rounds[0])
	ok(t, e)
	y, e := h.Make(api.KPair, a, rounds[0])
	ok(t, e)
	if !prims.Equal(h, x, y) {
		t.Error("parts that are the same words")
	}
}
