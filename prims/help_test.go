package prims_test

import (
	"strings"
	"testing"

	"rostrum/api"
	"rostrum/datum"
	"rostrum/heap"
	"rostrum/prims"
)

const mostRoots = 10000

func rep(s string, n int) string { return strings.Repeat(s, n) }

func newHeap(t *testing.T, young, old int) *heap.Heap {
	t.Helper()
	h, e := heap.New(young, old)
	if e != api.OK {
		t.Fatal(e)
	}
	return h
}

func ok(t *testing.T, e api.Errno) {
	t.Helper()
	if e != api.OK {
		t.Fatal(e)
	}
}

func read(t *testing.T, s string) []api.Datum {
	t.Helper()
	l, err := datum.Read(s)
	if err != nil {
		t.Fatalf("%.40s: %v", s, err)
	}
	return l
}

func num(s string) api.Datum        { return api.Datum{Kind: api.DNumber, Text: s} }
func str(s string) api.Datum        { return api.Datum{Kind: api.DString, Text: s} }
func sym(s string) api.Datum        { return api.Datum{Kind: api.DSymbol, Text: s} }
func list(l ...api.Datum) api.Datum { return api.Datum{Kind: api.DList, List: l} }
func vec(l ...api.Datum) api.Datum  { return api.Datum{Kind: api.DVector, List: l} }

// load pushes the words of all data of a text: how many they are.
func load(t *testing.T, h *heap.Heap, s string) int {
	t.Helper()
	l := read(t, s)
	for _, d := range l {
		w, e := prims.Load(h, d)
		if e != api.OK {
			t.Fatalf("Load(%.40s): %v", s, e)
		}
		ok(t, h.Push(w))
	}
	return len(l)
}

// one is the word of the one datum of a text. (It is no root.)
func one(t *testing.T, h *heap.Heap, s string) api.Word {
	t.Helper()
	w, e := prims.Load(h, read(t, s)[0])
	if e != api.OK {
		t.Fatalf("Load(%.40s): %v", s, e)
	}
	return w
}

func number(t *testing.T, name string) int {
	t.Helper()
	n, found := prims.Find(name)
	if !found {
		t.Fatalf("there is no %s", name)
	}
	return n
}

// apply is what a primitive answers of the last args roots.
func apply(t *testing.T, h *heap.Heap, name string, args int) (api.Word, api.Errno) {
	t.Helper()
	before := make([]string, 0, 10)
	for i := max(0, h.Roots()-10); i < h.Roots(); i++ {
		before = append(before, prims.Show(h, h.Root(i)))
	}
	roots := h.Roots()
	w, e := prims.Apply(h, number(t, name), args)
	if h.Roots() != roots {
		t.Fatalf("%s: %d roots, there were %d", name, h.Roots(), roots)
	}
	if name[len(name)-1] != '!' {
		for i, s := range before {
			if got := prims.Show(h, h.Root(roots-len(before)+i)); got != s {
				t.Fatalf("%s: a root was %.40s, and is %.40s", name, s, got)
			}
		}
	}
	if e != api.OK && w != 0 {
		t.Fatalf("%s: the word %d with %v", name, w, e)
	}
	return w, e
}

// of is what a primitive answers of data in a text; the heap has their words among its roots still.
func of(t *testing.T, h *heap.Heap, name, args string) (string, api.Errno) {
	t.Helper()
	w, e := apply(t, h, name, load(t, h, args))
	if e != api.OK {
		return "", e
	}
	return prims.Show(h, w), e
}

type row struct {
	name, args, want string
	why              api.Errno
}

// wantRows: of each row in a heap of its own, once with much room, and once collected all the time.
func wantRows(t *testing.T, rows []row) {
	t.Helper()
	for _, r := range rows {
		for _, young := range []int{100000, 520} {
			h := newHeap(t, young, 100000)
			got, e := of(t, h, r.name, r.args)
			if got != r.want || e != r.why {
				t.Errorf("(%s %.60s) = %.60s, %v, want %.60s, %v", r.name, r.args, got, e, r.want, r.why)
			}
		}
	}
}

// wantCells: the heap was not collected, and has so many cells more.
func wantCells(t *testing.T, what string, h *heap.Heap, before api.Counts, more int) {
	t.Helper()
	before.Young += more
	if c := h.Counts(); c != before {
		t.Errorf("%s: %+v, want %+v", what, c, before)
	}
}

func field(t *testing.T, h *heap.Heap, w api.Word, i int) api.Word {
	t.Helper()
	v, e := h.Field(w, i)
	if e != api.OK {
		t.Fatalf("Field(%d, %d): %v", w, i, e)
	}
	return v
}
