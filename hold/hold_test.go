package hold_test

import (
	"testing"

	"rostrum/api"
	"rostrum/heap"
	"rostrum/hold"
)

const mostRoots = 10000

func newHeap(t *testing.T, young, old int) *heap.Heap {
	t.Helper()
	h, e := heap.New(young, old)
	if e != api.OK {
		t.Fatal(e)
	}
	return h
}

func TestMissing(t *testing.T) {
	h := newHeap(t, 16, 16)
	h.Push(5)
	if !hold.Missing(nil) || !hold.Missing(&heap.Heap{}) || hold.Missing(h) {
		t.Error("Missing")
	}
	if h.Roots() != 1 || h.Root(0) != 5 {
		t.Error("Missing changed the roots")
	}
}

func TestRoots(t *testing.T) {
	h := newHeap(t, 16, 16)
	h.Push(5)
	if first, e := hold.Roots(h, 3); first != 1 || e != api.OK || h.Roots() != 4 {
		t.Errorf("three roots: %d, %v, %d", first, e, h.Roots())
	}
	for i := range 4 {
		if want := []api.Word{5, api.Nil, api.Nil, api.Nil}[i]; h.Root(i) != want {
			t.Errorf("the root %d is %d", i, h.Root(i))
		}
	}
	if first, e := hold.Roots(h, 0); first != 4 || e != api.OK || h.Roots() != 4 {
		t.Errorf("no roots: %d, %v, %d", first, e, h.Roots())
	}
	if first, e := hold.Roots(h, mostRoots-4); first != 4 || e != api.OK || h.Roots() != mostRoots {
		t.Errorf("all roots: %d, %v, %d", first, e, h.Roots())
	}
	for _, n := range []int{1, 2, 100} {
		h.Pop(h.Roots() - (mostRoots - n + 1))
		if first, e := hold.Roots(h, n); first != 0 || e != api.ErrFull || h.Roots() != mostRoots-n+1 {
			t.Errorf("one too many of %d: %d, %v, %d", n, first, e, h.Roots())
		}
	}
}

func TestTimes(t *testing.T) {
	h := newHeap(t, 16, 16)
	for i, all := range []bool{false, true, true, false} {
		if hold.Times(h) != i {
			t.Errorf("%d collections: %d", i, hold.Times(h))
		}
		h.Collect(all)
	}
}

// TestCells: they are those that a heap counts; and Sure is what the smallest one has room for.
func TestCells(t *testing.T) {
	for n := range 40 {
		h := newHeap(t, 100, 100)
		h.Make(api.KVector, make([]api.Word, n)...)
		if c := h.Counts().Young; c != hold.Cells(n, 0) {
			t.Errorf("%d fields: %d cells, want %d", n, hold.Cells(n, 0), c)
		}
		h = newHeap(t, 100, 100)
		h.Text(api.KString, string(make([]byte, n)))
		if c := h.Counts().Young; c != hold.Cells(0, n) {
			t.Errorf("%d bytes: %d cells, want %d", n, hold.Cells(0, n), c)
		}
	}
	for more, why := range []api.Errno{api.OK, api.ErrMemory} {
		h := newHeap(t, 16, 16)
		if _, e := h.Make(api.KVector, make([]api.Word, hold.Sure-1+more)...); e != why {
			t.Errorf("%d more: %v", more, e)
		}
	}
}
