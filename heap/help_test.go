package heap_test

import (
	"testing"

	"rostrum/api"
	"rostrum/heap"
)

func small(n int) api.Word { return api.Word(2*n + 1) }

func newHeap(t *testing.T, young, old int) *heap.Heap {
	t.Helper()
	h, e := heap.New(young, old)
	if h == nil || e != api.OK {
		t.Fatalf("New(%d, %d): %v", young, old, e)
	}
	return h
}

func mustMake(t *testing.T, h *heap.Heap, kind int, fields ...api.Word) api.Word {
	t.Helper()
	w, e := h.Make(kind, fields...)
	if e != api.OK || w <= 0 || w&1 == 1 || w > 1<<40 {
		t.Fatalf("Make(%d, %v) = %d, %v", kind, fields, w, e)
	}
	return w
}

func pair(t *testing.T, h *heap.Heap, a, b api.Word) api.Word {
	t.Helper()
	return mustMake(t, h, api.KPair, a, b)
}

func mustText(t *testing.T, h *heap.Heap, kind int, s string) api.Word {
	t.Helper()
	w, e := h.Text(kind, s)
	if e != api.OK || w <= 0 || w&1 == 1 || w > 1<<40 {
		t.Fatalf("Text(%d, %.20q) = %d, %v", kind, s, w, e)
	}
	return w
}

func ok(t *testing.T, e api.Errno) {
	t.Helper()
	if e != api.OK {
		t.Fatal(e)
	}
}

func field(t *testing.T, h *heap.Heap, w api.Word, i int) api.Word {
	t.Helper()
	v, e := h.Field(w, i)
	if e != api.OK {
		t.Fatalf("Field(%d, %d): %v", w, i, e)
	}
	return v
}

func wantCounts(t *testing.T, what string, h *heap.Heap, minor, major, young, old int) {
	t.Helper()
	if c := h.Counts(); c != (api.Counts{Minor: minor, Major: major, Young: young, Old: old}) {
		t.Errorf("%s: %+v, want %d, %d, %d, %d", what, c, minor, major, young, old)
	}
}

// wantThere: the object is there, with these fields.
func wantThere(t *testing.T, h *heap.Heap, w api.Word, kind int, fields ...api.Word) {
	t.Helper()
	if h.Kind(w) != kind || h.Len(w) != len(fields) || h.String(w) != "" {
		t.Fatalf("%d is a %d of %d, %q, want a %d of %d", w, h.Kind(w), h.Len(w), h.String(w), kind, len(fields))
	}
	for i, v := range fields {
		if got, e := h.Field(w, i); e != api.OK || got != v {
			t.Errorf("the field %d of %d is %d, %v, want %d", i, w, got, e, v)
		}
	}
}

// wantVoid: the word is not there.
func wantVoid(t *testing.T, h *heap.Heap, w api.Word) {
	t.Helper()
	wantGone(t, h, w)
	n := h.Roots()
	if h.Push(w) != api.ErrWord || n > 0 && h.SetRoot(0, w) != api.ErrWord || h.Roots() != n {
		t.Errorf("%d is taken for a root", w)
	}
	if v, e := h.Make(api.KPair, w, 1); v != 0 || e != api.ErrWord {
		t.Errorf("Make with %d: %d, %v", w, v, e)
	}
}

// wantGone: the word is no object's.
func wantGone(t *testing.T, h *heap.Heap, w api.Word) {
	t.Helper()
	if h.Kind(w) != 0 || h.Len(w) != 0 || h.String(w) != "" {
		t.Errorf("%d is there: a %d", w, h.Kind(w))
	}
	if v, e := h.Field(w, 0); v != 0 || e != api.ErrWord {
		t.Errorf("Field of %d: %d, %v", w, v, e)
	}
	if e := h.Set(w, 0, 1); e != api.ErrWord {
		t.Errorf("Set of %d: %v", w, e)
	}
}
