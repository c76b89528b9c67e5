package heap_test

import (
	"strings"
	"testing"

	"rostrum/api"
	"rostrum/heap"
)

// P14.5

func TestExample(t *testing.T) {
	h := newHeap(t, 16, 16)
	for range 5 {
		pair(t, h, 1, 3)
	}
	wantCounts(t, "five pairs", h, 0, 0, 15, 0)
	pair(t, h, 1, 3)
	wantCounts(t, "a sixth", h, 1, 0, 3, 0)
}

// TestYoungCollection: young objects that the roots lead to become old, at new addresses; others are gone.
func TestYoungCollection(t *testing.T) {
	h := newHeap(t, 100, 100)
	s := mustText(t, h, api.KSymbol, "sym")
	a := pair(t, h, s, small(1))
	b := pair(t, h, a, a)
	lone := pair(t, h, a, b)
	ok(t, h.Push(b))
	ok(t, h.Push(small(9)))
	ok(t, h.Push(s))
	wantCounts(t, "ahead", h, 0, 0, 11, 0)
	ok(t, h.Collect(false))
	wantCounts(t, "behind", h, 1, 0, 0, 8)
	for _, w := range []api.Word{s, a, b, lone} {
		wantVoid(t, h, w)
	}
	b2, s2 := h.Root(0), h.Root(2)
	a2 := field(t, h, b2, 0)
	wantThere(t, h, b2, api.KPair, a2, a2)
	wantThere(t, h, a2, api.KPair, s2, small(1))
	if h.Root(1) != small(9) || h.String(s2) != "sym" || h.Kind(s2) != api.KSymbol {
		t.Error("roots")
	}
	// once more: nothing is young, and all old ones stay at new addresses, also without roots
	ok(t, h.Pop(3))
	ok(t, h.Push(b2))
	ok(t, h.Collect(false))
	wantCounts(t, "again", h, 2, 0, 0, 8)
	if w := h.Root(0); w == b2 || w == b {
		t.Error("it is where it was")
	}
	wantVoid(t, h, b2)
	ok(t, h.Pop(1))
	ok(t, h.Collect(false))
	wantCounts(t, "without roots", h, 3, 0, 0, 8)
	ok(t, h.Collect(true))
	wantCounts(t, "a whole one", h, 3, 1, 0, 0)
}

// TestOldObjectsThatWereSet: young objects that they lead to stay, whether the old ones are reached or not.
func TestOldObjectsThatWereSet(t *testing.T) {
	for _, reached := range []bool{false, true} {
		h := newHeap(t, 100, 100)
		ok(t, h.Push(pair(t, h, 1, 3)))
		ok(t, h.Collect(false))
		old := h.Root(0)
		inner := mustText(t, h, api.KString, "inner")
		young := pair(t, h, inner, 5)
		ok(t, h.Set(old, 1, young))
		ok(t, h.Set(old, 1, young)) // twice is once
		if !reached {
			ok(t, h.SetRoot(0, 1))
		}
		ok(t, h.Collect(false))
		wantCounts(t, "set", h, 2, 0, 0, 3+3+2)
		if reached {
			young = field(t, h, h.Root(0), 1)
			wantThere(t, h, h.Root(0), api.KPair, 1, young)
			inner = field(t, h, young, 0)
			wantThere(t, h, young, api.KPair, inner, 5)
			if h.String(inner) != "inner" {
				t.Error("the text is gone")
			}
		}
		// a whole one does not ask who was set
		if reached {
			ok(t, h.Set(h.Root(0), 0, pair(t, h, 1, 1)))
			ok(t, h.SetRoot(0, 1))
		}
		ok(t, h.Collect(true))
		wantCounts(t, "a whole one", h, 2, 1, 0, 0)
	}
}

// TestOldObjectsThatLeadToNoYoungOnes: that an old one was set does not keep what it has no more.
func TestOldObjectsThatLeadToNoYoungOnes(t *testing.T) {
	h := newHeap(t, 100, 100)
	ok(t, h.Push(pair(t, h, 1, 3)))
	ok(t, h.Collect(false))
	ok(t, h.Set(h.Root(0), 1, pair(t, h, 5, 7)))
	ok(t, h.Set(h.Root(0), 1, 9))
	ok(t, h.Collect(false))
	wantCounts(t, "set, and set again", h, 2, 0, 0, 3)
	// what was set ahead of the last collection plays no part: it has become old
	ok(t, h.Set(h.Root(0), 1, pair(t, h, 5, 7)))
	ok(t, h.Collect(false))
	wantCounts(t, "set", h, 3, 0, 0, 6)
	old := field(t, h, h.Root(0), 1)
	ok(t, h.Set(h.Root(0), 1, old)) // an old one's word
	ok(t, h.Set(old, 0, 11))
	ok(t, h.Collect(false))
	wantCounts(t, "set to an old one", h, 4, 0, 0, 6)
	// a young object that is set keeps nothing by itself
	young := pair(t, h, 1, 1)
	ok(t, h.Set(young, 0, pair(t, h, 1, 1)))
	ok(t, h.Collect(false))
	wantCounts(t, "a young one that was set", h, 5, 0, 0, 6)
	// an old object that is set again behind a collection is remembered again
	for i := range 3 {
		ok(t, h.Set(h.Root(0), 0, pair(t, h, small(i), 1)))
		ok(t, h.Collect(false))
		if w := field(t, h, h.Root(0), 0); field(t, h, w, 0) != small(i) {
			t.Fatal("the young one is gone")
		}
	}
	ok(t, h.Collect(true))
	ok(t, h.Set(h.Root(0), 0, pair(t, h, 7, 1)))
	ok(t, h.Collect(false))
	if w := field(t, h, h.Root(0), 0); field(t, h, w, 0) != 7 {
		t.Fatal("the young one is gone behind a whole collection")
	}
	// and one that was remembered when a whole one was made
	ok(t, h.Set(h.Root(0), 0, pair(t, h, 7, 1)))
	ok(t, h.Collect(true))
	ok(t, h.Set(h.Root(0), 0, pair(t, h, 9, 1)))
	ok(t, h.Collect(false))
	if w := field(t, h, h.Root(0), 0); field(t, h, w, 0) != 9 {
		t.Fatal("the young one is gone")
	}
}

// TestWholeCollection: what the roots lead to becomes old, all else is gone. (P14.7)
func TestWholeCollection(t *testing.T) {
	h := newHeap(t, 100, 100)
	for range 3 {
		ok(t, h.Push(mustMake(t, h, api.KVector, 1, 3, 5)))
	}
	ok(t, h.Collect(false))
	wantCounts(t, "old ones", h, 1, 0, 0, 12)
	ok(t, h.Pop(2))
	young := pair(t, h, h.Root(0), 1)
	ok(t, h.Push(young))
	pair(t, h, 1, 1)
	ok(t, h.Set(h.Root(0), 0, young)) // round and round
	ok(t, h.Collect(true))
	wantCounts(t, "a whole one", h, 1, 1, 0, 7)
	v, p := h.Root(0), h.Root(1)
	wantThere(t, h, v, api.KVector, p, 3, 5)
	wantThere(t, h, p, api.KPair, v, 1)
	ok(t, h.Pop(2))
	ok(t, h.Collect(true))
	wantCounts(t, "nothing is left", h, 1, 2, 0, 0)
	wantVoid(t, h, v)
	wantVoid(t, h, p)
	// both are counted of an empty heap, too
	ok(t, h.Collect(true))
	ok(t, h.Collect(false))
	wantCounts(t, "an empty heap", h, 2, 3, 0, 0)
}

// Room

// hold pushes so many pairs.
func hold(t *testing.T, h *heap.Heap, n int) {
	t.Helper()
	for i := range n {
		ok(t, h.Push(pair(t, h, small(i), 1)))
	}
}

func TestRoomOfYoungOnes(t *testing.T) {
	for c := 1; c <= 16; c++ {
		h := newHeap(t, 16, 100)
		n := 0
		for h.Counts().Minor == 0 {
			mustMake(t, h, api.KVector, make([]api.Word, c-1)...)
			n++
		}
		if n != 16/c+1 || h.Counts().Young != c {
			t.Errorf("%d objects of %d cells until it was collected: %+v", n, c, h.Counts())
		}
	}
}

func TestRoomOfOldOnes(t *testing.T) {
	// old ones that have just room
	h := newHeap(t, 18, 18)
	hold(t, h, 6)
	wantCounts(t, "six pairs", h, 0, 0, 18, 0)
	ok(t, h.Collect(false))
	wantCounts(t, "old ones", h, 1, 0, 0, 18)
	pair(t, h, 1, 1)
	wantCounts(t, "a young one", h, 1, 0, 3, 18)
	// and then no room any more: a whole one at once, which does not help
	hold(t, h, 1)
	if e := h.Collect(false); e != api.ErrMemory {
		t.Errorf("Collect: %v", e)
	}
	wantCounts(t, "spent", h, 2, 1, 0, 21)

	// a whole one that helps
	h = newHeap(t, 18, 18)
	hold(t, h, 6)
	ok(t, h.Collect(false))
	ok(t, h.Pop(3))
	hold(t, h, 1)
	ok(t, h.Collect(false))
	wantCounts(t, "a whole one helps", h, 2, 1, 0, 12)

	// a whole one alone is counted alone
	h = newHeap(t, 18, 18)
	hold(t, h, 6)
	ok(t, h.Collect(true))
	wantCounts(t, "a whole one", h, 0, 1, 0, 18)
	hold(t, h, 1)
	if e := h.Collect(true); e != api.ErrMemory {
		t.Errorf("Collect(true): %v", e)
	}
	wantCounts(t, "spent by a whole one", h, 0, 2, 0, 21)
}

func TestMakeCollectsWholly(t *testing.T) {
	h := newHeap(t, 18, 18)
	hold(t, h, 6)
	ok(t, h.Collect(false))
	ok(t, h.Pop(5))
	hold(t, h, 5)
	pair(t, h, 1, 1)
	wantCounts(t, "the young ones are full", h, 1, 0, 18, 18)
	w := pair(t, h, 5, 7) // a young one: 18 + 15 old; then a whole one
	wantCounts(t, "made", h, 2, 1, 3, 18)
	wantThere(t, h, w, api.KPair, 5, 7)
	ok(t, h.Push(w))
	for i := range 7 {
		want := []api.Word{small(0), small(0), small(1), small(2), small(3), small(4), 5}[i]
		if field(t, h, h.Root(i), 0) != want {
			t.Errorf("the root %d has %d", i, field(t, h, h.Root(i), 0))
		}
	}
}

// TestSpent: what was there is there still; but nothing is made or collected any more.
func TestSpent(t *testing.T) {
	spend := map[string]func(h *heap.Heap) api.Errno{
		"Make":           func(h *heap.Heap) api.Errno { w, e := h.Make(api.KPair, 1, 1); return e + api.Errno(w) },
		"Text":           func(h *heap.Heap) api.Errno { w, e := h.Text(api.KString, "abc"); return e + api.Errno(w) },
		"Collect(false)": func(h *heap.Heap) api.Errno { return h.Collect(false) },
		"Collect(true)":  func(h *heap.Heap) api.Errno { return h.Collect(true) },
	}
	for what, f := range spend {
		h := newHeap(t, 18, 18)
		hold(t, h, 6)
		ok(t, h.Collect(true))
		hold(t, h, 6)
		if e := f(h); e != api.ErrMemory {
			t.Errorf("%s: %v", what, e)
		}
		minor, major := 1, 2
		if what == "Collect(true)" {
			minor = 0
		}
		wantCounts(t, what, h, minor, major, 0, 36)
		ok(t, h.Pop(11)) // nothing helps any more
		for other, g := range spend {
			if e := g(h); e != api.ErrMemory {
				t.Errorf("%s behind %s: %v", other, what, e)
			}
		}
		if w, e := h.Make(api.KVector); w != 0 || e != api.ErrMemory {
			t.Errorf("an empty vector: %d, %v", w, e)
		}
		if w, e := h.Make(api.KPair, 1); w != 0 || e != api.ErrArg {
			t.Errorf("a wrong pair: %d, %v", w, e)
		}
		if w, e := h.Make(api.KPair, 1, 1<<50); w != 0 || e != api.ErrWord {
			t.Errorf("a wrong word: %d, %v", w, e)
		}
		if w, e := h.Text(api.KPair, ""); w != 0 || e != api.ErrArg {
			t.Errorf("a wrong text: %d, %v", w, e)
		}
		wantCounts(t, what+", and all others", h, minor, major, 0, 36)
		w := h.Root(0)
		wantThere(t, h, w, api.KPair, small(0), 1)
		ok(t, h.Set(w, 0, w))
		ok(t, h.Push(w))
		ok(t, h.SetRoot(1, field(t, h, w, 0)))
		wantThere(t, h, h.Root(1), api.KPair, w, 1)
		ok(t, h.Pop(2))
	}
}

// TestSpentByFields: what the fields of a new object lead to counts (P14.8).
func TestSpentByFields(t *testing.T) {
	for _, more := range []int{0, 1} {
		h := newHeap(t, 18, 18)
		hold(t, h, 6-1)
		var l api.Word = api.Nil
		ok(t, h.Collect(true))
		for range 1 + more {
			l = pair(t, h, 1, l)
		}
		for h.Counts().Young+3 <= 18 {
			pair(t, h, 1, 1)
		}
		w, e := h.Make(api.KVector, l, 1, 3)
		if more == 0 {
			if e != api.OK {
				t.Errorf("Make: %v", e)
			}
			wantThere(t, h, field(t, h, w, 0), api.KPair, 1, api.Nil)
			wantCounts(t, "just room", h, 1, 1, 4, 18)
		} else if w != 0 || e != api.ErrMemory {
			t.Errorf("Make: %d, %v", w, e)
		} else {
			wantCounts(t, "no room", h, 1, 2, 0, 21)
		}
	}
}

// TestNewAddresses: each collection gives each object an address that none had; they are even, and at most 2^40.
func TestNewAddresses(t *testing.T) {
	h := newHeap(t, 64, 64)
	seen := map[api.Word]int{}
	told := func(w api.Word) {
		if seen[w]++; seen[w] > 1 || w < 2 || w&1 == 1 || w > 1<<40 {
			t.Fatalf("the address %d", w)
		}
	}
	for i := range 5 {
		w := pair(t, h, small(i), h.Root(i-1))
		told(w)
		ok(t, h.Push(w))
	}
	for i := range 200 {
		ok(t, h.Collect(i%3 == 0))
		for j := range 5 {
			told(h.Root(j))
			if next := field(t, h, h.Root(j), 1); next != h.Root(j-1) || field(t, h, h.Root(j), 0) != small(j) {
				t.Fatal("what the root leads to")
			}
		}
		w := pair(t, h, 1, 1)
		told(w)
	}
}

// TestHighAddresses: behind very many collections they begin anew.
func TestHighAddresses(t *testing.T) {
	for _, less := range []api.Word{0, 2, 10, 20, 100} {
		h := newHeap(t, 64, 64)
		h.Raise(heap.MostShift - less)
		for i := range 5 {
			ok(t, h.Push(pair(t, h, small(i), h.Root(i-1))))
		}
		for i := range 30 {
			var before [5]api.Word
			for j := range before {
				before[j] = h.Root(j)
				if before[j] < 2 || before[j] > 1<<40 || field(t, h, before[j], 0) != small(j) || field(t, h, before[j], 1) != h.Root(j-1) {
					t.Fatalf("the root %d is %d", j, before[j])
				}
			}
			ok(t, h.Collect(i%3 == 0))
			for _, w := range before {
				wantVoid(t, h, w)
			}
		}
		if h.Root(0) > 1<<20 {
			t.Errorf("the first address is %d", h.Root(0))
		}
	}
	h := newHeap(t, api.MaxHeap, api.MaxHeap)
	h.Raise(heap.MostShift)
	for range api.MaxHeap {
		if w, e := h.Make(api.KVector); e != api.OK || w > 1<<40 {
			t.Fatal(w, e)
		}
	}
}

// TestLongChains: of objects that lead to one another in a long row, and a heap that is full of them.
func TestLongChains(t *testing.T) {
	h := newHeap(t, api.MaxHeap, api.MaxHeap)
	const n = api.MaxHeap / 3
	ok(t, h.Push(api.Nil))
	for i := range n {
		ok(t, h.SetRoot(0, pair(t, h, small(i), h.Root(0))))
	}
	for i, all := range []bool{false, true, false} {
		ok(t, h.Collect(all))
		if c := h.Counts(); c.Old != 3*n || c.Young != 0 || c.Minor+c.Major != i+1 {
			t.Fatalf("%+v", c)
		}
	}
	w := h.Root(0)
	for i := n - 1; i >= 0; i-- {
		if field(t, h, w, 0) != small(i) {
			t.Fatalf("the pair %d", i)
		}
		w = field(t, h, w, 1)
	}
	if w != api.Nil {
		t.Error("the end")
	}
}

// TestSmallYoungBesideGreatOld: a young collection does not go through the old ones, else this would take hours.
func TestSmallYoungBesideGreatOld(t *testing.T) {
	h := newHeap(t, 16, api.MaxHeap)
	ok(t, h.Push(api.Nil))
	const n = 300000
	for i := range n {
		ok(t, h.SetRoot(0, pair(t, h, small(i), h.Root(0))))
		pair(t, h, 1, 1)
	}
	if c := h.Counts(); c.Minor < n/5 || c.Old < 3*n-16 || c.Old > 3*n || c.Major > 0 {
		t.Errorf("%+v", c)
	}
}

// TestTextsStay: each byte of them.
func TestTextsStay(t *testing.T) {
	h := newHeap(t, 600, 2000)
	texts := []string{"", "\x00", "a", strings.Repeat("\xff", 4000), "12345678", "é"}
	for i, s := range texts {
		ok(t, h.Push(mustText(t, h, []int{api.KString, api.KSymbol, api.KBig}[i%3], s)))
	}
	for range 3 {
		ok(t, h.Collect(false))
		ok(t, h.Collect(true))
		for i, s := range texts {
			if w := h.Root(i); h.String(w) != s || h.Kind(w) != []int{api.KString, api.KSymbol, api.KBig}[i%3] || h.Len(w) != len(s) {
				t.Errorf("%q is %q", s, h.String(w))
			}
		}
	}
	wantCounts(t, "texts", h, 3, 3, 0, 1+2+2+501+2+2)
}
