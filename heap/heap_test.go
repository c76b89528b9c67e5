package heap_test

import (
	"slices"
	"strings"
	"testing"

	"rostrum/api"
	"rostrum/heap"
)

// P14.1

func TestNew(t *testing.T) {
	for _, c := range []struct{ young, old int }{{16, 16}, {17, 16}, {16, 100}, {api.MaxHeap, api.MaxHeap}, {16, api.MaxHeap}, {api.MaxHeap, 16}} {
		h := newHeap(t, c.young, c.old)
		wantCounts(t, "an empty heap", h, 0, 0, 0, 0)
		if h.Roots() != 0 || h.Root(0) != 0 || h.Kind(2) != 0 {
			t.Error("it is not empty")
		}
	}
	for _, n := range []int{-1 << 63, -1, 0, 1, 15, api.MaxHeap + 1, 1<<63 - 1} {
		for _, c := range [][2]int{{n, 16}, {16, n}, {n, n}} {
			if h, e := heap.New(c[0], c[1]); h != nil || e != api.ErrArg {
				t.Errorf("New(%d, %d): %v", c[0], c[1], e)
			}
		}
	}
}

// TestHeapsThatNoCallMade

func TestHeapsThatNoCallMade(t *testing.T) {
	for _, h := range []*heap.Heap{nil, {}} {
		for _, kind := range []int{0, api.KPair, api.KString} {
			if w, e := h.Make(kind, 1, 1); w != 0 || e != api.ErrNil {
				t.Errorf("Make: %d, %v", w, e)
			}
			if w, e := h.Text(kind, "a"); w != 0 || e != api.ErrNil {
				t.Errorf("Text: %d, %v", w, e)
			}
		}
		if h.Kind(2) != 0 || h.Len(2) != 0 || h.String(2) != "" || h.Root(0) != 0 || h.Roots() != 0 || h.Counts() != (api.Counts{}) {
			t.Error("it tells something")
		}
		for _, w := range []api.Word{1, 2, -1 << 30} {
			if v, e := h.Field(w, 0); v != 0 || e != api.ErrNil {
				t.Errorf("Field: %d, %v", v, e)
			}
			if h.Set(w, 0, 1) != api.ErrNil || h.Push(w) != api.ErrNil || h.SetRoot(0, w) != api.ErrNil {
				t.Error("Set, Push, SetRoot")
			}
		}
		if h.Pop(0) != api.ErrNil || h.Pop(-1) != api.ErrNil || h.Collect(true) != api.ErrNil || h.Collect(false) != api.ErrNil {
			t.Error("Pop, Collect")
		}
	}
}

// P14.2

func TestMake(t *testing.T) {
	h := newHeap(t, 10000, 16)
	cells := 0
	for kind, counts := range map[int][]int{api.KPair: {2}, api.KVector: {0, 1, 2, 3, 4, 5, 999, 1000}, api.KClosure: {3}, api.KCont: {2}, api.KFrame: {4}} {
		for n := range 1010 {
			fields := make([]api.Word, n)
			for i := range fields {
				fields[i] = small(i)
			}
			if slices.Contains(counts, n) {
				w := mustMake(t, h, kind, fields...)
				wantThere(t, h, w, kind, fields...)
				cells += 1 + n
				if h.Counts().Young != cells {
					t.Fatalf("a %d of %d fields: %+v", kind, n, h.Counts())
				}
			} else if kind == api.KVector && n <= 1000 {
				continue
			} else if w, e := h.Make(kind, fields...); w != 0 || e != api.ErrArg {
				t.Errorf("a %d of %d fields: %d, %v", kind, n, w, e)
			}
		}
	}
	for _, kind := range []int{-1 << 63, -1, 0, api.KString, api.KSymbol, api.KBig, api.NumKinds, 100, 1<<63 - 1} {
		for n := range 6 {
			if w, e := h.Make(kind, make([]api.Word, n)...); w != 0 || e != api.ErrArg {
				t.Errorf("Make of the kind %d: %d, %v", kind, w, e)
			}
		}
	}
	if w, e := h.Make(api.KVector, make([]api.Word, 1<<20)...); w != 0 || e != api.ErrArg {
		t.Errorf("a huge vector: %d, %v", w, e)
	}
	wantCounts(t, "all these", h, 0, 0, cells, 0)
}

func TestText(t *testing.T) {
	h := newHeap(t, 10000, 16)
	cells := 0
	for _, kind := range []int{api.KString, api.KSymbol, api.KBig} {
		for n, more := range map[int]int{0: 1, 1: 2, 7: 2, 8: 2, 9: 3, 16: 3, 17: 4, 3992: 500, 3993: 501, 4000: 501} {
			s := strings.Repeat("\xff", n)
			w := mustText(t, h, kind, s)
			cells += more
			if h.Kind(w) != kind || h.Len(w) != n || h.String(w) != s || h.Counts().Young != cells {
				t.Errorf("a text of %d bytes: %d, %d, %+v", n, h.Kind(w), h.Len(w), h.Counts())
			}
			for _, i := range []int{-1, 0, 1} {
				if v, e := h.Field(w, i); v != 0 || e != api.ErrArg {
					t.Errorf("a text's field %d: %d, %v", i, v, e)
				}
				if e := h.Set(w, i, 1); e != api.ErrArg {
					t.Errorf("a text's field is set: %v", e)
				}
			}
		}
		for _, n := range []int{4001, 5000, 100000} {
			if w, e := h.Text(kind, strings.Repeat("a", n)); w != 0 || e != api.ErrArg {
				t.Errorf("a text of %d bytes: %d, %v", n, w, e)
			}
		}
	}
	for _, kind := range []int{-1 << 63, -1, 0, api.KPair, api.KVector, api.KClosure, api.KCont, api.KFrame, api.NumKinds, 1<<63 - 1} {
		if w, e := h.Text(kind, "a"); w != 0 || e != api.ErrArg {
			t.Errorf("Text of the kind %d: %d, %v", kind, w, e)
		}
	}
	wantCounts(t, "all these", h, 0, 0, cells, 0)
}

// TestWordsThatAreThere, wherever a word is handed in.
func TestWordsThatAreThere(t *testing.T) {
	h := newHeap(t, 1000, 1000)
	p := pair(t, h, 1, 3)
	ok(t, h.Push(p))
	there := []api.Word{0, -2, -4, -6, -8, -10, -1 << 20, -1<<21 + 2, -1 << 21, 1, 3, -1, -3, 1<<63 - 1, -1<<63 + 1, 1<<50 + 1, -1<<50 - 1, -1<<21 - 1, p}
	for _, w := range there {
		wantThere(t, h, pair(t, h, w, 5), api.KPair, w, 5)
		wantThere(t, h, pair(t, h, 5, w), api.KPair, 5, w)
		ok(t, h.Set(p, 0, w))
		if field(t, h, p, 0) != w {
			t.Errorf("%d is set, %d is there", w, field(t, h, p, 0))
		}
		ok(t, h.Push(w))
		ok(t, h.SetRoot(1, w))
		if h.Roots() != 2 || h.Root(1) != w {
			t.Errorf("the root %d is %d", w, h.Root(1))
		}
		ok(t, h.Pop(1))
		if w != p {
			wantGone(t, h, w)
		}
	}
	ok(t, h.Set(p, 0, 1))
	before := h.Counts()
	for _, w := range []api.Word{-1<<21 - 2, -1 << 40, -1 << 63, 1 << 20, 1 << 40, 1<<40 + 2, 1 << 50, 1<<63 - 2} {
		for i := range 2 {
			fields := []api.Word{1, 3}
			fields[i] = w
			if v, e := h.Make(api.KPair, fields...); v != 0 || e != api.ErrWord {
				t.Errorf("Make with %d: %d, %v", w, v, e)
			}
		}
		if h.Set(p, 0, w) != api.ErrWord || h.Push(w) != api.ErrWord || h.SetRoot(0, w) != api.ErrWord {
			t.Errorf("%d is taken", w)
		}
		wantGone(t, h, w)
	}
	if h.Counts() != before || h.Roots() != 1 || h.Root(0) != p || field(t, h, p, 0) != 1 {
		t.Error("what was refused has changed something")
	}
}

func TestMakeTellsTheFirstError(t *testing.T) {
	const wrong = api.Word(1 << 50)
	h := newHeap(t, 16, 16)
	for _, c := range []struct {
		kind   int
		fields []api.Word
		why    api.Errno
	}{
		{api.KPair, []api.Word{wrong}, api.ErrArg}, {api.KString, []api.Word{wrong, wrong}, api.ErrArg}, {0, []api.Word{wrong, wrong}, api.ErrArg}, {api.KVector, slices.Repeat([]api.Word{wrong}, 1001), api.ErrArg},
		{api.KVector, slices.Repeat([]api.Word{1}, 1001), api.ErrArg}, {api.KVector, slices.Repeat([]api.Word{wrong}, 1000), api.ErrWord}, {api.KVector, append(slices.Repeat([]api.Word{1}, 999), wrong), api.ErrWord}, {api.KVector, slices.Repeat([]api.Word{1}, 1000), api.ErrMemory}, {api.KVector, slices.Repeat([]api.Word{1}, 16), api.ErrMemory},
	} {
		if w, e := h.Make(c.kind, c.fields...); w != 0 || e != c.why {
			t.Errorf("a %d of %d fields: %d, %v, want %v", c.kind, len(c.fields), w, e, c.why)
		}
	}
	if w, e := h.Text(api.KPair, strings.Repeat("a", 4000)); w != 0 || e != api.ErrArg {
		t.Errorf("Text: %d, %v", w, e)
	}
	if w, e := h.Text(api.KString, strings.Repeat("a", 4001)); w != 0 || e != api.ErrArg {
		t.Errorf("Text: %d, %v", w, e)
	}
	if w, e := h.Text(api.KString, strings.Repeat("a", 4000)); w != 0 || e != api.ErrMemory {
		t.Errorf("Text: %d, %v", w, e)
	}
	wantCounts(t, "nothing was made, or collected", h, 0, 0, 0, 0)
	mustMake(t, h, api.KVector, make([]api.Word, 15)...)
	wantCounts(t, "as great as young", h, 0, 0, 16, 0)
	mustText(t, h, api.KBig, strings.Repeat("9", 120))
	wantCounts(t, "as great as young", h, 1, 0, 16, 0)
	if w, e := h.Text(api.KBig, strings.Repeat("9", 121)); w != 0 || e != api.ErrMemory {
		t.Errorf("Text: %d, %v", w, e)
	}
	// an object that is too great neither collects nor spends the heap
	wantCounts(t, "too great", h, 1, 0, 16, 0)
	ok(t, h.Collect(false))
}

func TestFieldsAreNotKept(t *testing.T) {
	h := newHeap(t, 100, 100)
	fields := append(make([]api.Word, 0, 10), 1, 3, 5)
	copy(fields[3:10], []api.Word{7, 7, 7, 7, 7, 7, 7})
	w := mustMake(t, h, api.KVector, fields...)
	v := mustMake(t, h, api.KVector, fields...)
	ok(t, h.Push(w))
	ok(t, h.Push(v))
	ok(t, h.Set(w, 0, 9))
	if !slices.Equal(fields[:10], []api.Word{1, 3, 5, 7, 7, 7, 7, 7, 7, 7}) {
		t.Errorf("the fields that were handed in are %v", fields[:10])
	}
	clear(fields[:10])
	wantThere(t, h, w, api.KVector, 9, 3, 5)
	wantThere(t, h, v, api.KVector, 1, 3, 5)
	// fields that are words of objects are not given new words where they were handed in
	l := []api.Word{v, w}
	for h.Counts().Minor == 0 {
		l[0], l[1] = h.Root(0), h.Root(1)
		before := slices.Clone(l)
		mustMake(t, h, api.KVector, l...)
		if !slices.Equal(l, before) {
			t.Fatal("what was handed in has changed")
		}
	}
}

// TestFieldsOfANewObjectStay: what they lead to stays when Make collects, and the new object has the new words.
func TestFieldsOfANewObjectStay(t *testing.T) {
	for _, whole := range []bool{false, true} {
		h := newHeap(t, 16, 23)
		if whole { // the old ones are so many that a whole collection is made
			for range 4 {
				ok(t, h.Push(mustMake(t, h, api.KVector, 1, 1, 1)))
			}
			ok(t, h.Collect(false))
			ok(t, h.Pop(4))
		}
		before := h.Counts()
		s := mustText(t, h, api.KString, "s")
		inner := pair(t, h, s, s)
		outer := pair(t, h, inner, small(7))
		ok(t, h.Set(inner, 1, outer))
		pair(t, h, 1, 1) // it goes
		mustMake(t, h, api.KVector, 1)
		w := mustMake(t, h, api.KFrame, inner, outer, s, api.Nil)
		after := h.Counts()
		if after.Minor != before.Minor+1 || (after.Major == 1) != whole || after.Young != 5 || after.Old != 8 {
			t.Errorf("%+v, then %+v", before, after)
		}
		inner, outer, s = field(t, h, w, 0), field(t, h, w, 1), field(t, h, w, 2)
		wantThere(t, h, w, api.KFrame, inner, outer, s, api.Nil)
		wantThere(t, h, inner, api.KPair, s, outer)
		wantThere(t, h, outer, api.KPair, inner, small(7))
		if h.Kind(s) != api.KString || h.String(s) != "s" {
			t.Error("the text is gone")
		}
	}
}

// P14.3

func TestFieldAndSet(t *testing.T) {
	h := newHeap(t, 100, 100)
	p, v, e := pair(t, h, 1, 3), mustMake(t, h, api.KVector, 5, 7, 9), mustMake(t, h, api.KVector)
	for w, n := range map[api.Word]int{p: 2, v: 3, e: 0} {
		for _, i := range []int{-1 << 63, -1, n, n + 1, 1<<63 - 1} {
			if x, why := h.Field(w, i); x != 0 || why != api.ErrArg {
				t.Errorf("the field %d of %d: %d, %v", i, n, x, why)
			}
			for _, x := range []api.Word{1, 1 << 50} {
				if why := h.Set(w, i, x); why != api.ErrArg {
					t.Errorf("the field %d of %d is set: %v", i, n, why)
				}
			}
		}
		if h.Len(w) != n {
			t.Errorf("Len is %d, want %d", h.Len(w), n)
		}
	}
	if h.Set(1, -1, 1<<50) != api.ErrWord || h.Set(p, 0, 1<<50) != api.ErrWord {
		t.Error("Set of words that are not there")
	}
	ok(t, h.Set(p, 0, v))
	ok(t, h.Set(p, 1, p))
	ok(t, h.Set(v, 1, api.False))
	wantThere(t, h, p, api.KPair, v, p)
	wantThere(t, h, v, api.KVector, 5, api.False, 9)
	wantThere(t, h, e, api.KVector)
}

// P14.4

func TestRoots(t *testing.T) {
	h := newHeap(t, 100, 100)
	p := pair(t, h, 1, 3)
	for i, w := range []api.Word{5, p, api.Nil, p, api.Prim0} {
		if h.Roots() != i {
			t.Errorf("%d roots, want %d", h.Roots(), i)
		}
		ok(t, h.Push(w))
		if h.Root(i) != w {
			t.Errorf("the root %d is %d", i, h.Root(i))
		}
	}
	for _, i := range []int{-1 << 63, -1, 5, 6, 1<<63 - 1} {
		if h.Root(i) != 0 {
			t.Errorf("the root %d is %d", i, h.Root(i))
		}
		if h.SetRoot(i, 1) != api.ErrArg || h.SetRoot(i, 1<<50) != api.ErrArg {
			t.Errorf("the root %d is set", i)
		}
	}
	for _, n := range []int{-1 << 63, -1, 6, 1<<63 - 1} {
		if h.Pop(n) != api.ErrArg || h.Roots() != 5 {
			t.Errorf("Pop(%d)", n)
		}
	}
	ok(t, h.Pop(0))
	ok(t, h.SetRoot(0, p))
	ok(t, h.SetRoot(4, 11))
	if h.Roots() != 5 || h.Root(0) != p || h.Root(1) != p || h.Root(2) != 0 || h.Root(3) != p || h.Root(4) != 11 {
		t.Error("SetRoot")
	}
	ok(t, h.Pop(2))
	if h.Roots() != 3 || h.Root(3) != 0 || h.Root(2) != 0 || h.Root(1) != p {
		t.Error("Pop(2)")
	}
	ok(t, h.Pop(3))
	if h.Roots() != 0 || h.Pop(1) != api.ErrArg {
		t.Error("Pop(3)")
	}
}

func TestTenThousandRoots(t *testing.T) {
	h := newHeap(t, 16, 16)
	p := pair(t, h, 1, 3)
	for i := range 10000 {
		ok(t, h.Push([]api.Word{p, small(i)}[i%2]))
	}
	if h.Push(1) != api.ErrFull || h.Push(p) != api.ErrFull || h.Push(1<<50) != api.ErrWord || h.Roots() != 10000 {
		t.Error("one more root")
	}
	ok(t, h.Collect(false))
	for i := range 10000 {
		if w := h.Root(i); i%2 == 1 && w != small(i) || i%2 == 0 && w != h.Root(0) {
			t.Fatalf("the root %d is %d", i, w)
		}
	}
	wantThere(t, h, h.Root(0), api.KPair, 1, 3)
	ok(t, h.Pop(1))
	ok(t, h.Push(1))
	ok(t, h.Pop(10000))
	ok(t, h.Collect(true))
	wantCounts(t, "all gone", h, 1, 1, 0, 0)
}

// TestTheSameCallsHaveTheSameAnswers: addresses, too, hang on the calls alone.
func TestTheSameCallsHaveTheSameAnswers(t *testing.T) {
	run := func() []api.Word {
		h := newHeap(t, 30, 60)
		var l []api.Word
		for i := range 100 {
			w := pair(t, h, small(i), h.Root(h.Roots()-1))
			l = append(l, w)
			if i%3 == 0 {
				ok(t, h.Push(w))
			}
			if h.Roots() > 4 {
				ok(t, h.Pop(3))
			}
		}
		return append(l, api.Word(h.Counts().Minor), api.Word(h.Counts().Major), api.Word(h.Counts().Old))
	}
	if !slices.Equal(run(), run()) {
		t.Error("two heaps part")
	}
}
