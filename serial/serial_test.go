package serial_test

import (
	"bytes"
	"math/rand"
	"slices"
	"strings"
	"testing"

	"rostrum/api"
	"rostrum/heap"
	"rostrum/serial"
)

// Objects

func TestHeapsThatNoCallMade(t *testing.T) {
	h := newHeap(t, 16, 16)
	good := encode(t, h, 11)
	for _, g := range []*heap.Heap{nil, {}} {
		for _, w := range []api.Word{1, api.Nil, 2, 1 << 50} {
			if b, e := serial.Encode(g, w); len(b) > 0 || e != api.ErrNil {
				t.Errorf("Encode: %x, %v", b, e)
			}
			if n := serial.Reach(g, w); n != 0 {
				t.Errorf("Reach: %d", n)
			}
			if serial.Same(g, w, h, w) || serial.Same(h, w, g, w) || serial.Same(g, w, g, w) {
				t.Errorf("Same of %d", w)
			}
		}
		for _, b := range [][]byte{nil, {1}, good, summed(nil)} {
			if w, e := serial.Decode(g, b); w != 0 || e != api.ErrNil {
				t.Errorf("Decode: %d, %v", w, e)
			}
		}
	}
}

// P16.1

func TestEncode(t *testing.T) {
	h := newHeap(t, 100000, 1000)
	a := text(t, h, api.KString, "ab\xff")
	sym := text(t, h, api.KSymbol, "")
	big := text(t, h, api.KBig, "99")
	p := mk(t, h, api.KPair, a, sym)
	v := mk(t, h, api.KVector, big, p, a, 3)
	c := mk(t, h, api.KClosure, 1, -1, v)
	k := mk(t, h, api.KCont, c, c)
	f := mk(t, h, api.KFrame, k, api.Nil, c, api.True)
	self := mk(t, h, api.KPair, 1, 1)
	ok(t, h.Set(self, 0, self))
	for _, x := range []struct {
		what string
		w    api.Word
		want []byte
	}{
		{"5", 11, put(1, 0, 1, 5)}, {"0", 1, put(1, 0, 1, 0)}, {"-1", -1, put(1, 0, 2, 0)}, {"-5", -9, put(1, 0, 2, 4)}, {"the greatest", 1<<63 - 1, put(1, 0, 1, 1<<62-1)}, {"the least", -1<<63 + 1, put(1, 0, 2, 1<<62-1)},
		{"Nil", api.Nil, put(1, 0, 3, 0)}, {"False", api.False, put(1, 0, 3, 1)}, {"a primitive", api.Prim0 - 6, put(1, 0, 3, 8)}, {"the last constant", -1 << 21, put(1, 0, 3, 1<<20)},
		{"a string", a, put(1, 1, api.KString, "ab\xff", 0, 0)}, {"a symbol", sym, put(1, 1, api.KSymbol, "", 0, 0)}, {"a big one", big, put(1, 1, api.KBig, "99", 0, 0)},
		{"a pair", p, put(1, 3, api.KPair, 2, 0, 1, 0, 2, api.KString, "ab\xff", api.KSymbol, "", 0, 0)},
		{"a vector", v, put(1, 5, api.KVector, 4, 0, 1, 0, 2, 0, 3, 1, 1, api.KBig, "99", api.KPair, 2, 0, 3, 0, 4, api.KString, "ab\xff", api.KSymbol, "", 0, 0)},
		{"a closure", c, put(1, 6, api.KClosure, 3, 1, 0, 2, 0, 0, 1, api.KVector, 4, 0, 2, 0, 3, 0, 4, 1, 1, api.KBig, "99", api.KPair, 2, 0, 4, 0, 5, api.KString, "ab\xff", api.KSymbol, "", 0, 0)},
		{"a frame", f, put(1, 8, api.KFrame, 4, 0, 1, 3, 0, 0, 2, 3, 2, api.KCont, 2, 0, 2, 0, 2, api.KClosure, 3, 1, 0, 2, 0, 0, 3, api.KVector, 4, 0, 4, 0, 5, 0, 6, 1, 1, api.KBig, "99", api.KPair, 2, 0, 6, 0, 7, api.KString, "ab\xff", api.KSymbol, "", 0, 0)},
		{"itself", self, put(1, 1, api.KPair, 2, 0, 0, 1, 0, 0, 0)}, {"an empty vector", mk(t, h, api.KVector), put(1, 1, api.KVector, 0, 0, 0)},
	} {
		before := h.Counts()
		b, e := serial.Encode(h, x.w)
		if e != api.OK || !bytes.Equal(b, summed(x.want)) {
			t.Errorf("%s: %x, %v, want %x", x.what, b, e, summed(x.want))
		}
		if h.Counts() != before || h.Roots() != 0 {
			t.Errorf("%s: the heap has changed", x.what)
		}
	}
}

func TestEncodeOfWordsThatAreNotThere(t *testing.T) {
	h := newHeap(t, 100, 100)
	w := mk(t, h, api.KPair, 1, 1)
	ok(t, h.Collect(true))
	for _, w := range []api.Word{w, 2, 1 << 40, 1<<63 - 2, -1<<21 - 2, -1 << 63} {
		if b, e := serial.Encode(h, w); len(b) > 0 || e != api.ErrWord {
			t.Errorf("Encode of %d: %x, %v", w, b, e)
		}
		if n := serial.Reach(h, w); n != 0 {
			t.Errorf("Reach of %d: %d", w, n)
		}
		if serial.Same(h, w, h, w) || serial.Same(h, w, h, 1) || serial.Same(h, 1, h, w) {
			t.Errorf("Same of %d", w)
		}
	}
}

// chain pushes a list of so many pairs.
func chain(t *testing.T, h *heap.Heap, n int) {
	t.Helper()
	ok(t, h.Push(api.Nil))
	at := h.Roots() - 1
	for i := range n {
		ok(t, h.SetRoot(at, mk(t, h, api.KPair, api.Word(2*i+1), h.Root(at))))
	}
}

// TestManyObjects: at most 20000 of them.
func TestManyObjects(t *testing.T) {
	for n, why := range map[int]api.Errno{19999: api.OK, 20000: api.OK, 20001: api.ErrFull, 100000: api.ErrFull} {
		h := newHeap(t, api.MaxHeap, api.MaxHeap)
		chain(t, h, n)
		b, e := serial.Encode(h, h.Root(0))
		if e != why || e != api.OK && len(b) > 0 {
			t.Errorf("%d objects: %v", n, e)
		}
		if serial.Reach(h, h.Root(0)) != n || !serial.Same(h, h.Root(0), h, h.Root(0)) {
			t.Errorf("Reach of %d: %d", n, serial.Reach(h, h.Root(0)))
		}
		if e != api.OK {
			continue
		}
		for _, young := range []int{16, 4000, api.MaxHeap} {
			g := newHeap(t, young, api.MaxHeap)
			w, e := serial.Decode(g, b)
			if e != api.OK || g.Roots() != 0 || serial.Reach(g, w) != n || !serial.Same(h, h.Root(0), g, w) {
				t.Errorf("Decode of %d objects in a heap of %d: %v", n, young, e)
			}
		}
	}
	// many of one object, and a great one of them
	h := newHeap(t, api.MaxHeap, api.MaxHeap)
	ok(t, h.Push(mk(t, h, api.KVector, make([]api.Word, 1000)...)))
	for i := range 1000 {
		v := mk(t, h, api.KVector, make([]api.Word, 21)...)
		ok(t, h.Set(h.Root(0), i, v))
		for j := range 20 {
			ok(t, h.Set(v, j, mk(t, h, api.KPair, v, h.Root(0))))
		}
	}
	if b, e := serial.Encode(h, h.Root(0)); len(b) > 0 || e != api.ErrFull || serial.Reach(h, h.Root(0)) != 21001 {
		t.Errorf("21001 objects: %v, %d", e, serial.Reach(h, h.Root(0)))
	}
	for i := 904; i < 1000; i++ {
		ok(t, h.Set(h.Root(0), i, 5))
	}
	if n := serial.Reach(h, h.Root(0)); n != 1+904*21 {
		t.Errorf("Reach: %d", n)
	}
	b := encode(t, h, h.Root(0))
	g := newHeap(t, 1001, api.MaxHeap)
	if w, e := serial.Decode(g, b); e != api.OK || !serial.Same(h, h.Root(0), g, w) {
		t.Errorf("Decode: %v", e)
	}
}

// P16.2

func TestDecodeOfWrongSums(t *testing.T) {
	h := newHeap(t, 100, 100)
	ok(t, h.Push(mk(t, h, api.KPair, 1, text(t, h, api.KString, "abc"))))
	b := encode(t, h, h.Root(0))
	for n := range len(b) {
		wantRefused(t, "a beginning", h, b[:n], api.ErrSum)
		turned := slices.Clone(b)
		turned[n] ^= byte(1 + n%255)
		wantRefused(t, "a byte turned", h, turned, api.ErrSum)
	}
	wantRefused(t, "a byte more", h, append(slices.Clone(b), 0), api.ErrSum)
	wantRefused(t, "none", h, nil, api.ErrSum)
	wantRefused(t, "three", h, []byte{0, 0, 0}, api.ErrSum)
	wantRefused(t, "the sum of none", h, summed(nil), api.ErrForm)
	wantRefused(t, "four noughts", h, make([]byte, 4), api.ErrForm) // which is that sum
}

func TestDecodeOfWrongForms(t *testing.T) {
	h := newHeap(t, 10000, 10000)
	ok(t, h.Push(mk(t, h, api.KPair, 1, 1)))
	long := strings.Repeat("a", 4001)
	many := func(n int) []byte { // so many empty vectors in vectors
		b := put(1, n)
		next := 1
		for range n {
			k := min(1000, n-next)
			b = append(b, put(api.KVector, k)...)
			for range k {
				b = append(b, put(0, next)...)
				next++
			}
		}
		return append(b, put(0, 0)...)
	}
	for what, b := range map[string][]byte{
		"version 0": put(0, 0, 1, 5), "version 2": put(2, 0, 1, 5), "a version in two bytes": append([]byte{0x81, 0}, put(0, 1, 5)...), "no more than a version": put(1), "no word": put(1, 0), "half a word": put(1, 0, 1),
		"something behind": put(1, 0, 1, 5, 0), "another word behind": put(1, 0, 1, 5, 1, 5), "a field of kind 4": put(1, 0, 4, 5), "a field of kind 128": put(1, 0, 128, 5),
		"a number in a longer form": append(put(1, 0, 1), 0x85, 0), "a count in a longer form": append([]byte{1, 0x80, 0}, put(1, 5)...), "a field's kind in a longer form": append(put(1, 0), 0x81, 0, 5),
		"a number above": put(1, 0, 1, 1<<62), "a number far above": put(1, 0, 1, 1<<63-1), "a number below": put(1, 0, 2, 1<<62), "a number of ten bytes": append(put(1, 0, 1), 0xff, 0xff, 0xff, 0xff, 0xff, 0xff, 0xff, 0xff, 0xff, 1), "a constant below": put(1, 0, 3, 1<<20+1), "a constant far below": put(1, 0, 3, 1<<63-1),
		"an object that is not there": put(1, 0, 0, 0), "an object that is not the first": put(1, 1, api.KVector, 0, 0, 1), "no word of the object": put(1, 1, api.KVector, 0, 1, 5), "a word of the second object": put(1, 2, api.KVector, 1, 0, 1, api.KVector, 0, 0, 1),
		"kind 0": put(1, 1, 0, 0, 0, 0), "kind 9": put(1, 1, api.NumKinds, 0, 0, 0), "a kind far above": put(1, 1, 1<<62, 0, 0, 0),
		"a pair of none": put(1, 1, api.KPair, 0, 0, 0), "a pair of one": put(1, 1, api.KPair, 1, 1, 5, 0, 0), "a pair of three": put(1, 1, api.KPair, 3, 1, 5, 1, 5, 1, 5, 0, 0), "a closure of two": put(1, 1, api.KClosure, 2, 1, 5, 1, 5, 0, 0), "a closure of four": put(1, 1, api.KClosure, 4, 1, 5, 1, 5, 1, 5, 1, 5, 0, 0), "a continuation of three": put(1, 1, api.KCont, 3, 1, 5, 1, 5, 1, 5, 0, 0), "a continuation of one": put(1, 1, api.KCont, 1, 1, 5, 0, 0), "a frame of three": put(1, 1, api.KFrame, 3, 1, 5, 1, 5, 1, 5, 0, 0), "a frame of five": put(1, 1, api.KFrame, 5, 1, 5, 1, 5, 1, 5, 1, 5, 1, 5, 0, 0),
		"a vector of 1001": slices.Concat(put(1, 1, api.KVector, 1001), bytes.Repeat(put(1, 5), 1001), put(0, 0)), "a vector of very many": put(1, 1, api.KVector, 1<<62, 1, 5, 0, 0), "a vector that ends": put(1, 1, api.KVector, 1000, 1, 5, 0, 0),
		"a string of 4001": put(1, 1, api.KString, long, 0, 0), "a symbol of 4001": put(1, 1, api.KSymbol, long, 0, 0), "a big one of 4001": put(1, 1, api.KBig, long, 0, 0), "a string that ends": put(1, 1, api.KString, 100, 0, 0), "a string of very many": put(1, 1, api.KString, 1<<62), "a string that ends, though what stands there could be read": put(1, 3, api.KVector, 2, 0, 1, 0, 2, api.KString, api.KBig, 0, 0, 0),
		"objects that nobody leads to": put(1, 2, api.KVector, 0, api.KVector, 0, 0, 0), "one that leads to itself alone": put(1, 2, api.KVector, 0, api.KVector, 1, 0, 1, 0, 0), "another order": put(1, 3, api.KPair, 2, 0, 2, 0, 1, api.KVector, 0, api.KVector, 0, 0, 0), "depth first": put(1, 4, api.KPair, 2, 0, 1, 0, 3, api.KVector, 1, 0, 2, api.KVector, 0, api.KVector, 0, 0, 0), "the field's object is not there": put(1, 1, api.KPair, 2, 0, 1, 1, 5, 0, 0), "fewer objects than are said": put(1, 3, api.KPair, 2, 0, 1, 1, 5, api.KVector, 0, 0, 0), "more objects than are said": put(1, 1, api.KPair, 2, 1, 5, 1, 5, api.KVector, 0, 0, 0),
		"20001 objects": many(20001), "very many objects": put(1, 1<<62, api.KVector, 0, 0, 0),
	} {
		wantRefused(t, what, h, summed(b), api.ErrForm)
	}
	for what, b := range map[string][]byte{
		"20000 objects": many(20000), "a vector of 1000": slices.Concat(put(1, 1, api.KVector, 1000), bytes.Repeat(put(1, 5), 1000), put(0, 0)), "a string of 4000": put(1, 1, api.KString, long[1:], 0, 0),
		"the least": put(1, 0, 2, 1<<62-1), "the greatest": put(1, 0, 1, 1<<62-1), "the last constant": put(1, 0, 3, 1<<20),
	} {
		g := newHeap(t, 10000, 100000)
		w, e := serial.Decode(g, summed(b))
		if e != api.OK || !bytes.Equal(encode(t, g, w), summed(b)) {
			t.Errorf("%s: %v", what, e)
		}
	}
}

// TestDecodeTellsFormsAheadOfHeaps: what is wrong with the bytes is told, whether the heap has room or not.
func TestDecodeTellsFormsAheadOfHeaps(t *testing.T) {
	spent := newHeap(t, 16, 16)
	for range 6 {
		ok(t, spent.Push(mk(t, spent, api.KVector, 1, 1, 1, 1)))
		spent.Collect(true)
		if spent.Collect(false) != api.OK {
			break
		}
	}
	full := newHeap(t, 16, 16)
	for full.Push(5) == api.OK {
	}
	for what, h := range map[string]*heap.Heap{"spent": spent, "full": full} {
		why := map[string]api.Errno{"spent": api.ErrMemory, "full": api.ErrFull}[what]
		wantRefused(t, what, h, []byte{1}, api.ErrSum)
		wantRefused(t, what, h, summed(put(1, 1, api.KVector, 0, 0, 0, 0)), api.ErrForm)
		wantRefused(t, what, h, summed(put(1, 1, api.KVector, 0, 0, 0)), why)
		wantRefused(t, what, h, summed(put(1, 2, api.KPair, 2, 0, 0, 0, 1, api.KString, "a", 0, 0)), why)
		if w, e := serial.Decode(h, summed(put(1, 0, 1, 5))); w != 11 || e != api.OK {
			t.Errorf("%s: a small number: %d, %v", what, w, e)
		}
	}
	if full.Roots() != mostRoots || full.Root(mostRoots-1) != 5 {
		t.Error("the roots have changed")
	}
}

// TestDecodeLeavesNothing: where an object is too great for the heap, none of the others is in it.
func TestDecodeLeavesNothing(t *testing.T) {
	sixteen := bytes.Repeat(put(1, 5), 16)
	for what, b := range map[string][]byte{
		"a string":             put(1, 1, api.KString, strings.Repeat("a", 121), 0, 0),
		"a string behind":      put(1, 3, api.KPair, 2, 0, 1, 0, 2, api.KString, "a", api.KString, strings.Repeat("a", 121), 0, 0),
		"a string ahead":       put(1, 3, api.KPair, 2, 0, 1, 0, 2, api.KString, strings.Repeat("a", 121), api.KString, "a", 0, 0),
		"a vector":             slices.Concat(put(1, 1, api.KVector, 16), sixteen, put(0, 0)),
		"a vector with others": slices.Concat(put(1, 2, api.KVector, 16, 0, 1), sixteen[2:], put(api.KString, "a", 0, 0)),
		"a vector behind":      slices.Concat(put(1, 3, api.KPair, 2, 0, 1, 0, 2, api.KString, "a", api.KVector, 16), sixteen, put(0, 0)),
		"round and round":      slices.Concat(put(1, 3, api.KPair, 2, 0, 1, 0, 2, api.KVector, 2, 0, 0, 0, 2, api.KVector, 16), sixteen[2:], put(0, 1, 0, 0)),
	} {
		h := newHeap(t, 16, 1000)
		ok(t, h.Push(mk(t, h, api.KPair, 1, 3)))
		wantRefused(t, what, h, summed(b), api.ErrMemory)
		// a cell more, and it goes
		h = newHeap(t, 17, 1000)
		ok(t, h.Push(mk(t, h, api.KPair, 1, 3)))
		w, e := serial.Decode(h, summed(b))
		if e != api.OK || h.Roots() != 1 || !bytes.Equal(encode(t, h, w), summed(b)) {
			t.Errorf("%s: %v", what, e)
		}
	}
}

// TestDecodeInFullHeaps: one that is spent on the way; what the roots lead to is there still.
func TestDecodeInFullHeaps(t *testing.T) {
	from := newHeap(t, 10000, 10000)
	chain(t, from, 100)
	b := encode(t, from, from.Root(0))
	goes := 0
	for old := 16; old < 400; old += 7 {
		h := newHeap(t, 16, old)
		chain(t, h, 4)
		before := encode(t, h, h.Root(0))
		w, e := serial.Decode(h, b)
		if e == api.OK {
			goes++
			if !serial.Same(from, from.Root(0), h, w) {
				t.Errorf("%d old cells: it is not the same", old)
			}
		} else if e != api.ErrMemory || w != 0 {
			t.Errorf("%d old cells: %d, %v", old, w, e)
		}
		if h.Roots() != 1 || !bytes.Equal(encode(t, h, h.Root(0)), before) {
			t.Errorf("%d old cells: the roots have changed", old)
		}
	}
	if goes == 0 || goes > 20 {
		t.Errorf("it went %d times", goes)
	}
}

// TestDecodeWithFewRoots: two of them are enough.
func TestDecodeWithFewRoots(t *testing.T) {
	from := newHeap(t, 10000, 10000)
	chain(t, from, 50)
	ok(t, from.Push(mk(t, from, api.KPair, from.Root(0), mk(t, from, api.KVector, make([]api.Word, 100)...))))
	great := encode(t, from, text(t, from, api.KString, strings.Repeat("a", 200)))
	for left := range 4 {
		h := newHeap(t, 101, 10000)
		for range mostRoots - left {
			ok(t, h.Push(5))
		}
		for i := range 2 {
			b := encode(t, from, from.Root(i))
			if left <= i {
				wantRefused(t, "no roots left", h, b, api.ErrFull)
				continue
			}
			if w, e := serial.Decode(h, b); e != api.OK || !serial.Same(from, from.Root(i), h, w) {
				t.Errorf("%d roots left: %v", left, e)
			}
		}
		if w, e := serial.Decode(h, great); left > 0 && (e != api.OK || h.Len(w) != 200) {
			t.Errorf("a great string, %d roots left: %v", left, e)
		}
		if h.Roots() != mostRoots-left || h.Root(h.Roots()-1) != 5 {
			t.Error("the roots have changed")
		}
	}
}

// TestDecodeMakesJustTheObjects: cells as many as they have, and new ones.
func TestDecodeMakesJustTheObjects(t *testing.T) {
	h := newHeap(t, 1000, 1000)
	chain(t, h, 10)
	b := encode(t, h, h.Root(0))
	kept := slices.Clone(b)
	before := h.Counts()
	w, e := serial.Decode(h, b)
	ok(t, e)
	if c := h.Counts(); c.Young != before.Young+30 || c.Minor != 0 || w == h.Root(0) {
		t.Errorf("%+v", c)
	}
	ok(t, h.Set(w, 0, 99))
	if v, _ := h.Field(h.Root(0), 0); v == 99 {
		t.Error("it is the old one")
	}
	if !bytes.Equal(b, kept) {
		t.Error("the bytes have changed")
	}
}

// Memory

func TestNewMemory(t *testing.T) {
	h := newHeap(t, 1000, 1000)
	ok(t, h.Push(mk(t, h, api.KPair, text(t, h, api.KString, "abc"), 5)))
	a, b := encode(t, h, h.Root(0)), encode(t, h, h.Root(0))
	want := slices.Clone(a)
	w, e := serial.Decode(h, a)
	ok(t, e)
	for i := range a[:cap(a)] {
		a[:cap(a)][i] = 0xee
	}
	if !bytes.Equal(b, want) || !bytes.Equal(encode(t, h, w), want) {
		t.Error("memory is shared")
	}
	roomy := append(make([]byte, 0, 500), want...)
	for i := len(roomy); i < 500; i++ {
		roomy[:500][i] = 0xdd
	}
	if _, e := serial.Decode(h, roomy); e != api.OK || !bytes.Equal(roomy, want) || bytes.Count(roomy[:500], []byte{0xdd}) < 500-len(want) {
		t.Errorf("the room behind the bytes has changed: %v", e)
	}
}

// P16.3

func TestReach(t *testing.T) {
	h := newHeap(t, 1000, 1000)
	s := text(t, h, api.KString, "abc")
	p := mk(t, h, api.KPair, s, s)
	v := mk(t, h, api.KVector, p, s, mk(t, h, api.KVector))
	self := mk(t, h, api.KPair, 1, 1)
	ok(t, h.Set(self, 0, self))
	for w, want := range map[api.Word]int{5: 0, api.Nil: 0, api.Prim0: 0, s: 1, p: 2, v: 4, self: 1} {
		if n := serial.Reach(h, w); n != want {
			t.Errorf("Reach of %d: %d, want %d", w, n, want)
		}
	}
}

func TestSame(t *testing.T) {
	g, h := newHeap(t, 1000, 1000), newHeap(t, 1000, 1000)
	for i := range 7 { // so that the same words are other objects
		mk(t, h, api.KPair, api.Word(2*i+1), 1)
	}
	round := func(h *heap.Heap, n int) api.Word { // so many pairs, one behind the other, and the first behind the last
		first := mk(t, h, api.KPair, 3, api.Nil)
		last := first
		for range n - 1 {
			next := mk(t, h, api.KPair, 3, api.Nil)
			ok(t, h.Set(last, 1, next))
			last = next
		}
		ok(t, h.Set(last, 1, first))
		return first
	}
	make := func(h *heap.Heap) map[string]api.Word {
		s, t1, t2 := text(t, h, api.KString, "a"), text(t, h, api.KString, "b"), text(t, h, api.KString, "b")
		return map[string]api.Word{
			"5": 11, "6": 13, "Nil": api.Nil, "False": api.False, "an odd one": -5, "a string": s, "another": t1, "a symbol": text(t, h, api.KSymbol, "a"), "a big one": text(t, h, api.KBig, "a"), "an empty string": text(t, h, api.KString, ""),
			"a pair": mk(t, h, api.KPair, 1, 3), "a continuation": mk(t, h, api.KCont, 1, 3), "a vector of two": mk(t, h, api.KVector, 1, 3), "a vector of one": mk(t, h, api.KVector, 1), "a vector of none": mk(t, h, api.KVector), "a vector of three": mk(t, h, api.KVector, 1, 3, 5), "another pair": mk(t, h, api.KPair, 1, 5), "a third pair": mk(t, h, api.KPair, 3, 3),
			"a shared part": mk(t, h, api.KPair, t1, t1), "two parts": mk(t, h, api.KPair, t1, t2), "other parts": mk(t, h, api.KPair, t1, s), "a closure": mk(t, h, api.KClosure, 1, 3, 5), "a frame": mk(t, h, api.KFrame, 1, 3, 5, 7),
			"a round of one": round(h, 1), "a round of two": round(h, 2), "a round of three": round(h, 3), "a way to a round": mk(t, h, api.KPair, 3, round(h, 1)), "another way": mk(t, h, api.KPair, 3, round(h, 2)),
			"crossed": mk(t, h, api.KVector, t1, t2, t1, t2), "not crossed": mk(t, h, api.KVector, t1, t2, t2, t1), "two and two": mk(t, h, api.KVector, t1, t1, t2, t2),
		}
	}
	l, m := make(g), make(h)
	for a, x := range l {
		for b, y := range m {
			if got := serial.Same(g, x, h, y); got != (a == b) {
				t.Errorf("%s and %s: %v", a, b, got)
			}
			if got := serial.Same(h, y, g, x); got != (a == b) {
				t.Errorf("%s and %s: %v", b, a, got)
			}
			if got := bytes.Equal(encode(t, g, x), encode(t, h, y)); got != (a == b) {
				t.Errorf("the bytes of %s and %s: %v", a, b, got)
			}
		}
		for b, y := range l {
			if got := serial.Same(g, x, g, y); got != (a == b) {
				t.Errorf("%s and %s in one heap: %v", a, b, got)
			}
		}
	}
	// a word that one heap has, and the other has not
	k := newHeap(t, 16, 16)
	if serial.Same(g, l["a pair"], k, l["a pair"]) || serial.Same(k, l["a pair"], g, l["a pair"]) {
		t.Error("a word that is not there")
	}
}

// P16.4, P16.5

func TestThereAndBack(t *testing.T) {
	r := rand.New(rand.NewSource(1))
	collected, different := 0, 0
	for range 10000 {
		v := random(r, 1+r.Intn(1+r.Intn(80)))
		h := newHeap(t, 100000, 1000)
		w := build(t, r, h, v)
		wantValue(t, "built", h, w, v)
		b := encode(t, h, w)
		if !bytes.Equal(b, summed(encoded(v))) {
			t.Fatalf("%x, want %x", b, summed(encoded(v)))
		}
		if n := serial.Reach(h, w); n != len(order(v)) {
			t.Fatalf("Reach: %d, want %d", n, len(order(v)))
		}
		g := newHeap(t, 16+r.Intn(1+r.Intn(100)), 10000)
		ok(t, g.Push(mk(t, g, api.KPair, 7, 9)))
		x, e := serial.Decode(g, b)
		if e != api.OK || g.Roots() != 1 {
			t.Fatalf("Decode: %v, %d roots", e, g.Roots())
		}
		wantValue(t, "decoded", g, x, v)
		if !serial.Same(h, w, g, x) || !bytes.Equal(encode(t, g, x), b) {
			t.Fatal("it is not the same")
		}
		if f, e := g.Field(g.Root(0), 1); f != 9 || e != api.OK {
			t.Fatal("the root has changed")
		}
		collected += g.Counts().Minor
		// a second one, with another field
		l := order(v)
		if len(l) == 0 {
			continue
		}
		if c := l[r.Intn(len(l))]; len(c.fields) > 0 {
			k := newHeap(t, 100000, 1000)
			c.fields[r.Intn(len(c.fields))] = value{thing: l[r.Intn(len(l))]}
			want := bytes.Equal(summed(encoded(v)), b)
			if y := build(t, r, k, v); serial.Same(h, w, k, y) != want || serial.Same(k, y, g, x) != want {
				t.Fatal("Same is not as the bytes say")
			}
			if !want {
				different++
			}
		}
	}
	if collected < 2000 || different < 500 {
		t.Errorf("%d collections, %d others", collected, different)
	}
}

// TestAnyBytes: bytes that are turned, with a sum that is theirs, are taken just if they are those of a word.
func TestAnyBytes(t *testing.T) {
	r := rand.New(rand.NewSource(3))
	taken, refused := 0, 0
	for range 60000 {
		b := encoded(random(r, r.Intn(1+r.Intn(8))))
		for range 1 + r.Intn(3) {
			if len(b) == 0 {
				break
			}
			i := r.Intn(len(b))
			switch r.Intn(6) {
			case 0:
				b = append(b[:i], b[i+1:]...)
			case 1:
				b = slices.Insert(b, i, byte(r.Intn(6)))
			case 2:
				b[i] = byte(r.Intn(256))
			case 3:
				b = b[:i]
			case 4:
				b[i]++
			default:
				b[i] = byte(r.Intn(10))
			}
		}
		v, is := parsed(b)
		is = is && bytes.Equal(encoded(v), b)
		h := newHeap(t, 5000, 5000)
		if !is {
			wantRefused(t, "turned", h, summed(b), api.ErrForm)
			refused++
			continue
		}
		w, e := serial.Decode(h, summed(b))
		if e != api.OK || !bytes.Equal(encode(t, h, w), summed(b)) {
			t.Fatalf("%x: %v", b, e)
		}
		wantValue(t, "turned", h, w, v)
		taken++
	}
	if taken < 3000 || refused < 3000 {
		t.Errorf("%d taken, %d refused", taken, refused)
	}
}

// TestSerialBehindCollections: the bytes do not hang on where objects are.
func TestSerialBehindCollections(t *testing.T) {
	r := rand.New(rand.NewSource(5))
	for range 300 {
		v := random(r, 30)
		h := newHeap(t, 10000, 10000)
		ok(t, h.Push(build(t, r, h, v)))
		b := encode(t, h, h.Root(0))
		for range 5 {
			ok(t, h.Collect(r.Intn(2) == 0))
			if !bytes.Equal(encode(t, h, h.Root(0)), b) {
				t.Fatal("other bytes")
			}
		}
	}
}
