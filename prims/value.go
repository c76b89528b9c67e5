package prims

import (
	"rostrum/api"
	"rostrum/heap"
	"rostrum/hold"
	"rostrum/number"
)

const (
	mostSmall = 1 << 40
	mostPairs = 10000 // of a list
)

func small(n int) api.Word { return api.Word(2*n + 1) }

func truth(b bool) api.Word {
	if b {
		return api.True
	}
	return api.False
}

// Number is a number's word.
func Number(h *heap.Heap, s string) (api.Word, api.Errno) {
	if hold.Missing(h) {
		return 0, api.ErrNil
	}
	if !number.Can(s) {
		return 0, api.ErrNumber
	}
	if n, ok := number.Small(s); ok && n >= -mostSmall && n <= mostSmall {
		return small(n), api.OK
	}
	return h.Text(api.KBig, s)
}

// Digits is a word's number. (Each odd word is one, also those that Number does not tell; a KBig whose text is no number, which only a hand can make, is none.)
func Digits(h *heap.Heap, w api.Word) (string, bool) {
	switch {
	case hold.Missing(h):
		return "", false
	case w&1 == 1:
		return number.Of(int(w) >> 1), true
	case h.Kind(w) == api.KBig && number.Can(h.String(w)):
		return h.String(w), true
	}
	return "", false
}

// procedure tells whether a word is a closure's, a continuation's or a primitive.
func procedure(h *heap.Heap, w api.Word) bool {
	switch h.Kind(w) {
	case api.KClosure, api.KCont:
		return true
	}
	return w&1 == 0 && isPrimitive(int(api.Prim0-w)/2)
}

// part is a field of an object that has it.
func part(h *heap.Heap, w api.Word, i int) api.Word {
	v, _ := h.Field(w, i)
	return v
}

// pairs is how many pairs a list has, if it is one.
func pairs(h *heap.Heap, w api.Word) (int, bool) {
	for n := range mostPairs + 1 {
		if w == api.Nil {
			return n, true
		}
		if h.Kind(w) != api.KPair {
			return 0, false
		}
		w = part(h, w, 1)
	}
	return 0, false
}
