package heap

import "rostrum/api"

// A word is kept as it is told, but for an object's: the object of number n is kept as 2n + 2, and told as the heap's shift more. So a collection that raises the shift gives all objects new addresses, also those that it does not touch. Old objects have the first numbers, young ones those behind.

const (
	leastConstant api.Word = -1 << 21
	mostAddress   api.Word = 1 << 40
	mostKept      api.Word = 2 * 2 * api.MaxHeap // of an object's words that are kept, since each has a cell of its own
)

func word(number int) api.Word { return api.Word(2*number + 2) }

func number(k api.Word) int { return int(k)/2 - 1 }

// leads tells whether a word that is kept is an object's.
func leads(k api.Word) bool { return k > 0 && k&1 == 0 }

// kept is the form in which a word that is there is kept.
func (h *Heap) kept(w api.Word) (api.Word, bool) {
	if w&1 == 1 || w <= 0 && w >= leastConstant {
		return w, true
	}
	if w <= h.shift || w-h.shift > word(h.count()-1) {
		return 0, false
	}
	return w - h.shift, true
}

func (h *Heap) told(k api.Word) api.Word {
	if leads(k) {
		return k + h.shift
	}
	return k
}

func (h *Heap) count() int { return len(h.old.objects) + len(h.young.objects) }

func (h *Heap) isOld(k api.Word) bool { return number(k) < len(h.old.objects) }

// find is the object whose word is told, or nil.
func (h *Heap) find(w api.Word) *object {
	if h.missing() {
		return nil
	}
	k, ok := h.kept(w)
	if !ok || !leads(k) {
		return nil
	}
	if h.isOld(k) {
		return &h.old.objects[number(k)]
	}
	return &h.young.objects[number(k)-len(h.old.objects)]
}

// holder is the object whose word is told, if it has a field i.
func (h *Heap) holder(w api.Word, i int) (*object, api.Errno) {
	if h.missing() {
		return nil, api.ErrNil
	}
	o := h.find(w)
	switch {
	case o == nil:
		return nil, api.ErrWord
	case i < 0 || i >= len(o.fields):
		return nil, api.ErrArg
	}
	return o, api.OK
}
