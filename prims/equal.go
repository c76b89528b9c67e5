package prims

import (
	"rostrum/api"
	"rostrum/heap"
	"rostrum/hold"
)

// Equal tells whether two words are equal?.
func Equal(h *heap.Heap, a, b api.Word) bool {
	if hold.Missing(h) {
		return false
	}
	m := matcher{h: h, deep: true}
	return m.match(a, b)
}

func eq(h *heap.Heap, a, b api.Word) bool {
	m := matcher{h: h}
	return m.match(a, b)
}

// matcher holds words against each other: as equal? does, if it is deep, else as eq? does.
type matcher struct {
	h      *heap.Heap
	deep   bool
	looked int // at how many parts of pairs and vectors
}

func (m *matcher) match(a, b api.Word) bool {
	if a == b {
		return true
	}
	if digits, ok := Digits(m.h, a); ok {
		other, ok := Digits(m.h, b)
		return ok && digits == other
	}
	kind := m.h.Kind(a)
	if kind != m.h.Kind(b) {
		return false
	}
	switch kind {
	case api.KPair, api.KVector:
		return m.deep && m.parts(a, b)
	case api.KString:
		if !m.deep {
			return false
		}
		fallthrough
	case api.KSymbol:
		return m.h.String(a) == m.h.String(b)
	}
	return false
}

// parts holds the parts of two objects of one kind against each other.
func (m *matcher) parts(a, b api.Word) bool {
	if m.h.Len(a) != m.h.Len(b) {
		return false
	}
	for i := range m.h.Len(a) {
		if m.looked == api.MaxShow {
			return false
		}
		m.looked++
		if !m.match(part(m.h, a, i), part(m.h, b, i)) {
			return false
		}
	}
	return true
}
