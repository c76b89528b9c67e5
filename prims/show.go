package prims

import (
	"strings"

	"rostrum/api"
	"rostrum/datum"
	"rostrum/heap"
	"rostrum/hold"
)

const (
	left  = "..." // for what is left out
	other = "#!other"
)

// Show is a word as a text.
func Show(h *heap.Heap, w api.Word) string {
	if hold.Missing(h) {
		return ""
	}
	s := &shower{h: h}
	s.word(w)
	return s.text.String()
}

// shower writes words down, of which it begins no more than api.MaxShow: what leads to itself ends, too.
type shower struct {
	h     *heap.Heap
	text  strings.Builder
	begun int
}

// begin tells whether one more word may be begun.
func (s *shower) begin() bool {
	if s.begun == api.MaxShow {
		return false
	}
	s.begun++
	return true
}

func (s *shower) word(w api.Word) {
	if !s.begin() {
		s.text.WriteString(left)
		return
	}
	switch s.h.Kind(w) {
	case api.KVector:
		s.text.WriteByte('#')
		fallthrough
	case api.KPair:
		s.text.WriteByte('(')
		s.parts(w)
		s.text.WriteByte(')')
	default:
		s.text.WriteString(plain(s.h, w))
	}
}

func (s *shower) parts(w api.Word) {
	if s.h.Kind(w) == api.KPair {
		s.chain(w)
		return
	}
	for i := range s.h.Len(w) {
		if i > 0 {
			s.text.WriteByte(' ')
		}
		s.word(part(s.h, w, i))
	}
}

// chain writes down what the pairs of a list have, the first of which was begun.
func (s *shower) chain(w api.Word) {
	s.word(part(s.h, w, 0))
	rest := part(s.h, w, 1)
	for ; s.h.Kind(rest) == api.KPair; rest = part(s.h, rest, 1) {
		s.text.WriteByte(' ')
		if !s.begin() {
			s.text.WriteString(left)
			return
		}
		s.word(part(s.h, rest, 0))
	}
	if rest != api.Nil {
		s.text.WriteString(" . ")
		s.word(rest)
	}
}

// plain is the text of a word that leads to no others that are shown.
func plain(h *heap.Heap, w api.Word) string {
	if digits, ok := Digits(h, w); ok {
		return digits
	}
	if procedure(h, w) {
		return "#!procedure"
	}
	switch h.Kind(w) {
	case api.KString:
		return datum.Print(api.Datum{Kind: api.DString, Text: h.String(w)})
	case api.KSymbol:
		return h.String(w)
	}
	return constant(w)
}

func constant(w api.Word) string {
	switch w {
	case api.Nil:
		return "()"
	case api.False:
		return "#f"
	case api.True:
		return "#t"
	case api.Void:
		return "#!void"
	case api.Unbound:
		return "#!unbound"
	}
	return other
}
