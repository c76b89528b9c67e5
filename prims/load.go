package prims

import (
	"rostrum/api"
	"rostrum/datum"
	"rostrum/heap"
	"rostrum/hold"
)

// Load is a datum as a word. What the heap may refuse is found out ahead of all else, since half of the datum would be left in it else.
func Load(h *heap.Heap, d api.Datum) (api.Word, api.Errno) {
	if hold.Missing(h) {
		return 0, api.ErrNil
	}
	if !datum.Can(d) {
		return 0, api.ErrArg
	}
	s := survey{great: &d}
	s.see(&d, 0)
	if s.refused {
		return 0, api.ErrArg
	}
	l := loader{h: h}
	if s.great != &d && cells(s.great) > hold.Sure {
		l.great = s.great
		s.roots++
	}
	first, e := hold.Roots(h, s.roots)
	if e != api.OK {
		return 0, e
	}
	defer h.Pop(s.roots)
	return l.whole(&d, first)
}

// survey is what a datum asks of a heap.
type survey struct {
	refused bool       // a string or a vector that no heap has
	great   *api.Datum // which takes the most cells
	roots   int        // how many are needed
}

// see looks at a datum that stands within so many others.
func (s *survey) see(d *api.Datum, within int) {
	if d.Kind == api.DString && len(d.Text) > mostBytes || d.Kind == api.DVector && len(d.List) > mostFields {
		s.refused = true
	}
	if cells(d) > cells(s.great) {
		s.great = d
	}
	for _, l := range [2][]api.Datum{d.List, d.Tail} {
		for i := range l {
			s.roots = max(s.roots, within+1)
			s.see(&l[i], within+1)
		}
	}
}

// cells is how many cells a datum takes at most, without what is in it.
func cells(d *api.Datum) int {
	if d.Kind == api.DList {
		return 0 // its pairs go into each heap
	}
	return hold.Cells(len(d.List), len(d.Text))
}

// loader makes the objects of a datum. Those that are not done yet are roots, one for each list and vector that others stand in.
type loader struct {
	h     *heap.Heap
	great *api.Datum // what is made ahead of all else, and is at its place not yet; or none
	held  int        // its root
}

// whole is the word of all of a datum; from a place on there are as many roots as it takes.
func (l *loader) whole(d *api.Datum, root int) (api.Word, api.Errno) {
	if l.great == nil {
		return l.word(d, root)
	}
	w, e := l.made(l.great)
	if e != api.OK {
		return 0, e
	}
	l.held = root
	l.h.SetRoot(root, w)
	return l.word(d, root+1)
}

func (l *loader) word(d *api.Datum, root int) (api.Word, api.Errno) {
	switch {
	case len(d.List) == 0:
		return l.object(d)
	case d.Kind == api.DVector:
		return l.vector(d, root)
	}
	return l.list(d, root)
}

func (l *loader) list(d *api.Datum, root int) (api.Word, api.Errno) {
	rest := api.Nil
	for i := range d.Tail {
		w, e := l.word(&d.Tail[i], root+1)
		if e != api.OK {
			return 0, e
		}
		rest = w
	}
	l.h.SetRoot(root, rest)
	for i := len(d.List) - 1; i >= 0; i-- {
		w, e := l.word(&d.List[i], root+1)
		if e != api.OK {
			return 0, e
		}
		pair, e := l.h.Make(api.KPair, w, l.h.Root(root))
		if e != api.OK {
			return 0, e
		}
		l.h.SetRoot(root, pair)
	}
	return l.h.Root(root), api.OK
}

func (l *loader) vector(d *api.Datum, root int) (api.Word, api.Errno) {
	v, e := l.object(d)
	if e != api.OK {
		return 0, e
	}
	l.h.SetRoot(root, v)
	for i := range d.List {
		w, e := l.word(&d.List[i], root+1)
		if e != api.OK {
			return 0, e
		}
		l.h.Set(l.h.Root(root), i, w)
	}
	return l.h.Root(root), api.OK
}

// object is the word of what a datum is without its parts; the one that was made ahead is taken, once.
func (l *loader) object(d *api.Datum) (api.Word, api.Errno) {
	if d == l.great {
		l.great = nil
		return l.h.Root(l.held), api.OK
	}
	return l.made(d)
}

func (l *loader) made(d *api.Datum) (api.Word, api.Errno) {
	switch d.Kind {
	case api.DNumber:
		return Number(l.h, d.Text)
	case api.DBool:
		return truth(d.Text == "#t"), api.OK
	case api.DString:
		return l.h.Text(api.KString, d.Text)
	case api.DSymbol:
		return l.h.Text(api.KSymbol, d.Text)
	case api.DVector:
		return l.h.Make(api.KVector, make([]api.Word, len(d.List))...)
	}
	return api.Nil, api.OK
}
