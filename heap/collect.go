package heap

import (
	"slices"

	"rostrum/api"
)

// add is the word of a new object; its fields are new ones, if it was collected for it.
func (h *Heap) add(o object) (api.Word, api.Errno) {
	cells := o.cells()
	if h.spent || cells > h.young.most {
		return 0, api.ErrMemory
	}
	if h.young.cells+cells > h.young.most {
		if e := h.collect(false, o.fields); e != api.OK {
			return 0, e
		}
	}
	h.young.add(o)
	return h.told(word(h.count() - 1)), api.OK
}

// touch remembers an old object that was set a young one's word: what the roots lead to among the young ones can be found without going through the old ones then.
func (h *Heap) touch(w api.Word, o *object, k api.Word) {
	if o.touched || !leads(k) || h.isOld(k) || !h.isOld(w-h.shift) {
		return
	}
	o.touched = true
	h.touched = append(h.touched, number(w-h.shift))
}

// collect collects young objects, or all, and fields count as roots.
func (h *Heap) collect(all bool, fields []api.Word) api.Errno {
	if !all {
		h.collectYoung(fields)
	}
	if all || h.old.cells > h.old.most {
		h.collectAll(fields)
	}
	h.spent = h.old.cells > h.old.most
	if h.spent {
		return api.ErrMemory
	}
	return api.OK
}

func (h *Heap) collectYoung(fields []api.Word) {
	h.minor++
	m := newMover(h.young.objects, h.old)
	for _, n := range h.touched {
		o := &m.to.objects[n]
		o.touched = false
		m.words(o.fields)
	}
	m.run(h.roots, fields)
	h.settle(m.to)
}

func (h *Heap) collectAll(fields []api.Word) {
	h.major++
	m := newMover(slices.Concat(h.old.objects, h.young.objects), part{most: h.old.most})
	for i := range m.from {
		m.from[i].touched = false
	}
	m.run(h.roots, fields)
	h.settle(m.to)
}

// settle has just the old objects be there, at new addresses.
func (h *Heap) settle(old part) {
	h.shift += 2 * api.Word(h.count())
	if h.shift > mostAddress-mostKept {
		h.shift = 0 // the addresses ahead of this are far above
	}
	h.old = old
	clear(h.young.objects)
	h.young.objects, h.young.cells = h.young.objects[:0], 0
	h.touched = nil
}

// mover moves objects behind others, which stay.
type mover struct {
	from  []object
	first int        // the number of from's first one
	moved []api.Word // the new words of from's; 0 of one that was not moved
	to    part
}

// newMover is one that moves objects, which have the numbers behind those of to.
func newMover(from []object, to part) *mover {
	return &mover{from: from, first: len(to.objects), moved: make([]api.Word, len(from)), to: to}
}

// run moves what roots lead to.
func (m *mover) run(roots ...[]api.Word) {
	for _, l := range roots {
		m.words(l)
	}
	for at := m.first; at < len(m.to.objects); at++ {
		m.words(m.to.objects[at].fields)
	}
}

// words moves what words lead to, and has them be the new ones.
func (m *mover) words(l []api.Word) {
	for i, k := range l {
		if leads(k) && number(k) >= m.first {
			l[i] = m.object(number(k) - m.first)
		}
	}
}

// object is the new word of an object, which is moved, if it was not.
func (m *mover) object(i int) api.Word {
	if m.moved[i] == 0 {
		m.to.add(m.from[i])
		m.moved[i] = word(len(m.to.objects) - 1)
	}
	return m.moved[i]
}
