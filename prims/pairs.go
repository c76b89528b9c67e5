package prims

import (
	"rostrum/api"
	"rostrum/heap"
	"rostrum/hold"
)

func (c call) cons() (api.Word, api.Errno) { return c.h.Make(api.KPair, c.arg(0), c.arg(1)) }

func (c call) car() (api.Word, api.Errno) { return c.h.Field(c.arg(0), 0) }
func (c call) cdr() (api.Word, api.Errno) { return c.h.Field(c.arg(0), 1) }

func (c call) setCar() (api.Word, api.Errno) { return api.Void, c.h.Set(c.arg(0), 0, c.arg(1)) }
func (c call) setCdr() (api.Word, api.Errno) { return api.Void, c.h.Set(c.arg(0), 1, c.arg(1)) }

func (c call) length() (api.Word, api.Errno) {
	n, _ := pairs(c.h, c.arg(0))
	return small(n), api.OK
}

// The lists below are made from their end on: what is made is a field of what is made next, so that it stays when the heap is collected, though it is no root.

func (c call) list() (api.Word, api.Errno) {
	made := api.Nil
	for i := c.count - 1; i >= 0; i-- {
		w, e := c.h.Make(api.KPair, c.arg(i), made)
		if e != api.OK {
			return 0, e
		}
		made = w
	}
	return made, api.OK
}

func (c call) reverse() (api.Word, api.Errno) {
	made := api.Nil
	l := c.itemsOf(0)
	for i := range l.count() {
		w, e := c.h.Make(api.KPair, l.item(i), made)
		if e != api.OK {
			return 0, e
		}
		made = w
	}
	return made, api.OK
}

func (c call) append() (api.Word, api.Errno) {
	made := api.Nil
	for n := c.count - 1; n >= 0; n-- {
		l := c.itemsOf(n)
		for i := l.count() - 1; i >= 0; i-- {
			w, e := c.h.Make(api.KPair, l.item(i), made)
			if e != api.OK {
				return 0, e
			}
			made = w
		}
	}
	return made, api.OK
}

// items is the words of a list's items, as long as they are not void.
type items struct {
	h     *heap.Heap
	root  int // the list
	words []api.Word
	times int // how often the heap was collected when the words were told
}

// itemsOf is the items of an argument that is a list.
func (c call) itemsOf(i int) *items {
	l := &items{h: c.h, root: c.first + i}
	l.tell()
	return l
}

func (l *items) count() int { return len(l.words) }

// tell goes through the list.
func (l *items) tell() {
	l.words, l.times = l.words[:0], hold.Times(l.h)
	for w := l.h.Root(l.root); w != api.Nil; w = part(l.h, w, 1) {
		l.words = append(l.words, part(l.h, w, 0))
	}
}

func (l *items) item(i int) api.Word {
	if l.times != hold.Times(l.h) {
		l.tell()
	}
	return l.words[i]
}
