package pool

import (
	"bytes"
	"cmp"
	"slices"
)

// buffer is a page that is held.
type buffer struct {
	page, lsn int
	load      []byte
	first     int // the record that made it dirty; 0, if it is not
	pins      int
}

func (b *buffer) dirty() bool { return b.first > 0 }

func (b *buffer) change(lsn int, load []byte) {
	if !b.dirty() {
		b.first = lsn
	}
	b.lsn, b.load = lsn, bytes.Clone(load)
}

// table is the pages that are held, the one that was used longest ago first.
type table struct{ held []*buffer }

// find is the buffer of a page, or nil.
func (t *table) find(page int) *buffer {
	for _, b := range t.held {
		if b.page == page {
			return b
		}
	}
	return nil
}

// idle is the buffer of those that are not pinned that was used longest ago, or nil.
func (t *table) idle() *buffer {
	for _, b := range t.held {
		if b.pins == 0 {
			return b
		}
	}
	return nil
}

func (t *table) drop(b *buffer) {
	t.held = slices.DeleteFunc(t.held, func(x *buffer) bool { return x == b })
}

// use has a buffer be the one that was used last, new or not.
func (t *table) use(b *buffer) {
	t.drop(b)
	t.held = append(t.held, b)
}

// changed is the buffers that are dirty, by their pages.
func (t *table) changed() []*buffer {
	var l []*buffer
	for _, b := range t.held {
		if b.dirty() {
			l = append(l, b)
		}
	}
	slices.SortFunc(l, func(a, b *buffer) int { return cmp.Compare(a.page, b.page) })
	return l
}
