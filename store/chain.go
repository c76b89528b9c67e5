package store

import (
	"slices"

	"rostrum/api"
	"rostrum/btree"
	"rostrum/little"
	"rostrum/patch"
	"rostrum/sector"
)

const (
	nextSize  = 2                   // of a page's bytes those that name the next one
	pieceSize = api.Load - nextSize // so many bytes a page has at most
)

// chain is what a key has: bytes, and the pages in which they stand.
type chain struct {
	bytes []byte
	pages []int
}

// place is a key's value in the tree: the first page, or 0, and how many bytes there are.
type place struct{ page, size int }

func (p place) encode() string {
	var b [4]byte
	little.Put(b[:2], p.page)
	little.Put(b[2:], p.size)
	return string(b[:])
}

func decodePlace(value string) (place, bool) {
	b := []byte(value)
	if len(b) != 4 {
		return place{}, false
	}
	return place{page: little.Get(b[:2]), size: little.Get(b[2:])}, true
}

// find is what a key has.
func (s *Store) find(tx int, key string) (chain, api.Errno) {
	value, e := btree.Get(s.manager, tx, key)
	if e != api.OK {
		return chain{}, e
	}
	p, ok := decodePlace(value)
	if !ok {
		return chain{}, api.ErrNode
	}
	return s.follow(tx, p)
}

// follow is what stands at a place.
func (s *Store) follow(tx int, p place) (chain, api.Errno) {
	var c chain
	page := p.page
	for len(c.bytes) < p.size {
		if page == 0 || page >= s.manager.Pages() {
			return chain{}, api.ErrNode
		}
		b, e := s.manager.Read(tx, page)
		if e != api.OK {
			return chain{}, e
		}
		end := nextSize + min(p.size-len(c.bytes), pieceSize)
		if !sector.Blank(b[end:]) {
			return chain{}, api.ErrNode
		}
		c.bytes = append(c.bytes, b[nextSize:end]...)
		c.pages = append(c.pages, page)
		page = little.Get(b[:nextSize])
	}
	if page != 0 {
		return chain{}, api.ErrNode
	}
	return c, api.OK
}

// give has the pages of a chain be free.
func (s *Store) give(tx int, c chain) api.Errno {
	for _, page := range c.pages {
		if e := btree.Give(s.manager, tx, page); e != api.OK {
			return e
		}
	}
	return api.OK
}

// keep has bytes stand in pages that nobody had: their place.
func (s *Store) keep(tx int, b []byte) (place, api.Errno) {
	pieces := slices.Collect(slices.Chunk(b, pieceSize))
	pages := make([]int, len(pieces)+1) // behind the last one stands 0
	for i := range pieces {
		page, e := btree.Take(s.manager, tx)
		if e != api.OK {
			return place{}, e
		}
		pages[i] = page
	}
	for i, piece := range pieces {
		load := make([]byte, api.Load)
		little.Put(load[:nextSize], pages[i+1])
		copy(load[nextSize:], piece)
		if e := patch.Write(s.manager, tx, pages[i], load); e != api.OK {
			return place{}, e
		}
	}
	return place{page: pages[0], size: len(b)}, api.OK
}
