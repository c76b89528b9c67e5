package btree_test

import (
	"bytes"
	"encoding/binary"
	"slices"
	"testing"

	"rostrum/api"
)

// model is what the chapter says of the pages: each call is done on them as they are, by going down and coming back up.
type model struct {
	raw    [][]byte
	writes int // how many updates the log must have
	met    map[string]int
}

// cell is a key with a value or a child.
type cell struct {
	key, value string
	child      int
}

// shape is a node's.
type shape struct {
	kind  byte
	first int
	cells []cell
}

func newModel(pages int) *model {
	x := &model{met: map[string]int{}}
	for range pages {
		x.raw = append(x.raw, make([]byte, api.Load))
	}
	x.write(0, full(head(1, 2, 0, 1)))
	x.write(1, full(leaf()))
	return x
}

func (x *model) write(page int, b []byte) {
	if !bytes.Equal(x.raw[page][:len(b)], b) {
		x.writes++
		copy(x.raw[page], b)
	}
}

func two(b []byte) int { return int(binary.LittleEndian.Uint16(b)) }

func (x *model) root() int   { return two(x.raw[0]) }
func (x *model) unused() int { return two(x.raw[0][2:]) }
func (x *model) free() int   { return two(x.raw[0][4:]) }
func (x *model) levels() int { return int(x.raw[0][6]) }

func (x *model) shape(page int) shape {
	b := x.raw[page]
	s := shape{kind: b[0]}
	count := int(b[1])
	b = b[2:]
	if s.kind == 2 {
		s.first = two(b)
		b = b[2:]
	}
	for range count {
		var c cell
		c.key, b = string(b[1:1+b[0]]), b[1+b[0]:]
		if s.kind == 2 {
			c.child, b = two(b), b[2:]
		} else {
			c.value, b = string(b[1:1+b[0]]), b[1+b[0]:]
		}
		s.cells = append(s.cells, c)
	}
	return s
}

func (s shape) bytes() []byte {
	if s.kind == 1 {
		var l []string
		for _, c := range s.cells {
			l = append(l, c.key, c.value)
		}
		return leaf(l...)
	}
	var l []any
	for _, c := range s.cells {
		l = append(l, c.key, c.child)
	}
	return inner(s.first, l...)
}

func (x *model) save(page int, s shape) { x.write(page, full(s.bytes())) }

func (x *model) take() int {
	if n := x.free(); n > 0 {
		x.met["a free page is taken"]++
		x.write(0, full(head(x.root(), x.unused(), two(x.raw[n]), x.levels())))
		return n
	}
	n := x.unused()
	x.write(0, full(head(x.root(), n+1, 0, x.levels())))
	return n
}

func (x *model) give(page int) {
	x.write(page, free(x.free()))
	x.write(0, full(head(x.root(), x.unused(), page, x.levels())))
}

// below is the place of the child that has a key: -1 is the first one.
func (s shape) below(key string) int {
	at := -1
	for i, c := range s.cells {
		if c.key <= key {
			at = i
		}
	}
	return at
}

func (s shape) child(at int) int {
	if at < 0 {
		return s.first
	}
	return s.cells[at].child
}

func (x *model) put(key, value string) {
	up, parted := x.putBelow(x.root(), key, value)
	if !parted {
		return
	}
	x.met["the root is parted"]++
	page := x.take()
	x.save(page, shape{kind: 2, first: x.root(), cells: []cell{up}})
	x.write(0, full(head(page, x.unused(), x.free(), x.levels()+1)))
}

func (x *model) putBelow(page int, key, value string) (cell, bool) {
	s := x.shape(page)
	at := s.below(key)
	if s.kind == 2 {
		up, parted := x.putBelow(s.child(at), key, value)
		if !parted {
			return cell{}, false
		}
		s.cells = slices.Insert(s.cells, at+1, up)
	} else if at >= 0 && s.cells[at].key == key {
		s.cells[at].value = value
	} else {
		s.cells = slices.Insert(s.cells, at+1, cell{key: key, value: value})
	}
	if len(s.bytes()) <= api.Load {
		x.save(page, s)
		return cell{}, false
	}
	stay, rest := s, s
	bare := len(shape{kind: s.kind}.bytes())
	for n := range s.cells {
		stay.cells, rest.cells = s.cells[:n], s.cells[n:]
		if len(stay.bytes())-bare >= 60 {
			break
		}
	}
	up := rest.cells[0]
	if s.kind == 2 {
		x.met["an inner node is parted"]++
		rest.first, rest.cells = up.child, rest.cells[1:]
	}
	page2 := x.take()
	x.save(page, stay)
	x.save(page2, rest)
	return cell{key: up.key, child: page2}, true
}

func (x *model) delete(key string) {
	x.deleteBelow(x.root(), key)
	for again := false; ; again = true {
		s, old := x.shape(x.root()), x.root()
		if s.kind == 1 || len(s.cells) > 0 {
			return
		}
		x.met["the root goes"]++
		if again {
			x.met["the root goes again"]++
		}
		x.write(0, full(head(s.first, x.unused(), x.free(), x.levels()-1)))
		x.give(old)
	}
}

// deleteBelow tells whether the node is to be taken out of the one above it.
func (x *model) deleteBelow(page int, key string) bool {
	s := x.shape(page)
	at := s.below(key)
	if s.kind == 1 {
		s.cells = slices.Delete(s.cells, at, at+1)
		x.save(page, s)
		return len(s.cells) == 0 && page != x.root()
	}
	child := s.child(at)
	if !x.deleteBelow(child, key) {
		return false
	}
	if len(s.cells) == 0 {
		x.met["an inner node loses its only child"]++
		x.give(child)
		return true
	}
	if at < 0 {
		x.met["a first child goes"]++
		s.first = s.cells[0].child
		at = 0
	}
	s.cells = slices.Delete(s.cells, at, at+1)
	x.save(page, s)
	x.give(child)
	return false
}

// nodes is the pages of the tree.
func (x *model) nodes() []int {
	var l []int
	var walk func(page int)
	walk = func(page int) {
		l = append(l, page)
		if s := x.shape(page); s.kind == 2 {
			for at := -1; at < len(s.cells); at++ {
				walk(s.child(at))
			}
		}
	}
	walk(x.root())
	return l
}

// idle is the pages that are free, or were never used.
func (x *model) idle() []int {
	var l []int
	for n := x.free(); n > 0; n = two(x.raw[n]) {
		l = append(l, n)
	}
	for n := x.unused(); n < len(x.raw); n++ {
		l = append(l, n)
	}
	return l
}

// same: all pages of a set are those of the model.
func (x *model) same(t *testing.T, s *set) {
	t.Helper()
	for n, want := range x.raw {
		if b := s.page(t, n); !bytes.Equal(b, want) {
			t.Fatalf("page %d is\n%x, want\n%x", n, b, want)
		}
	}
}
