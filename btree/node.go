package btree

import (
	"cmp"
	"iter"
	"slices"

	"rostrum/api"
	"rostrum/little"
	"rostrum/sector"
	"rostrum/wire"
)

// Kinds of nodes: a page's first byte.
const (
	leafKind  = 1
	innerKind = 2
)

const stays = 60 // so many bytes of entries, at least, stay in a node that is parted

// node is a page of the tree.
type node struct {
	leaf    bool
	first   int // an inner one's first child
	entries []entry
}

// entry is a key, with a value in a leaf, with the page of a child in an inner node.
type entry struct {
	key   string
	value string
	child int
}

// add is bytes with those of an entry of this kind of node behind them. (A text of wire of so few bytes has its length in one byte.)
func (n node) add(b []byte, e entry) []byte {
	b = wire.Text(b, e.key)
	if n.leaf {
		return wire.Text(b, e.value)
	}
	return appendPage(b, e.child)
}

func appendPage(b []byte, page int) []byte {
	var two [2]byte
	little.Put(two[:], page)
	return append(b, two[:]...)
}

// encode is a node's bytes without the noughts behind them: they may be more than a page has.
func (n node) encode() []byte {
	count := byte(len(n.entries))
	b := []byte{leafKind, count}
	if !n.leaf {
		b = appendPage([]byte{innerKind, count}, n.first)
	}
	for _, e := range n.entries {
		b = n.add(b, e)
	}
	return b
}

// reader reads a page's parts; it remembers that one of them was wrong, so that they can be read one behind the other.
type reader struct {
	*wire.Reader
	wrong bool
}

func (r *reader) byte() int {
	b, e := r.Byte()
	r.wrong = r.wrong || e != api.OK
	return int(b)
}

func (r *reader) page() int {
	low, high := r.byte(), r.byte()
	return low | high<<8
}

func (r *reader) text() string {
	s, e := r.Text(api.MaxKey)
	r.wrong = r.wrong || e != api.OK
	return s
}

// entries walks so many entries of a leaf or an inner node, up to one that is wrong.
func (r *reader) entries(leaf bool, count int) iter.Seq[entry] {
	return func(yield func(entry) bool) {
		for range count {
			e := entry{key: r.text()}
			if leaf {
				e.value = r.text()
			} else {
				e.child = r.page()
			}
			if r.wrong || !yield(e) {
				return
			}
		}
	}
}

// decode is the node of a page, if it can be.
func decode(load []byte) (node, bool) {
	r := &reader{Reader: wire.Over(load)}
	kind, count := r.byte(), r.byte()
	if kind != leafKind && kind != innerKind {
		return node{}, false
	}
	n := node{leaf: kind == leafKind}
	if !n.leaf {
		n.first = r.page()
	}
	last := "" // so the first key can't be empty, either
	for e := range r.entries(n.leaf, count) {
		if e.key <= last {
			return node{}, false
		}
		n.entries = append(n.entries, e)
		last = e.key
	}
	if r.wrong || !sector.Blank(load[len(load)-r.Left():]) {
		return node{}, false
	}
	return n, true
}

// search is the place of a key among the entries, or that at which it would stand, and whether it is there.
func (n node) search(key string) (int, bool) {
	return slices.BinarySearchFunc(n.entries, key, func(e entry, key string) int { return cmp.Compare(e.key, key) })
}

// child is an inner node's child behind so many entries.
func (n node) child(at int) int {
	if at == 0 {
		return n.first
	}
	return n.entries[at-1].child
}

// below is behind how many entries the child stands that has a key, if one has.
func (n node) below(key string) int {
	at, found := n.search(key)
	if found {
		return at + 1
	}
	return at
}

// children walks the children of an inner node that may have keys from one on.
func (n node) children(from string) iter.Seq[int] {
	return func(yield func(int) bool) {
		for at := n.below(from); at <= len(n.entries); at++ {
			if !yield(n.child(at)) {
				return
			}
		}
	}
}

// pairs walks a leaf's keys from one on, with their values.
func (n node) pairs(from string) iter.Seq[api.Pair] {
	return func(yield func(api.Pair) bool) {
		at, _ := n.search(from)
		for _, e := range n.entries[at:] {
			if !yield(api.Pair{Key: e.key, Value: e.value}) {
				return
			}
		}
	}
}

// sizes walks the entries: how many there are up to each of them, and how many bytes those have together.
func (n node) sizes() iter.Seq2[int, int] {
	return func(yield func(int, int) bool) {
		sum := 0
		for i, e := range n.entries {
			sum += len(n.add(nil, e))
			if !yield(i+1, sum) {
				return
			}
		}
	}
}

// kept is how many entries stay, if the node is parted.
func (n node) kept() int {
	count, sum := 0, 0
	for count, sum = range n.sizes() {
		if sum >= stays {
			break
		}
	}
	return count
}

// part is what stays of a node that does not fit any more, what goes to another one, and the least key that may stand there.
func (n node) part() (node, node, string) {
	at := n.kept()
	stay, rest := n, n
	stay.entries, rest.entries = n.entries[:at], n.entries[at:]
	up := rest.entries[0]
	if !n.leaf {
		rest.first, rest.entries = up.child, rest.entries[1:]
	}
	return stay, rest, up.key
}

// without takes a child out of an inner node that has another one.
func (n *node) without(at int) {
	if at == 0 {
		n.first = n.entries[0].child
		at = 1
	}
	n.remove(at - 1)
}

func (n *node) remove(at int) { n.entries = slices.Delete(n.entries, at, at+1) }

func (n *node) insert(at int, e entry) { n.entries = slices.Insert(n.entries, at, e) }
