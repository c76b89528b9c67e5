package btree

import (
	"iter"

	"rostrum/api"
	"rostrum/aries"
	"rostrum/little"
	"rostrum/patch"
)

const maxLevels = 20

// tree is the pages as a transaction sees them, and page 0 as it stands.
type tree struct {
	m  *aries.Manager
	tx int
	head
}

// head is what page 0 says.
type head struct {
	root   int
	unused int // the first page that was never used
	free   int // the first free one, or 0
	levels int
}

func (h head) encode() []byte {
	b := make([]byte, api.Load)
	little.Put(b[0:2], h.root)
	little.Put(b[2:4], h.unused)
	little.Put(b[4:6], h.free)
	little.Put(b[6:7], h.levels)
	return b
}

func decodeHead(b []byte) head {
	return head{root: little.Get(b[0:2]), unused: little.Get(b[2:4]), free: little.Get(b[4:6]), levels: little.Get(b[6:7])}
}

func (h head) canBe(pages int) bool {
	return h.root >= 1 && h.root < pages &&
		h.unused >= 1 && h.unused <= pages &&
		h.leads(h.free) &&
		h.levels >= 1 && h.levels <= maxLevels
}

// leads tells whether the list of free pages may go on with a page, or end by 0.
func (h head) leads(page int) bool { return page == 0 || page < h.unused }

// missing tells whether no call made a manager: one that a call made has pages.
func missing(m *aries.Manager) bool { return m.Pages() == 0 }

// open is the tree as a transaction sees it.
func open(m *aries.Manager, tx int) (*tree, api.Errno) {
	if missing(m) {
		return nil, api.ErrNil
	}
	b, e := m.Read(tx, 0)
	if e != api.OK {
		return nil, e
	}
	h := decodeHead(b)
	if !h.canBe(m.Pages()) {
		return nil, api.ErrNode
	}
	return &tree{m: m, tx: tx, head: h}, api.OK
}

// save has page 0 say something else.
func (t *tree) save(h head) api.Errno {
	if e := patch.Write(t.m, t.tx, 0, h.encode()); e != api.OK {
		return e
	}
	t.head = h
	return api.OK
}

// has tells whether a page may be a node's.
func (t *tree) has(page int) bool { return page >= 1 && page < t.m.Pages() }

// read is the node of a page.
func (t *tree) read(page int) (node, api.Errno) {
	if !t.has(page) {
		return node{}, api.ErrNode
	}
	b, e := t.m.Read(t.tx, page)
	if e != api.OK {
		return node{}, e
	}
	n, ok := decode(b)
	if !ok {
		return node{}, api.ErrNode
	}
	return n, api.OK
}

func (t *tree) write(page int, n node) api.Errno {
	b := make([]byte, api.Load)
	copy(b, n.encode())
	return patch.Write(t.m, t.tx, page, b)
}

// take is a page that nobody had.
func (t *tree) take() (int, api.Errno) {
	h := t.head
	page := h.free
	if page > 0 {
		next, e := t.next(page)
		if e != api.OK {
			return 0, e
		}
		h.free = next
	} else {
		page = h.unused
		if page >= t.m.Pages() {
			return 0, api.ErrFull
		}
		h.unused++
	}
	if e := t.save(h); e != api.OK {
		return 0, e
	}
	return page, api.OK
}

// next is the free page behind a free one, or 0.
func (t *tree) next(page int) (int, api.Errno) {
	b, e := t.m.Read(t.tx, page)
	if e != api.OK {
		return 0, e
	}
	next := little.Get(b[:2])
	if !t.leads(next) {
		return 0, api.ErrNode
	}
	return next, api.OK
}

// give has a page be free.
func (t *tree) give(page int) api.Errno {
	if page < 1 || page >= t.unused || page == t.root {
		return api.ErrArg
	}
	if e := patch.Write(t.m, t.tx, page, appendPage(nil, t.free)); e != api.OK {
		return e
	}
	h := t.head
	h.free = page
	return t.save(h)
}

// idle is how many pages are free, or were never used.
func (t *tree) idle() (int, api.Errno) {
	count := t.m.Pages() - t.unused
	for page := t.free; page > 0; count++ {
		if count == t.m.Pages() { // a list that comes back to a page has no end
			return 0, api.ErrNode
		}
		next, e := t.next(page)
		if e != api.OK {
			return 0, e
		}
		page = next
	}
	return count, api.OK
}

// walk is a way through all nodes that may have keys from one on.
type walk struct {
	*tree
	from string
	left int // so many nodes it may still read: where pages lead to the same one again and again there is no other end in sight
}

// pairs walks the keys from one on, rising, with their values, up to an error.
func (t *tree) pairs(from string) iter.Seq2[api.Pair, api.Errno] {
	w := &walk{tree: t, from: from, left: t.m.Pages()}
	return w.through(t.root, t.levels)
}

// through walks those of a page's node and below it, so many levels in all.
func (w *walk) through(page, levels int) iter.Seq2[api.Pair, api.Errno] {
	return func(yield func(api.Pair, api.Errno) bool) {
		n, e := w.visit(page, levels)
		if e != api.OK {
			yield(api.Pair{}, e)
			return
		}
		if n.leaf {
			for p := range n.pairs(w.from) {
				if !yield(p, api.OK) {
					return
				}
			}
			return
		}
		for child := range n.children(w.from) {
			for p, e := range w.through(child, levels-1) {
				if !yield(p, e) || e != api.OK {
					return
				}
			}
		}
	}
}

func (w *walk) visit(page, levels int) (node, api.Errno) {
	if levels == 0 || w.left == 0 {
		return node{}, api.ErrNode
	}
	w.left--
	return w.read(page)
}
