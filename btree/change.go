package btree

import (
	"rostrum/api"
)

// step is a node on the way down to a key.
type step struct {
	page int
	node
	at    int  // of an inner one: behind how many entries the way goes on; of a leaf: the place of the key
	found bool // of a leaf: it has the key
}

// way is the nodes down to a leaf, the root first.
type way []*step

func (w way) last() *step { return w[len(w)-1] }

// set has a leaf have the key at its place, with a value.
func (s *step) set(key, value string) {
	e := entry{key: key, value: value}
	if s.found {
		s.entries[s.at] = e
	} else {
		s.insert(s.at, e)
	}
}

// descend is the way down to where a key stands, or would stand.
func (t *tree) descend(key string) (way, api.Errno) {
	var w way
	page := t.root
	for range t.levels {
		n, e := t.read(page)
		if e != api.OK {
			return nil, e
		}
		s := &step{page: page, node: n}
		w = append(w, s)
		if n.leaf {
			s.at, s.found = n.search(key)
			return w, api.OK
		}
		s.at = n.below(key)
		page = n.child(s.at)
	}
	return nil, api.ErrNode
}

// grow writes the last node of a way, which has changed, and those above it that must change with it.
func (t *tree) grow(w way) api.Errno {
	for {
		s := w.last()
		if len(s.encode()) <= api.Load {
			return t.write(s.page, s.node)
		}
		up, e := t.part(s)
		if e != api.OK {
			return e
		}
		if len(w) == 1 {
			return t.raise(up)
		}
		w = w[:len(w)-1]
		w.last().insert(w.last().at, up)
	}
}

// part has a node that does not fit any more be two: the entry that leads to the new one.
func (t *tree) part(s *step) (entry, api.Errno) {
	stay, rest, key := s.node.part()
	page, e := t.take()
	if e != api.OK {
		return entry{}, e
	}
	if e := t.write(s.page, stay); e != api.OK {
		return entry{}, e
	}
	return entry{key: key, child: page}, t.write(page, rest)
}

// raise has the tree have a new root above the old one, with an entry for its other half.
func (t *tree) raise(up entry) api.Errno {
	if t.levels == maxLevels { // a page 0 of more can't be
		return api.ErrFull
	}
	page, e := t.take()
	if e != api.OK {
		return e
	}
	if e := t.write(page, node{first: t.root, entries: []entry{up}}); e != api.OK {
		return e
	}
	h := t.head
	h.root, h.levels = page, h.levels+1
	return t.save(h)
}

// shrink writes the leaf at the end of a way, from which a key has gone, and takes out what has become empty by that.
func (t *tree) shrink(w way) api.Errno {
	leaf := w.last()
	if e := t.write(leaf.page, leaf.node); e != api.OK || len(w) == 1 {
		return e
	}
	if len(leaf.entries) == 0 {
		if e := t.takeOut(w); e != api.OK {
			return e
		}
	}
	return t.lower()
}

// takeOut takes the last node of a way out of the one above it; that one too, if it had no other child; and so on.
func (t *tree) takeOut(w way) api.Errno {
	for last := len(w) - 1; ; last-- {
		above := w[last-1]
		alone := len(above.entries) == 0
		if alone && last == 1 { // a root without a child can't be
			return api.ErrNode
		}
		if !alone {
			above.without(above.at)
			if e := t.write(above.page, above.node); e != api.OK {
				return e
			}
		}
		if e := t.give(w[last].page); e != api.OK || !alone {
			return e
		}
	}
}

// lower has the root's child be the root, as long as the root has no other one. Each root is looked at, the last one too: no way down need have led to it.
func (t *tree) lower() api.Errno {
	for {
		n, e := t.read(t.root)
		if e != api.OK || n.leaf {
			return e
		}
		if t.levels == 1 { // there are more than page 0 says
			return api.ErrNode
		}
		if len(n.entries) > 0 {
			return api.OK
		}
		if !t.has(n.first) {
			return api.ErrNode
		}
		if e := t.replace(n.first); e != api.OK {
			return e
		}
	}
}

// replace has another page be the root, one level lower, and gives the old one away.
func (t *tree) replace(root int) api.Errno {
	old, h := t.root, t.head
	h.root, h.levels = root, h.levels-1
	if e := t.save(h); e != api.OK {
		return e
	}
	return t.give(old)
}
