package store

import (
	"maps"

	"rostrum/api"
	"rostrum/btree"
)

// batch is changes by their keys, and the keys in the order of the changes.
type batch struct {
	order   []string
	changes map[string]api.Change
}

// gather is the batch of changes, if all of them may be.
func gather(l []api.Change) (batch, bool) {
	b := batch{changes: map[string]api.Change{}}
	for _, c := range l {
		_, twice := b.changes[c.Key]
		if twice || !canBe(c.Key) || len(c.Bytes) > api.MaxBytes || c.Gone && len(c.Bytes) > 0 {
			return batch{}, false
		}
		b.order = append(b.order, c.Key)
		b.changes[c.Key] = c
	}
	return b, true
}

// Batch does all changes, or none.
func (s *Store) Batch(l []api.Change) api.Errno {
	if s.missing() {
		return api.ErrNil
	}
	b, ok := gather(l)
	if !ok {
		return api.ErrArg
	}
	all := func(tx int) api.Errno { return s.apply(tx, b) }
	e := s.change(all)
	if e != api.ErrFull {
		return e
	}
	if e := s.Checkpoint(); e != api.OK {
		return e
	}
	return s.change(all)
}

// apply makes a batch's changes, one behind the other. (The batch stays whole: it may have to be made again.)
func (s *Store) apply(tx int, b batch) api.Errno {
	left := maps.Clone(b.changes)
	for _, key := range b.order {
		if e := s.one(tx, left[key]); e != api.OK {
			return e
		}
		delete(left, key)
	}
	return api.OK
}

// one makes one change: what the key had is free first, so that its pages serve again.
func (s *Store) one(tx int, c api.Change) api.Errno {
	old, e := s.find(tx, c.Key)
	if e != api.OK && e != api.ErrGone {
		return e
	}
	there := e == api.OK
	if e := s.give(tx, old); e != api.OK {
		return e
	}
	if c.Gone {
		if !there {
			return api.OK
		}
		return btree.Delete(s.manager, tx, c.Key)
	}
	p, e := s.keep(tx, c.Bytes)
	if e != api.OK {
		return e
	}
	return btree.Put(s.manager, tx, c.Key, p.encode())
}
