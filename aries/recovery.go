package aries

import (
	"maps"
	"slices"

	"rostrum/api"
)

// restore has the pages be as the log's records say, and takes back the transactions that are not over.
func (s *state) restore(recs [][]byte) api.Errno {
	all, ok := s.decode(recs)
	if !ok {
		return api.ErrLog
	}
	if e := s.redo(all); e != api.OK {
		return e
	}
	for _, t := range s.losers(all) {
		if e := s.takeBack(t); e != api.OK {
			return e
		}
	}
	return s.log.Force()
}

// decode is the records of the log, and false, if one of them can't be.
func (s *state) decode(recs [][]byte) ([]record, bool) {
	var all []record
	for _, b := range recs {
		r, ok := decode(b, s.pages)
		if !ok {
			return nil, false
		}
		s.latest = max(s.latest, r.tx)
		all = append(all, r)
	}
	return all, true
}

// redo does what the records say, where a page has not seen it yet.
func (s *state) redo(all []record) api.Errno {
	for i, r := range all {
		if !r.changes() {
			continue
		}
		load, lsn, e := s.Get(r.page)
		if e != api.OK {
			return e
		}
		number := s.log.First() + i
		if number <= lsn {
			continue
		}
		copy(load[r.off:], r.behind)
		if e := s.Put(r.page, number, load); e != api.OK {
			return e
		}
	}
	return api.OK
}

// takenBack tells of each record whether a compensation of its own transaction names it.
func (s *state) takenBack(all []record) []bool {
	taken := make([]bool, len(all))
	for _, r := range all {
		at := r.names - s.log.First()
		if r.kind == compensation && at >= 0 && at < len(all) && all[at].tx == r.tx {
			taken[at] = true
		}
	}
	return taken
}

// losers is the transactions without a commit or an end, the greatest number first.
func (s *state) losers(all []record) []*transaction {
	taken := s.takenBack(all)
	left := map[int]*transaction{}
	for i, r := range all {
		if left[r.tx] == nil {
			left[r.tx] = &transaction{number: r.tx}
		}
		if r.kind == update && !taken[i] {
			left[r.tx].add(s.log.First()+i, r)
		}
	}
	for _, r := range all {
		if !r.changes() {
			delete(left, r.tx)
		}
	}
	numbers := slices.Sorted(maps.Keys(left))
	var l []*transaction
	for _, n := range slices.Backward(numbers) {
		l = append(l, left[n])
	}
	return l
}
