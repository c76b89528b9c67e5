package aries_test

import (
	"maps"
	"slices"

	"rostrum/api"
)

// entry is a record as the model has it.
type entry struct {
	bytes     []byte
	kind, tx  int
	page, off int
	ahead     string
	behind    string
	names     int
}

// mark is the pages as they are committed when the log has so many records.
type mark struct {
	count int
	pages [][]byte
}

// world is what the chapter says of transactions over pages, as a model: it knows all records, but not which of them are durable.
type world struct {
	layout
	first int // the number of the log's first record
	recs  []entry
	now   [][]byte
	txs   map[int][]int // the updates that are not taken back, of each open transaction
	owner map[int]int   // of a page that an open one changed
	marks []mark
}

func newWorld(y layout) *world {
	now := make([][]byte, y.pages)
	for n := range now {
		now[n] = make([]byte, api.Load)
	}
	return &world{layout: y, first: 1, now: now, txs: map[int][]int{}, owner: map[int]int{}, marks: []mark{{0, copied(now)}}}
}

func copied(pages [][]byte) [][]byte {
	l := make([][]byte, len(pages))
	for n := range l {
		l[n] = slices.Clone(pages[n])
	}
	return l
}

func (w *world) room() int { return w.logs*api.Load - size(w.bytes()...) }

func (w *world) bytes() [][]byte { return bytesOf(w.recs) }

func bytesOf(recs []entry) [][]byte {
	var l [][]byte
	for _, r := range recs {
		l = append(l, r.bytes)
	}
	return l
}

func (w *world) last() mark { return w.marks[len(w.marks)-1] }

func (w *world) active() []int { return slices.Sorted(maps.Keys(w.txs)) }

func (w *world) wrote(tx int) bool { return slices.Contains(slices.Collect(maps.Values(w.owner)), tx) }

func (w *world) begin() (int, api.Errno) {
	if len(w.txs) == api.MaxTx {
		return 0, api.ErrFull
	}
	n := 0
	for tx := range w.txs {
		n = max(n, tx)
	}
	for _, r := range w.recs {
		n = max(n, r.tx)
	}
	w.txs[n+1] = nil
	return n + 1, api.OK
}

// may is the error that keeps a transaction from a page.
func (w *world) may(tx, page int) api.Errno {
	if _, ok := w.txs[tx]; !ok {
		return api.ErrTx
	}
	if page < 0 || page >= w.pages {
		return api.ErrPage
	}
	if o := w.owner[page]; o != 0 && o != tx {
		return api.ErrLocked
	}
	return api.OK
}

func (w *world) append(r entry) {
	switch r.kind {
	case 1:
		r.bytes = update(r.tx, r.page, r.off, r.ahead, r.behind)
	case 2:
		r.bytes = compensation(r.tx, r.page, r.off, r.behind, r.names)
	case 3:
		r.bytes = commit(r.tx)
	case 4:
		r.bytes = end(r.tx)
	}
	w.recs = append(w.recs, r)
	if r.kind < 3 {
		copy(w.now[r.page][r.off:], r.behind)
	}
}

// write tells the error; and whether the room is such that it hangs on how idle transactions are reckoned: then the update is not appended yet.
func (w *world) write(tx, page, off int, b string) (api.Errno, bool) {
	if e := w.may(tx, page); e != api.OK {
		return e, false
	}
	if b == "" || off < 0 || off > api.Load-len(b) {
		return api.ErrArg, false
	}
	ahead := string(w.now[page][off : off+len(b)])
	if ahead == b {
		return api.OK, false
	}
	updates, busy := 1, 1
	for other, l := range w.txs {
		updates += len(l)
		if other != tx && w.wrote(other) {
			busy++
		}
	}
	room := w.room() - size(update(tx, page, off, ahead, b)) - 160*updates
	if room < 16*busy {
		return api.ErrFull, false
	}
	if room < 16*len(w.txs) {
		return api.OK, true
	}
	w.update(tx, page, off, b)
	return api.OK, false
}

func (w *world) update(tx, page, off int, b string) {
	w.txs[tx] = append(w.txs[tx], w.first+len(w.recs))
	w.owner[page] = tx
	w.append(entry{kind: 1, tx: tx, page: page, off: off, ahead: string(w.now[page][off : off+len(b)]), behind: b})
}

func (w *world) leave(tx int) {
	delete(w.txs, tx)
	maps.DeleteFunc(w.owner, func(page, o int) bool { return o == tx })
}

func (w *world) commit(tx int) api.Errno {
	if _, ok := w.txs[tx]; !ok {
		return api.ErrTx
	}
	if w.wrote(tx) {
		w.append(entry{kind: 3, tx: tx})
		pages := copied(w.last().pages)
		for page, o := range w.owner {
			if o == tx {
				pages[page] = slices.Clone(w.now[page])
			}
		}
		w.marks = append(w.marks, mark{len(w.recs), pages})
	}
	w.leave(tx)
	return api.OK
}

// takeBack appends what taking a transaction's updates back does.
func (w *world) takeBack(tx int, updates []int) {
	for _, n := range slices.Backward(updates) {
		u := w.recs[n-w.first]
		w.append(entry{kind: 2, tx: tx, page: u.page, off: u.off, behind: u.ahead, names: n})
	}
	w.append(entry{kind: 4, tx: tx})
}

func (w *world) abort(tx int) api.Errno {
	if _, ok := w.txs[tx]; !ok {
		return api.ErrTx
	}
	if w.wrote(tx) {
		w.takeBack(tx, w.txs[tx])
	}
	w.leave(tx)
	return api.OK
}

func (w *world) checkpoint() api.Errno {
	if len(w.txs) > 0 {
		return api.ErrState
	}
	w.first += len(w.recs)
	w.recs = nil
	w.marks = []mark{{0, w.last().pages}}
	return api.OK
}

// losers is the updates that are not taken back, of each transaction of records that is not over.
func losers(first int, recs []entry) map[int][]int {
	l := map[int][]int{}
	for i, r := range recs {
		switch r.kind {
		case 1:
			l[r.tx] = append(l[r.tx], first+i)
		case 2:
			l[r.tx] = slices.DeleteFunc(l[r.tx], func(n int) bool { return n == r.names })
		default:
			delete(l, r.tx)
		}
	}
	return l
}

// behind is the world behind a crash that left a beginning of the records, and recovery.
func (w *world) behind(count int) *world {
	x := newWorld(w.layout)
	x.first = w.first
	x.recs = slices.Clone(w.recs[:count])
	for _, m := range w.marks {
		if m.count <= count {
			x.marks = []mark{m}
		}
	}
	lost := losers(x.first, x.recs)
	for _, tx := range slices.Backward(slices.Sorted(maps.Keys(lost))) {
		x.takeBack(tx, lost[tx])
	}
	x.now = copied(x.last().pages)
	x.marks[0].count = len(x.recs)
	return x
}
