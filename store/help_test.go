package store_test

import (
	"bytes"
	"encoding/binary"
	"hash/crc32"
	"maps"
	"math/rand"
	"slices"
	"testing"

	"rostrum/api"
	"rostrum/aries"
	"rostrum/btree"
	"rostrum/disk"
	"rostrum/log"
	"rostrum/store"
)

// layout is the sizes of what a store is opened with.
type layout struct{ logs, pages int }

// roomy is a layout in which the log is seldom full.
var roomy = layout{logs: 400, pages: 120}

func done(t *testing.T, name string, e api.Errno) {
	t.Helper()
	if e != api.OK {
		t.Fatalf("%s: %v", name, e)
	}
}

func (y layout) fresh(t *testing.T) *disk.Disk {
	t.Helper()
	d, e := disk.New(y.logs + y.pages)
	done(t, "disk.New", e)
	return d
}

func (y layout) open(t *testing.T, d *disk.Disk) *store.Store {
	t.Helper()
	s, e := store.Open(d, y.logs, y.pages)
	if s == nil || e != api.OK {
		t.Fatalf("Open: %v, %v", s, e)
	}
	return s
}

// within does something to the pages of a disk below the store, and has it be durable.
func (y layout) within(t *testing.T, d *disk.Disk, do func(m *aries.Manager, tx int)) {
	t.Helper()
	m, e := aries.Open(d, y.logs, y.pages, api.MaxBuffers)
	done(t, "aries.Open", e)
	tx, e := m.Begin()
	done(t, "Begin", e)
	do(m, tx)
	done(t, "Commit", m.Commit(tx))
}

// loads is the pages as they are on a disk, by a copy of it.
func (y layout) loads(t *testing.T, d *disk.Disk) [][]byte {
	t.Helper()
	l := make([][]byte, y.pages)
	y.within(t, d.Copy(), func(m *aries.Manager, tx int) {
		for n := range l {
			var e api.Errno
			l[n], e = m.Read(tx, n)
			done(t, "Read", e)
		}
	})
	return l
}

// records is the log's records that are durable.
func (y layout) records(t *testing.T, d *disk.Disk) [][]byte {
	t.Helper()
	c, e := disk.Of(d.Image())
	done(t, "disk.Of", e)
	_, recs, e := log.Open(c, 0, y.logs)
	done(t, "log.Open", e)
	return recs
}

func sameDisk(a, b *disk.Disk) bool {
	same := func(x, y api.Sent) bool { return x.Sector == y.Sector && bytes.Equal(x.Bytes, y.Bytes) }
	return slices.EqualFunc(a.Image(), b.Image(), bytes.Equal) && slices.EqualFunc(a.Pending(), b.Pending(), same)
}

func noise(seed int64, n int) []byte {
	b := make([]byte, n)
	rand.New(rand.NewSource(seed)).Read(b)
	return b
}

func two(b []byte) int { return int(binary.LittleEndian.Uint16(b)) }

// value is a key's in the tree.
func value(page, size int) string {
	b := binary.LittleEndian.AppendUint16(nil, uint16(page))
	return string(binary.LittleEndian.AppendUint16(b, uint16(size)))
}

// piece is a page of bytes.
func piece(next int, b []byte) []byte {
	p := append(binary.LittleEndian.AppendUint16(nil, uint16(next)), b...)
	return append(p, make([]byte, api.Load-len(p))...)
}

func put(key string, b []byte) api.Change { return api.Change{Key: key, Bytes: b} }

func gone(key string) api.Change { return api.Change{Key: key, Gone: true} }

func batch(t *testing.T, s *store.Store, l ...api.Change) {
	t.Helper()
	done(t, "Batch", s.Batch(l))
}

// contents is what a store must have.
type contents map[string]string

func (c contents) with(l []api.Change) contents {
	c = maps.Clone(c)
	for _, x := range l {
		if x.Gone {
			delete(c, x.Key)
		} else {
			c[x.Key] = string(x.Bytes)
		}
	}
	return c
}

// has is what a store tells that it has.
func has(t *testing.T, s *store.Store) contents {
	t.Helper()
	keys, e := s.Keys()
	done(t, "Keys", e)
	if !slices.IsSorted(keys) || len(slices.Compact(slices.Clone(keys))) != len(keys) {
		t.Fatalf("the keys are %q", keys)
	}
	c := contents{}
	for _, k := range keys {
		b, e := s.Get(k)
		done(t, "Get", e)
		c[k] = string(b)
	}
	return c
}

func (c contents) want(t *testing.T, s *store.Store) {
	t.Helper()
	if got := has(t, s); !maps.Equal(got, c) {
		t.Fatalf("the store has %d keys, not those %d, or other bytes: %q, want %q", len(got), len(c), slices.Sorted(maps.Keys(got)), slices.Sorted(maps.Keys(c)))
	}
}

func wantFree(t *testing.T, s *store.Store, want int) {
	t.Helper()
	if n, e := s.Free(); n != want || e != api.OK {
		t.Fatalf("Free: %d, %v, want %d", n, e, want)
	}
}

// whole: each page of a disk is page 0, a node, one of a key's bytes, or free: one of these, and just once.
func (y layout) whole(t *testing.T, d *disk.Disk, s *store.Store) {
	t.Helper()
	pages := y.loads(t, d)
	owners := make([]int, y.pages)
	owners[0]++
	root, unused := two(pages[0]), two(pages[0][2:])
	idle := 0
	for n := two(pages[0][4:]); n > 0; n = two(pages[n]) {
		owners[n]++
		idle++
	}
	for n := unused; n < y.pages; n++ {
		owners[n]++
		idle++
	}
	var walk func(n int)
	walk = func(n int) {
		owners[n]++
		b := pages[n]
		count, inner := int(b[1]), b[0] == 2
		b = b[2:]
		if inner {
			walk(two(b))
			b = b[2:]
		}
		for range count {
			b = b[1+b[0]:] // the key
			if inner {
				walk(two(b))
				b = b[2:]
				continue
			}
			for at, left := two(b[1:]), two(b[3:]); left > 0; left -= 110 {
				owners[at]++
				at = two(pages[at])
			}
			b = b[5:]
		}
	}
	walk(root)
	for n, count := range owners {
		if count != 1 {
			t.Fatalf("page %d has %d owners", n, count)
		}
	}
	wantFree(t, s, idle)
}

// crashes calls a function with copies of a disk that crashed: with each choice of the pending writes, or some if they are many.
func crashes(t *testing.T, random *rand.Rand, d *disk.Disk, most int, then func(d *disk.Disk)) {
	t.Helper()
	count := len(d.Pending())
	choices := 1 << min(count, 20)
	for try := range min(choices, most) {
		var keep []int
		for place := range count {
			stays := try>>(place%64)&1 == 1
			if choices > most { // none, all, all but one, or some of them
				switch try % 4 {
				case 0:
					stays = try > 0
				case 1:
					stays = place != try/4%count
				default:
					stays = random.Intn(1+try%5) == 0
				}
			}
			if stays {
				keep = append(keep, place)
			}
		}
		crashed := d.Copy()
		done(t, "Crash", crashed.Crash(keep))
		then(crashed)
	}
}

// rewritten has a disk have sectors as another one, by writes that are pending.
func rewritten(d, as *disk.Disk, from, to int) bool {
	wrote := false
	for i := from; i < to; i++ {
		old, _ := d.Read(i)
		if b, _ := as.Read(i); !bytes.Equal(b, old) {
			d.Write(i, b)
			wrote = true
		}
	}
	return wrote
}

// byHand does the changes of a batch below the store, one call after the other, and calls a function behind each of them; it leaves the transaction open.
func byHand(t *testing.T, m *aries.Manager, tx int, l []api.Change, then func()) api.Errno {
	t.Helper()
	for _, c := range l {
		if v, e := btree.Get(m, tx, c.Key); e == api.OK {
			b := []byte(v)
			for at, left := two(b), two(b[2:]); left > 0; left -= 110 {
				load, e := m.Read(tx, at)
				done(t, "Read", e)
				if e := btree.Give(m, tx, at); e != api.OK {
					return e
				}
				then()
				at = two(load)
			}
			if c.Gone {
				if e := btree.Delete(m, tx, c.Key); e != api.OK {
					return e
				}
				then()
			}
		}
		if c.Gone {
			continue
		}
		var pages []int
		for range (len(c.Bytes) + 109) / 110 {
			n, e := btree.Take(m, tx)
			if e != api.OK {
				return e
			}
			then()
			pages = append(pages, n)
		}
		pages = append(pages, 0)
		for i := range len(pages) - 1 {
			b := c.Bytes[110*i : min(110*i+110, len(c.Bytes))]
			if e := m.Write(tx, pages[i], 0, piece(pages[i+1], b)); e != api.OK {
				return e
			}
			then()
		}
		if e := btree.Put(m, tx, c.Key, value(pages[0], len(c.Bytes))); e != api.OK {
			return e
		}
		then()
	}
	return api.OK
}

// sealed is a sector with its sum.
func sealed(b []byte) []byte {
	return binary.LittleEndian.AppendUint32(slices.Clone(b[:124]), crc32.ChecksumIEEE(b[:124]))
}
