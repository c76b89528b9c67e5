package pool_test

import (
	"bytes"
	"cmp"
	"math/rand"
	"reflect"
	"slices"
	"testing"

	"rostrum/api"
	"rostrum/disk"
	"rostrum/log"
	"rostrum/page"
)

// P5.7

// sane fails, if a page's sector has a record that is not in the log as the disk has it.
func sane(t *testing.T, d *disk.Disk, pages int) {
	t.Helper()
	l, _, e := log.Open(d, 0, from)
	if e != api.OK {
		t.Fatal(e)
	}
	for n := range pages {
		b, _ := d.Read(from + n)
		if lsn, _, e := page.Decode(b); e == api.OK && lsn > l.Last() {
			t.Fatalf("page %d has record %d, the log %d", n, lsn, l.Last())
		}
	}
}

// crashes calls a function with copies of a disk that crashed, with each choice of the pending writes, or some if they are many.
func crashes(t *testing.T, random *rand.Rand, d *disk.Disk, then func(d *disk.Disk)) {
	t.Helper()
	count := len(d.Pending())
	for try := range min(1<<min(count, 10), 16) {
		mask := uint64(try)
		if count > 4 {
			mask = random.Uint64()
		}
		var keep []int
		for place := range count {
			if mask>>(place%64)&1 == 1 {
				keep = append(keep, place)
			}
		}
		crashed := d.Copy()
		if e := crashed.Crash(keep); e != api.OK {
			t.Fatal(e)
		}
		then(crashed)
	}
}

// caught does a call, and calls a function with disks on which a crash caught it: while the log is forced, then while pages are written.
func caught(t *testing.T, random *rand.Rand, d *disk.Disk, call func(), then func(d *disk.Disk)) {
	t.Helper()
	during := d.Copy()
	call()
	forced := false
	for i := range from {
		old, _ := during.Read(i)
		if b, _ := d.Read(i); !bytes.Equal(b, old) {
			during.Write(i, b)
			forced = true
		}
	}
	crashes(t, random, during, then)
	if forced {
		during.Flush()
	}
	for i := from; i < d.Sectors(); i++ {
		old, _ := during.Read(i)
		if b, _ := d.Read(i); !bytes.Equal(b, old) {
			during.Write(i, b)
		}
	}
	crashes(t, random, during, then)
	crashes(t, random, d, then)
}

func TestTheLogIsAheadBehindAnyCrash(t *testing.T) {
	const pages = 6
	for seed := range int64(40) {
		random := rand.New(rand.NewSource(seed))
		x := newSet(t, pages, 1+random.Intn(4))
		for range 60 {
			if x.l.Room() < 10 {
				break
			}
			caught(t, random, x.d, func() {
				switch n := random.Intn(pages); random.Intn(8) {
				case 0:
					x.p.Flush(n)
				case 1:
					x.p.All()
				case 2, 3:
					x.get(t, n)
				default:
					x.records(t, 1)
					x.put(t, n, x.l.Last())
				}
			}, func(d *disk.Disk) { sane(t, d, pages) })
			for _, w := range x.d.Pending() {
				if lsn, _, e := page.Decode(w.Bytes); e != api.OK || lsn > x.l.Forced() {
					t.Fatalf("a write of sector %d has record %d (%v), forced are %d", w.Sector, lsn, e, x.l.Forced())
				}
			}
		}
	}
}

// P5.8

// slot is a page that the model holds.
type slot struct {
	page, lsn, first, pins int
	load                   []byte
}

// model is what the chapter says, over a disk and a log of its own.
type model struct {
	d              *disk.Disk
	l              *log.Log
	pages, buffers int
	slots          []*slot
}

func (m *model) at(n int) int {
	return slices.IndexFunc(m.slots, func(s *slot) bool { return s.page == n })
}

func (m *model) flush(s *slot) {
	if s.first == 0 {
		return
	}
	if s.lsn > m.l.Forced() {
		m.l.Force()
	}
	m.d.Write(from+s.page, sectorOf(s.lsn, s.load))
	s.first = 0
}

func (m *model) bring(n int) (*slot, api.Errno) {
	if i := m.at(n); i >= 0 {
		s := m.slots[i]
		m.slots = append(slices.Delete(m.slots, i, i+1), s)
		return s, api.OK
	}
	full := len(m.slots) >= m.buffers
	goes := slices.IndexFunc(m.slots, func(s *slot) bool { return s.pins == 0 })
	if full && goes < 0 {
		return nil, api.ErrPinned
	}
	b, _ := m.d.Read(from + n)
	lsn, load, e := page.Decode(b)
	if e != api.OK {
		return nil, e
	}
	if full {
		m.flush(m.slots[goes])
		m.slots = slices.Delete(m.slots, goes, goes+1)
	}
	s := &slot{page: n, lsn: lsn, load: load}
	m.slots = append(m.slots, s)
	return s, api.OK
}

func (m *model) put(n, lsn int, load []byte) api.Errno {
	s, e := m.bring(n)
	if e != api.OK {
		return e
	}
	if s.first == 0 {
		s.first = lsn
	}
	s.lsn, s.load = lsn, load
	return api.OK
}

func (m *model) pin(n int) api.Errno {
	s, e := m.bring(n)
	if e == api.OK {
		s.pins++
	}
	return e
}

func (m *model) unpin(n int) api.Errno {
	i := m.at(n)
	if i < 0 || m.slots[i].pins == 0 {
		return api.ErrState
	}
	m.slots[i].pins--
	return api.OK
}

func (m *model) dirty() []*slot {
	l := slices.DeleteFunc(slices.Clone(m.slots), func(s *slot) bool { return s.first == 0 })
	slices.SortFunc(l, func(a, b *slot) int { return cmp.Compare(a.page, b.page) })
	return l
}

func (m *model) all() {
	for _, s := range m.dirty() {
		m.flush(s)
	}
	m.d.Flush()
}

func (m *model) view() view {
	var held []int
	for _, s := range m.slots {
		held = append(held, s.page)
	}
	var table []api.Dirty
	for _, s := range m.dirty() {
		table = append(table, api.Dirty{Page: s.page, First: s.first})
	}
	return view{held, table, m.d.Image(), m.d.Pending(), m.l.First(), m.l.Last(), m.l.Forced()}
}

// life is a pool and its model, to which the same happens.
type life struct {
	*set
	m *model
}

func (x *life) reopenBoth(t *testing.T) {
	t.Helper()
	x.reopen(t, x.m.pages, x.m.buffers)
	x.m.slots = nil
	var e api.Errno
	if x.m.l, _, e = log.Open(x.m.d, 0, from); e != api.OK {
		t.Fatal(e)
	}
}

func (x *life) get(t *testing.T, n int) {
	t.Helper()
	b, lsn, e := x.p.Get(n)
	s, want := x.m.bring(n)
	if e != want {
		t.Fatalf("Get(%d): %v, want %v", n, e, want)
	}
	if e == api.OK && (lsn != s.lsn || !bytes.Equal(b, s.load)) || e != api.OK && (len(b) > 0 || lsn != 0) {
		t.Fatalf("Get(%d): %x, %d, %v", n, b, lsn, e)
	}
}

// outside has something happen to the disk or the log that the pool stands on.
func (x *life) outside(t *testing.T, random *rand.Rand, n int) {
	t.Helper()
	switch random.Intn(6) {
	case 0:
		x.d.Flush()
		x.m.d.Flush()
	case 1:
		x.force(t)
		x.m.l.Force()
	case 2:
		sector := noise(random.Int63(), api.Size)
		if random.Intn(2) == 0 {
			sector = sectorOf(random.Intn(x.l.Forced()+1), noise(random.Int63(), api.Load))
		}
		x.d.Write(from+n, sector)
		x.m.d.Write(from+n, sector)
	case 3:
		var keep []int
		for place := range x.d.Pending() {
			if random.Intn(2) == 0 {
				keep = append(keep, place)
			}
		}
		x.d.Crash(keep)
		x.m.d.Crash(keep)
		x.reopenBoth(t)
	default:
		if rec := noise(random.Int63(), 1+random.Intn(20)); x.l.Room() > 30 {
			x.l.Append(rec)
			x.m.l.Append(rec)
			return
		}
		x.p.All()
		x.m.all()
		x.l.Reset()
		x.m.l.Reset()
	}
}

func (x *life) step(t *testing.T, random *rand.Rand) {
	t.Helper()
	n := random.Intn(x.m.pages)
	var got, want api.Errno
	switch random.Intn(14) {
	case 0, 1, 2:
		x.get(t, n)
	case 3, 4, 5, 6:
		if x.l.Last() > 0 {
			lsn, load := 1+random.Intn(x.l.Last()), noise(random.Int63(), api.Load)
			got, want = x.p.Put(n, lsn, load), x.m.put(n, lsn, load)
		}
	case 7:
		got, want = x.p.Pin(n), x.m.pin(n)
	case 8, 9:
		got, want = x.p.Unpin(n), x.m.unpin(n)
	case 10:
		got = x.p.Flush(n)
		if i := x.m.at(n); i >= 0 {
			x.m.flush(x.m.slots[i])
		}
	case 11:
		if random.Intn(4) == 0 {
			got = x.p.All()
			x.m.all()
		}
	default:
		x.outside(t, random, n)
	}
	if got != want {
		t.Fatalf("page %d: %v, want %v", n, got, want)
	}
}

// TestAnyLife holds a pool against the model, call by call.
func TestAnyLife(t *testing.T) {
	for seed := range int64(60) {
		random := rand.New(rand.NewSource(seed))
		pages, buffers := 3+random.Intn(8), 1+random.Intn(6)
		x := &life{newSet(t, pages, buffers), &model{pages: pages, buffers: buffers}}
		x.m.d = x.d.Copy()
		x.reopenBoth(t)
		for range 300 {
			x.step(t, random)
			if got, want := x.view(), x.m.view(); !reflect.DeepEqual(got, want) {
				t.Fatalf("seed %d: held %v, table %v, %d of %d forced, %d pending; want %v, %v, %d of %d, %d", seed,
					got.Held, got.Table, got.Forced, got.Last, len(got.Pending), want.Held, want.Table, want.Forced, want.Last, len(want.Pending))
			}
		}
	}
}
