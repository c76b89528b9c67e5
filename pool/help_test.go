package pool_test

import (
	"bytes"
	"encoding/binary"
	"hash/crc32"
	"math/rand"
	"reflect"
	"slices"
	"testing"

	"rostrum/api"
	"rostrum/disk"
	"rostrum/log"
	"rostrum/pool"
)

const (
	greatest = 1 << 62
	from     = 6 // the log stands in the sectors ahead of the pages
)

func noise(seed int64, n int) []byte {
	b := make([]byte, n)
	rand.New(rand.NewSource(seed)).Read(b)
	return b
}

func load(seed int) []byte { return noise(int64(seed), api.Load) }

// sectorOf is a page's sector, put together by other means than the program's.
func sectorOf(lsn int, load []byte) []byte {
	b := binary.LittleEndian.AppendUint64([]byte{0x50, 0, 0, 0}, uint64(lsn))
	b = append(b, load...)
	return binary.LittleEndian.AppendUint32(b, crc32.ChecksumIEEE(b))
}

// set is a pool with what it stands on.
type set struct {
	d *disk.Disk
	l *log.Log
	p *pool.Pool
}

// newSet is one of a new disk, with a log in the sectors ahead of the pages, and one sector behind these.
func newSet(t *testing.T, pages, buffers int) *set {
	t.Helper()
	d, e := disk.New(from + pages + 1)
	if e != api.OK {
		t.Fatal(e)
	}
	x := &set{d: d}
	x.reopen(t, pages, buffers)
	return x
}

// reopen has the log and the pool be those of the disk as it is.
func (x *set) reopen(t *testing.T, pages, buffers int) {
	t.Helper()
	l, _, e := log.Open(x.d, 0, from)
	if e != api.OK {
		t.Fatal(e)
	}
	p, e := pool.New(x.d, l, from, pages, buffers)
	if p == nil || e != api.OK {
		t.Fatalf("New: %v, %v", p, e)
	}
	x.l, x.p = l, p
}

// records appends so many records, which are not forced.
func (x *set) records(t *testing.T, n int) {
	t.Helper()
	for range n {
		if _, e := x.l.Append([]byte("r")); e != api.OK {
			t.Fatal(e)
		}
	}
}

func (x *set) force(t *testing.T) {
	t.Helper()
	if e := x.l.Force(); e != api.OK {
		t.Fatal(e)
	}
}

// get brings pages in.
func (x *set) get(t *testing.T, pages ...int) {
	t.Helper()
	for _, n := range pages {
		if _, _, e := x.p.Get(n); e != api.OK {
			t.Fatalf("Get(%d): %v", n, e)
		}
	}
}

// put has a page have noise, of the lsn's seed.
func (x *set) put(t *testing.T, n, lsn int) {
	t.Helper()
	if e := x.p.Put(n, lsn, load(lsn)); e != api.OK {
		t.Fatalf("Put(%d, %d): %v", n, lsn, e)
	}
}

func (x *set) pin(t *testing.T, pages ...int) {
	t.Helper()
	for _, n := range pages {
		if e := x.p.Pin(n); e != api.OK {
			t.Fatalf("Pin(%d): %v", n, e)
		}
	}
}

func (x *set) unpin(t *testing.T, pages ...int) {
	t.Helper()
	for _, n := range pages {
		if e := x.p.Unpin(n); e != api.OK {
			t.Fatalf("Unpin(%d): %v", n, e)
		}
	}
}

func (x *set) wantPage(t *testing.T, n, lsn int, want []byte) {
	t.Helper()
	if b, got, e := x.p.Get(n); got != lsn || !bytes.Equal(b, want) || e != api.OK {
		t.Fatalf("Get(%d): lsn %d, %v, %x; want %d, %x", n, got, e, b, lsn, want)
	}
}

func (x *set) wantHeld(t *testing.T, want ...int) {
	t.Helper()
	if got := x.p.Held(); !slices.Equal(got, want) {
		t.Fatalf("held are %v, want %v", got, want)
	}
}

// wantTable: pages and first records in turn.
func (x *set) wantTable(t *testing.T, want ...int) {
	t.Helper()
	var got []int
	for _, d := range x.p.Table() {
		got = append(got, d.Page, d.First)
	}
	if !slices.Equal(got, want) {
		t.Fatalf("the table is %v, want %v", got, want)
	}
}

// wantPending: pages and their lsns in turn, of writes of the pages' noise.
func (x *set) wantPending(t *testing.T, want ...int) {
	t.Helper()
	var sent []api.Sent
	for i := 0; i < len(want); i += 2 {
		sent = append(sent, api.Sent{Sector: from + want[i], Bytes: sectorOf(want[i+1], load(want[i+1]))})
	}
	if got := x.d.Pending(); !sameSent(got, sent) {
		t.Fatalf("pending are %v, want %v", got, sent)
	}
}

func sameSent(a, b []api.Sent) bool {
	return slices.EqualFunc(a, b, func(x, y api.Sent) bool { return x.Sector == y.Sector && bytes.Equal(x.Bytes, y.Bytes) })
}

func (x *set) wantForced(t *testing.T, want int) {
	t.Helper()
	if got := x.l.Forced(); got != want {
		t.Fatalf("%d records are forced, want %d", got, want)
	}
}

// view is all that can be seen of a set without changing it.
type view struct {
	Held                []int
	Table               []api.Dirty
	Image               [][]byte
	Pending             []api.Sent
	First, Last, Forced int
}

func (x *set) view() view {
	return view{x.p.Held(), x.p.Table(), x.d.Image(), x.d.Pending(), x.l.First(), x.l.Last(), x.l.Forced()}
}

// unchanged does a call, and fails if anything can be seen of it.
func (x *set) unchanged(t *testing.T, call func()) {
	t.Helper()
	before := x.view()
	call()
	if after := x.view(); !reflect.DeepEqual(before, after) {
		t.Fatalf("something has changed: %v, %v; it was %v, %v", after.Held, after.Table, before.Held, before.Table)
	}
}

// write has the disk have a sector of a page, durably, without the pool.
func (x *set) write(t *testing.T, n int, sector []byte) {
	t.Helper()
	if x.d.Write(from+n, sector) != api.OK || x.d.Flush() != api.OK {
		t.Fatalf("the sector of page %d can't be written", n)
	}
}
