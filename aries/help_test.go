package aries_test

import (
	"bytes"
	"encoding/binary"
	"hash/crc32"
	"math/rand"
	"slices"
	"testing"

	"rostrum/api"
	"rostrum/aries"
	"rostrum/disk"
	"rostrum/log"
	"rostrum/page"
)

const greatest = 1 << 62 // number of a record

func noise(seed int64, n int) []byte {
	b := make([]byte, n)
	rand.New(rand.NewSource(seed)).Read(b)
	return b
}

// Records, put together by other means than the program's.

func numbers(l ...int) []byte {
	var b []byte
	for _, n := range l {
		b = binary.AppendUvarint(b, uint64(n))
	}
	return b
}

func text(s string) []byte { return append(numbers(len(s)), s...) }

func update(tx, page, off int, ahead, behind string) []byte {
	return slices.Concat(numbers(1, tx, page, off), text(ahead), text(behind))
}

func compensation(tx, page, off int, bytes string, names int) []byte {
	return slices.Concat(numbers(2, tx, page, off), text(bytes), numbers(names))
}

func commit(tx int) []byte { return numbers(3, tx) }

func end(tx int) []byte { return numbers(4, tx) }

// size is how many bytes of a log records take.
func size(recs ...[]byte) int {
	n := 0
	for _, r := range recs {
		n += len(text(string(r)))
	}
	return n
}

// seal puts a sum behind a sector.
func seal(b []byte) []byte {
	b = append(b, make([]byte, 124-len(b))...)
	return binary.LittleEndian.AppendUint32(b, crc32.ChecksumIEEE(b))
}

func pageSector(lsn int, load []byte) []byte {
	return seal(append(binary.LittleEndian.AppendUint64([]byte{0x50, 0, 0, 0}, uint64(lsn)), load...))
}

// layout is the sizes of what a manager is opened with.
type layout struct{ logs, pages, buffers int }

// image is a disk's sectors, with one more behind the pages: a log of records, and pages of noughts.
func (y layout) image(first int, recs ...[]byte) [][]byte {
	l := make([][]byte, y.logs+y.pages+1)
	for i := range l {
		l[i] = make([]byte, api.Size)
	}
	var all []byte
	for _, r := range recs {
		all = append(all, text(string(r))...)
	}
	for place := 0; place == 0 || len(all) > 0; place++ {
		load := all[:min(len(all), api.Load)]
		b := binary.LittleEndian.AppendUint16([]byte{0x4c, byte(len(load))}, uint16(place))
		b = binary.LittleEndian.AppendUint64(b, uint64(first))
		l[place] = seal(append(b, load...))
		all = all[len(load):]
	}
	return l
}

// disk is that of an image, with pages that differ from noughts.
func (y layout) disk(t *testing.T, image [][]byte, pages map[int][]byte) *disk.Disk {
	t.Helper()
	for n, b := range pages {
		image[y.logs+n] = b
	}
	d, e := disk.Of(image)
	if e != api.OK {
		t.Fatal(e)
	}
	return d
}

func (y layout) fresh(t *testing.T) *disk.Disk {
	t.Helper()
	d, e := disk.New(y.logs + y.pages + 1)
	if e != api.OK {
		t.Fatal(e)
	}
	return d
}

func (y layout) open(t *testing.T, d *disk.Disk) *aries.Manager {
	t.Helper()
	m, e := aries.Open(d, y.logs, y.pages, y.buffers)
	if m == nil || e != api.OK {
		t.Fatalf("Open: %v, %v", m, e)
	}
	return m
}

// durable is the records that a disk's log has without what is pending.
func (y layout) durable(t *testing.T, d *disk.Disk) [][]byte {
	t.Helper()
	c, e := disk.Of(d.Image())
	if e != api.OK {
		t.Fatal(e)
	}
	_, recs, e := log.Open(c, 0, y.logs)
	if e != api.OK {
		t.Fatal(e)
	}
	return recs
}

func begin(t *testing.T, m *aries.Manager, want int) int {
	t.Helper()
	tx, e := m.Begin()
	if tx != want || e != api.OK {
		t.Fatalf("Begin: %d, %v, want %d", tx, e, want)
	}
	return tx
}

func write(t *testing.T, m *aries.Manager, tx, page, off int, s string) {
	t.Helper()
	if e := m.Write(tx, page, off, []byte(s)); e != api.OK {
		t.Fatalf("Write(%d, %d, %d, %q): %v", tx, page, off, s, e)
	}
}

func done(t *testing.T, name string, e api.Errno) {
	t.Helper()
	if e != api.OK {
		t.Fatalf("%s: %v", name, e)
	}
}

func wantRecords(t *testing.T, got [][]byte, want ...[]byte) {
	t.Helper()
	if !slices.EqualFunc(got, want, bytes.Equal) {
		t.Fatalf("%d records:\n%x\nwant %d:\n%x", len(got), got, len(want), want)
	}
}

func wantActive(t *testing.T, m *aries.Manager, want ...int) {
	t.Helper()
	if got := m.Active(); !slices.Equal(got, want) {
		t.Fatalf("open are %v, want %v", got, want)
	}
}

// loads is all pages as a new transaction reads them; none of them may be changed by an open one.
func loads(t *testing.T, m *aries.Manager) [][]byte {
	t.Helper()
	tx, e := m.Begin()
	if e != api.OK {
		t.Fatal(e)
	}
	l := make([][]byte, m.Pages())
	for n := range l {
		if l[n], e = m.Read(tx, n); e != api.OK {
			t.Fatalf("page %d: %v", n, e)
		}
	}
	done(t, "Abort", m.Abort(tx))
	return l
}

func wantLoads(t *testing.T, got, want [][]byte) {
	t.Helper()
	for n := range want {
		if !bytes.Equal(got[n], want[n]) {
			t.Fatalf("page %d is\n%q, want\n%q", n, got[n], want[n])
		}
	}
}

// wantBytes: a page as a transaction reads it begins with a text.
func wantBytes(t *testing.T, m *aries.Manager, tx, page int, want string) {
	t.Helper()
	b, e := m.Read(tx, page)
	if e != api.OK || len(b) != api.Load || string(b[:len(want)]) != want {
		t.Fatalf("page %d as %d reads it: %q, %v, want %q", page, tx, b, e, want)
	}
}

// begins is a load that begins with a text.
func begins(s string) []byte { return append([]byte(s), make([]byte, api.Load-len(s))...) }

// wantOnDisk: a page's sector, as it is durable, has a lsn, and a load that begins with a text.
func (y layout) wantOnDisk(t *testing.T, d *disk.Disk, n, lsn int, want string) {
	t.Helper()
	got, b, e := page.Decode(d.Image()[y.logs+n])
	if e != api.OK || got != lsn || !bytes.Equal(b, begins(want)) {
		t.Fatalf("page %d on the disk: lsn %d, %q, %v, want %d, %q", n, got, b, e, lsn, want)
	}
}

func sameDisk(a, b *disk.Disk) bool {
	same := func(x, y api.Sent) bool { return x.Sector == y.Sector && bytes.Equal(x.Bytes, y.Bytes) }
	return slices.EqualFunc(a.Image(), b.Image(), bytes.Equal) && slices.EqualFunc(a.Pending(), b.Pending(), same)
}

// unchanged does a call that answers an error, and fails if it can be told.
func unchanged(t *testing.T, m *aries.Manager, d *disk.Disk, call func()) {
	t.Helper()
	active, records, before := m.Active(), m.Records(), d.Copy()
	call()
	wantActive(t, m, active...)
	if m.Records() != records {
		t.Fatalf("%d records, they were %d", m.Records(), records)
	}
	if !sameDisk(before, d) {
		t.Fatal("the disk has changed")
	}
}

// crashes calls a function with copies of a disk that crashed: with each choice of the pending writes, or some if they are many.
func crashes(t *testing.T, random *rand.Rand, d *disk.Disk, most int, then func(d *disk.Disk)) {
	t.Helper()
	count := len(d.Pending())
	choices := 1 << min(count, 20)
	for try := range min(choices, most) {
		mask := uint64(try)
		if choices > most {
			mask = random.Uint64()
		}
		var keep []int
		for place := range count {
			if mask>>(place%64)&1 == 1 {
				keep = append(keep, place)
			}
		}
		crashed := d.Copy()
		done(t, "Crash", crashed.Crash(keep))
		then(crashed)
	}
}
