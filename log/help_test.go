package log_test

import (
	"bytes"
	"encoding/binary"
	"hash/crc32"
	"math/rand"
	"slices"
	"testing"

	"rostrum/api"
	"rostrum/disk"
	"rostrum/log"
)

const greatest = 1 << 62

func noise(seed int64, n int) []byte {
	b := make([]byte, n)
	rand.New(rand.NewSource(seed)).Read(b)
	return b
}

func text(rec []byte) []byte { return append(binary.AppendUvarint(nil, uint64(len(rec))), rec...) }

func texts(recs ...[]byte) []byte {
	var b []byte
	for _, rec := range recs {
		b = append(b, text(rec)...)
	}
	return b
}

// sealed is a sector of any kind, put together by other means than the program's.
func sealed(mark, used byte, place uint16, first uint64, load []byte) []byte {
	b := binary.LittleEndian.AppendUint16([]byte{mark, used}, place)
	b = binary.LittleEndian.AppendUint64(b, first)
	b = append(b, load...)
	b = append(b, make([]byte, 124-len(b))...)
	return binary.LittleEndian.AppendUint32(b, crc32.ChecksumIEEE(b))
}

func sectorOf(place, first int, load []byte) []byte {
	return sealed(0x4c, byte(len(load)), uint16(place), uint64(first), load)
}

// blank is so many sectors of noughts.
func blank(n int) [][]byte {
	image := make([][]byte, n)
	for i := range image {
		image[i] = make([]byte, api.Size)
	}
	return image
}

// imageOf is so many sectors that have bytes as a log, as few of them as it takes, but the one at place 0 in any case.
func imageOf(n, first int, b []byte) [][]byte {
	image := blank(n)
	for place := 0; place == 0 || len(b) > 0; place++ {
		load := b[:min(len(b), api.Load)]
		image[place] = sectorOf(place, first, load)
		b = b[len(load):]
	}
	return image
}

func diskOf(t *testing.T, image [][]byte) *disk.Disk {
	t.Helper()
	d, e := disk.Of(image)
	if e != api.OK {
		t.Fatal(e)
	}
	return d
}

func open(t *testing.T, d *disk.Disk, from, sectors int) (*log.Log, [][]byte) {
	t.Helper()
	l, recs, e := log.Open(d, from, sectors)
	if l == nil || e != api.OK {
		t.Fatalf("Open(%d, %d): %v", from, sectors, e)
	}
	return l, recs
}

func add(t *testing.T, l *log.Log, recs ...[]byte) {
	t.Helper()
	for _, rec := range recs {
		last := l.Last()
		if n, e := l.Append(rec); n != last+1 || l.Last() != n || e != api.OK {
			t.Fatalf("Append of %d bytes behind %d: %d, %v, Last %d", len(rec), last, n, e, l.Last())
		}
	}
}

func force(t *testing.T, l *log.Log) {
	t.Helper()
	if e := l.Force(); e != api.OK || l.Forced() != l.Last() {
		t.Fatalf("Force: %v, %d of %d", e, l.Forced(), l.Last())
	}
}

func reset(t *testing.T, l *log.Log) {
	t.Helper()
	if e := l.Reset(); e != api.OK {
		t.Fatalf("Reset: %v", e)
	}
}

func wantNumbers(t *testing.T, l *log.Log, first, last, forced, room int) {
	t.Helper()
	if l.First() != first || l.Last() != last || l.Forced() != forced || l.Room() != room {
		t.Fatalf("First %d, Last %d, Forced %d, Room %d; want %d, %d, %d, %d", l.First(), l.Last(), l.Forced(), l.Room(), first, last, forced, room)
	}
}

func sameLists(a, b [][]byte) bool { return slices.EqualFunc(a, b, bytes.Equal) }

func wantRecords(t *testing.T, got [][]byte, want ...[]byte) {
	t.Helper()
	if !sameLists(got, want) {
		t.Fatalf("%d records %x, want %d %x", len(got), got, len(want), want)
	}
}

func wantImage(t *testing.T, d *disk.Disk, want [][]byte) {
	t.Helper()
	for i, b := range d.Image() {
		if !bytes.Equal(b, want[i]) {
			t.Fatalf("sector %d is %x, want %x", i, b, want[i])
		}
	}
}

// written is the sectors that two images have otherwise.
func written(a, b [][]byte) []int {
	var l []int
	for i := range a {
		if !bytes.Equal(a[i], b[i]) {
			l = append(l, i)
		}
	}
	return l
}

// caught is a disk on which a call was caught by a crash: of the writes that it did from an image to another, those of the mask's bits stay.
func caught(t *testing.T, before, after [][]byte, mask uint64) *disk.Disk {
	t.Helper()
	d := diskOf(t, before)
	var keep []int
	for place, i := range written(before, after) {
		if e := d.Write(i, after[i]); e != api.OK {
			t.Fatal(e)
		}
		if mask>>place&1 == 1 {
			keep = append(keep, place)
		}
	}
	if e := d.Crash(keep); e != api.OK {
		t.Fatal(e)
	}
	return d
}
