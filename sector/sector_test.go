package sector_test

import (
	"bytes"
	"encoding/binary"
	"hash/crc32"
	"testing"

	"rostrum/api"
	"rostrum/sector"
)

func TestSeal(t *testing.T) {
	load := []byte("some bytes of a load")
	b := sector.Seal([4]byte{1, 2, 3, 4}, 0x0807060504030201, load)
	want := append([]byte{1, 2, 3, 4, 1, 2, 3, 4, 5, 6, 7, 8}, load...)
	want = append(want, make([]byte, api.Load-len(load))...)
	want = binary.LittleEndian.AppendUint32(want, crc32.ChecksumIEEE(want))
	if !bytes.Equal(b, want) {
		t.Fatalf("%x, want %x", b, want)
	}
	if !sector.Sealed(b) || sector.Number(b) != 0x0807060504030201 || !bytes.Equal(sector.Load(b), want[12:124]) {
		t.Error("it is not read as it was written")
	}
	sector.Load(b)[0]++
	if !sector.Sealed(b) {
		t.Error("the load is the sector's own memory")
	}
	for at := range b {
		b[at] ^= 0x10
		if sector.Sealed(b) {
			t.Errorf("byte %d turned is not seen", at)
		}
		b[at] ^= 0x10
	}
}

func TestBlank(t *testing.T) {
	b := make([]byte, 9)
	if !sector.Blank(b) || !sector.Blank(nil) {
		t.Error("noughts are not blank")
	}
	for at := range b {
		b[at] = 0x80
		if sector.Blank(b) {
			t.Errorf("a byte at %d is blank", at)
		}
		b[at] = 0
	}
}
