// Package sector is the shape that a sector of the log and that of a page share: a head of four bytes, a number in eight, a load, a sum in four.
package sector

import (
	"bytes"

	"rostrum/api"
	"rostrum/little"
	"rostrum/wire"
)

// MaxNumber is the greatest number of a record, which both kinds of sectors name.
const MaxNumber = 1 << 62

const (
	numberAt = 4
	loadAt   = numberAt + 8
	sumAt    = loadAt + api.Load
)

// Seal is the sector of a head, a number, and a load with noughts behind it.
func Seal(head [4]byte, number int, load []byte) []byte {
	b := make([]byte, api.Size)
	copy(b, head[:])
	little.Put(b[numberAt:loadAt], number)
	copy(b[loadAt:sumAt], load)
	little.Put(b[sumAt:], int(wire.Sum(b[:sumAt])))
	return b
}

// Sealed tells whether a sector has its own sum.
func Sealed(b []byte) bool {
	return little.Get(b[sumAt:]) == int(wire.Sum(b[:sumAt]))
}

// Number is the number of a sector.
func Number(b []byte) int { return little.Get(b[numberAt:loadAt]) }

// Load is the load of a sector, as new memory.
func Load(b []byte) []byte { return bytes.Clone(b[loadAt:sumAt]) }

// Blank tells whether bytes are noughts.
func Blank(b []byte) bool {
	for _, x := range b {
		if x != 0 {
			return false
		}
	}
	return true
}
