package log

import (
	"bytes"

	"rostrum/api"
	"rostrum/disk"
	"rostrum/sector"
)

const mark = 0x4c // the first byte of a sector of the log

// area is the log's sectors on its disk, by their places in the log.
type area struct {
	disk          *disk.Disk
	from, sectors int
}

// encode is the sector at a place of a log with that first record's number.
func encode(place, first int, load []byte) []byte {
	head := [4]byte{mark, byte(len(load)), byte(place), byte(place >> 8)}
	return sector.Seal(head, first, load)
}

func (a area) read(place int) []byte {
	b, _ := a.disk.Read(a.from + place) // Open has seen that there is such a sector
	return b
}

func (a area) write(place int, b []byte) api.Errno { return a.disk.Write(a.from+place, b) }

// save writes sectors with any number of loads, from a place on, and has them be durable.
func (a area) save(place, first int, loads ...[]byte) api.Errno {
	for i, load := range loads {
		if e := a.write(place+i, encode(place+i, first, load)); e != api.OK {
			return e
		}
	}
	return a.disk.Flush()
}

// has is the first record's number, and what the log has; 0 and nothing without a right sector at place 0.
func (a area) has() (int, []byte) {
	first, all := 0, []byte(nil)
	for place := range a.sectors {
		number, used, ok := right(a.read(place), place)
		if !ok || place > 0 && number != first {
			break
		}
		first, all = number, append(all, used...)
		if len(used) < api.Load {
			break
		}
	}
	return first, all
}

// right is the first record's number that a sector tells, and its used bytes, if it is one of a log, at that place.
func right(b []byte, place int) (int, []byte, bool) {
	used, number, load := int(b[1]), sector.Number(b), sector.Load(b)
	if used > api.Load || number < 1 || number > sector.MaxNumber {
		return 0, nil, false
	}
	load = load[:used]
	return number, load, bytes.Equal(b, encode(place, number, load))
}

// clean takes away what stands behind the records, which are the first bytes of what the log has, so many: else what is old could be taken for the log's later.
func (a area) clean(first int, has []byte, size int) {
	place, wrote := 0, false
	if first > 0 {
		place = max(size-1, 0) / api.Load
		start := place * api.Load
		if size < min(len(has), start+api.Load) {
			wrote = true
			a.write(place, encode(place, first, has[start:size]))
		}
		place++
	}
	for ; place < a.sectors; place++ {
		if !sector.Blank(a.read(place)) {
			wrote = true
			a.write(place, make([]byte, api.Size))
		}
	}
	if wrote {
		a.disk.Flush()
	}
}
