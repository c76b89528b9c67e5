// Package disk is layer 2: see ../../shared/doc/02-disk.md.
package disk

import (
	"bytes"
	"slices"

	"rostrum/api"
)

// Disk is a stand-in for a disk of sectors, with a cache that a crash loses. (It only leads to its state: whoever copies the struct has the same disk, not half of one.)
type Disk struct{ *state }

// state is a disk's sectors as they are durable, and the writes that are not.
type state struct {
	durable []byte // all sectors, one behind the other
	latest  []int  // of each sector its last pending write's place and 1, or 0: a read need not go through all of them
	queue
}

// queue is the pending writes, in order.
type queue struct {
	targets []int  // the sector of each
	loads   []byte // the bytes of each, one behind the other
}

// cut is the nth sector's bytes of many; its room ends where it does, so that an append can't reach into the next one's.
func cut(b []byte, n int) []byte {
	from, to := n*api.Size, (n+1)*api.Size
	return b[from:to:to]
}

func (d *Disk) missing() bool { return d == nil || d.state == nil }

func (s *state) has(i int) bool { return i >= 0 && i < len(s.latest) }

func allowed(sectors int) bool { return sectors >= 1 && sectors <= api.MaxSectors }

// New is a disk of so many sectors of noughts.
func New(sectors int) (*Disk, api.Errno) {
	if !allowed(sectors) {
		return nil, api.ErrArg
	}
	return over(make([]byte, sectors*api.Size)), api.OK
}

// Of is a disk of an image, which is durable.
func Of(image [][]byte) (*Disk, api.Errno) {
	if !allowed(len(image)) {
		return nil, api.ErrArg
	}
	for _, b := range image {
		if len(b) != api.Size {
			return nil, api.ErrArg
		}
	}
	return over(bytes.Join(image, nil)), api.OK
}

func over(durable []byte) *Disk {
	return &Disk{&state{durable: durable, latest: make([]int, len(durable)/api.Size)}}
}

// Sectors is how many the disk has.
func (d *Disk) Sectors() int {
	if d.missing() {
		return 0
	}
	return len(d.latest)
}

// Read is a sector as it was written last, durable or not.
func (d *Disk) Read(i int) ([]byte, api.Errno) {
	if d.missing() {
		return nil, api.ErrNil
	}
	if !d.has(i) {
		return nil, api.ErrArg
	}
	if last := d.latest[i]; last > 0 {
		return bytes.Clone(cut(d.loads, last-1)), api.OK
	}
	return bytes.Clone(cut(d.durable, i)), api.OK
}

// Write writes a sector; it is pending until a flush or a crash.
func (d *Disk) Write(i int, b []byte) api.Errno {
	if d.missing() {
		return api.ErrNil
	}
	if !d.has(i) || len(b) != api.Size {
		return api.ErrArg
	}
	d.targets = append(d.targets, i)
	d.loads = append(d.loads, b...)
	d.latest[i] = len(d.targets)
	return api.OK
}

// Pending is the writes that are not durable, in order.
func (d *Disk) Pending() []api.Sent {
	if d.missing() {
		return nil
	}
	loads := bytes.Clone(d.loads)
	l := make([]api.Sent, len(d.targets))
	for place, sector := range d.targets {
		l[place] = api.Sent{Sector: sector, Bytes: cut(loads, place)}
	}
	return l
}

// Flush makes all pending writes durable.
func (d *Disk) Flush() api.Errno {
	if d.missing() {
		return api.ErrNil
	}
	for place := range d.targets {
		d.settle(place)
	}
	d.forget()
	return api.OK
}

// Crash loses all pending writes but those at some places.
func (d *Disk) Crash(keep []int) api.Errno {
	if d.missing() {
		return api.ErrNil
	}
	stays, ok := d.chosen(keep)
	if !ok {
		return api.ErrPlace
	}
	for place := range d.targets {
		if stays[place] {
			d.settle(place)
		}
	}
	d.forget()
	return api.OK
}

// chosen tells of each pending write whether its place is named; false, if one is named twice or is not there.
func (q *queue) chosen(places []int) ([]bool, bool) {
	named := make([]bool, len(q.targets))
	for _, p := range places {
		if p < 0 || p >= len(named) || named[p] {
			return nil, false
		}
		named[p] = true
	}
	return named, true
}

// settle makes the pending write at a place durable.
func (s *state) settle(place int) {
	copy(cut(s.durable, s.targets[place]), cut(s.loads, place))
}

func (s *state) forget() {
	for _, sector := range s.targets {
		s.latest[sector] = 0
	}
	s.queue = queue{}
}

// Image is all sectors as they are durable.
func (d *Disk) Image() [][]byte {
	if d.missing() {
		return nil
	}
	durable := bytes.Clone(d.durable)
	l := make([][]byte, d.Sectors())
	for i := range l {
		l[i] = cut(durable, i)
	}
	return l
}

// Copy is another disk with the same sectors and pending writes.
func (d *Disk) Copy() *Disk {
	if d.missing() {
		return nil
	}
	return &Disk{&state{
		durable: bytes.Clone(d.durable),
		latest:  slices.Clone(d.latest),
		queue:   queue{targets: slices.Clone(d.targets), loads: bytes.Clone(d.loads)},
	}}
}
