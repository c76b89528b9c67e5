package session

import (
	"slices"

	"rostrum/api"
	"rostrum/store"
)

const (
	lastSession = 9999
	pieceSize   = 1400 // bytes of a piece, beside the count ahead of the first one
	mostPieces  = 40
	mostPlaces  = 100 // as many as two digits can tell
)

func isSession(id int) bool { return id >= 1 && id <= lastSession }

// Pack is the changes that keep bytes under a session's number, Unpack the bytes of one.
func Pack(id int, b []byte) ([]api.Change, api.Errno) {
	if !isSession(id) {
		return nil, api.ErrArg
	}
	if len(b) > mostPieces*pieceSize {
		return nil, api.ErrFull
	}
	pieces := slices.Collect(slices.Chunk(b, pieceSize))
	if len(pieces) == 0 {
		pieces = [][]byte{nil}
	}
	head := []byte{byte(len(pieces))}
	var l []api.Change
	for i, p := range pieces {
		l = append(l, api.Change{Key: pieceKey(id, i), Bytes: slices.Concat(head, p)})
		head = nil
	}
	return l, api.OK
}

func Unpack(s *store.Store, id int) ([]byte, api.Errno) {
	b, e := first(s, id)
	if e != api.OK {
		return nil, e
	}
	count := said(b)
	if count < 1 || count > mostPieces || !fits(b[1:], 0, count) {
		return nil, api.ErrForm
	}
	b = b[1:]
	wrong := api.OK // the store's first error: that a piece can't be comes ahead of it, wherever it stands
	for i := 1; i < count; i++ {
		p, there, e := find(s, pieceKey(id, i))
		if e != api.OK {
			if wrong == api.OK {
				wrong = e
			}
			continue
		}
		if !there || !fits(p, i, count) {
			return nil, api.ErrForm
		}
		b = append(b, p...)
	}
	if wrong != api.OK {
		return nil, wrong
	}
	return b, api.OK
}

// first is a session's first piece.
func first(s *store.Store, id int) ([]byte, api.Errno) {
	if missing(s) {
		return nil, api.ErrNil
	}
	if !isSession(id) {
		return nil, api.ErrArg
	}
	b, there, e := find(s, pieceKey(id, 0))
	if e == api.OK && !there {
		return nil, api.ErrSession
	}
	return b, e
}

// said is how many pieces there are by what the first one says; 0, if it says nothing.
func said(first []byte) int {
	if len(first) == 0 {
		return 0
	}
	return int(first[0])
}

// fits tells whether Pack could have cut a piece so: all but the last one are full, and only a session without bytes has an empty one.
func fits(piece []byte, i, count int) bool {
	if i < count-1 {
		return len(piece) == pieceSize
	}
	return len(piece) <= pieceSize && (len(piece) > 0 || i == 0)
}

// List is the numbers of all sessions, rising; Drop the changes that forget one.
func List(s *store.Store) ([]int, api.Errno) {
	keys, e := s.Keys()
	if e != api.OK {
		return nil, e
	}
	var l []int
	for _, key := range keys { // they rise, and so do numbers of as many digits
		if id, is := sessionOf(key); is {
			l = append(l, id)
		}
	}
	return l, api.OK
}

func Drop(s *store.Store, id int) ([]api.Change, api.Errno) {
	b, e := first(s, id)
	if e != api.OK {
		return nil, e
	}
	l := []api.Change{gone(id, 0)} // it is there, whatever it says
	for i := 1; i < min(said(b), mostPlaces); i++ {
		_, there, e := find(s, pieceKey(id, i))
		if e != api.OK {
			return nil, e
		}
		if there {
			l = append(l, gone(id, i))
		}
	}
	return l, api.OK
}

// gone is the change that takes a piece away.
func gone(id, place int) api.Change { return api.Change{Key: pieceKey(id, place), Gone: true} }
