package session

import (
	"strconv"
	"strings"
)

const nextKey = "n"

// What the other keys begin with.
const (
	pieceStart = "s"
	replyStart = "r"
	rootStart  = "v"
)

const (
	idDigits    = 4  // of a session's number
	placeDigits = 2  // of a piece's
	mostName    = 11 // bytes of a root's name
)

// pieceKey is that of a session's piece.
func pieceKey(id, place int) string {
	return pieceStart + digits(id, idDigits) + digits(place, placeDigits)
}

// digits is a number in so many, with noughts ahead.
func digits(n, width int) string {
	s := strconv.Itoa(n)
	return strings.Repeat("0", max(width-len(s), 0)) + s
}

// sessionOf is the session of whose first piece a key is that.
func sessionOf(key string) (int, bool) {
	if len(key) != len(pieceStart)+idDigits+placeDigits {
		return 0, false
	}
	id, err := strconv.Atoi(key[len(pieceStart):][:idDigits])
	if err != nil || !isSession(id) || key != pieceKey(id, 0) {
		return 0, false
	}
	return id, true
}

func replyKey(id string) string { return replyStart + id }

func rootKey(name string) string { return rootStart + name }

// rootOf is the name of the root of which a key is that.
func rootOf(key string) (string, bool) {
	name, is := strings.CutPrefix(key, rootStart)
	return name, is && isRoot(name)
}

func isRoot(name string) bool { return name != "" && len(name) <= mostName }
