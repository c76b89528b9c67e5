package serial

import (
	"rostrum/api"
	"rostrum/heap"
	"rostrum/little"
	"rostrum/wire"
)

const (
	version     = 1
	mostObjects = 20000
	sumBytes    = 4
)

// What a field begins with.
const (
	isObject   = iota // its number follows
	isSmall           // a small number of 0 and above follows
	isBelow           // -1 less a small number below 0 follows
	isConstant        // k of the constant -2k follows
	numFields
)

// writer appends by itself, since each of wire's calls would copy all that is ahead.
type writer struct {
	h     *heap.Heap
	met   map[api.Word]int
	bytes []byte
}

// all is the bytes of a word from which the objects were met.
func (to *writer) all(w api.Word) []byte {
	to.numbers(version, len(to.met))
	for _, o := range inOrder(to.met) {
		to.object(o)
	}
	to.word(w)
	return summed(to.bytes)
}

func (to *writer) numbers(l ...int) {
	for _, n := range l {
		to.bytes = append(to.bytes, wire.Put(nil, n)...)
	}
}

func (to *writer) object(w api.Word) {
	kind := to.h.Kind(w)
	to.numbers(kind)
	if isTexts(kind) {
		to.bytes = append(to.bytes, wire.Text(nil, to.h.String(w))...)
		return
	}
	l := fields(to.h, w)
	to.numbers(len(l))
	for _, v := range l {
		to.word(v)
	}
}

// word writes a field, or the word itself.
func (to *writer) word(w api.Word) {
	n := int(w) >> 1
	switch {
	case w > 0 && w&1 == 0:
		to.numbers(isObject, to.met[w])
	case w&1 == 0:
		to.numbers(isConstant, -n)
	case n >= 0:
		to.numbers(isSmall, n)
	default:
		to.numbers(isBelow, -1-n)
	}
}

// summed is bytes with their sum behind them.
func summed(b []byte) []byte {
	var sum [sumBytes]byte
	little.Put(sum[:], int(wire.Sum(b)))
	return append(b, sum[:]...)
}

// unsummed is the bytes ahead of a sum, if it is theirs.
func unsummed(b []byte) ([]byte, bool) {
	n := len(b) - sumBytes
	if n < 0 || little.Get(b[n:]) != int(wire.Sum(b[:n])) {
		return nil, false
	}
	return b[:n], true
}
