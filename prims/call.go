package prims

import (
	"strings"

	"rostrum/api"
	"rostrum/heap"
)

// call is a primitive's, with its arguments: roots, one behind the other.
type call struct {
	h            *heap.Heap
	first, count int
}

func (c call) arg(i int) api.Word { return c.h.Root(c.first + i) }

// check holds the arguments against the types that a row of the table tells.
func (c call) check(takes string) api.Errno {
	types, further := strings.CutSuffix(takes, "*")
	least := len(types)
	if further {
		least--
	}
	if c.count < least || c.count > least && !further {
		return api.ErrCount
	}
	for i := range c.count {
		if !isOf(c.h, types[min(i, len(types)-1)], c.arg(i)) {
			return api.ErrType
		}
	}
	return api.OK
}

// isOf tells whether a word is of the type of a letter.
func isOf(h *heap.Heap, letter byte, w api.Word) bool {
	switch letter {
	case 'N':
		_, ok := Digits(h, w)
		return ok
	case 'S':
		return h.Kind(w) == api.KString
	case 'Y':
		return h.Kind(w) == api.KSymbol
	case 'L':
		_, ok := pairs(h, w)
		return ok
	case 'P':
		return h.Kind(w) == api.KPair
	case 'V':
		return h.Kind(w) == api.KVector
	}
	return true
}

// is is whether the one argument is of a type.
func (c call) is(letter byte) (api.Word, api.Errno) {
	return truth(isOf(c.h, letter, c.arg(0))), api.OK
}

func (c call) isPair() (api.Word, api.Errno)   { return c.is('P') }
func (c call) isList() (api.Word, api.Errno)   { return c.is('L') }
func (c call) isNumber() (api.Word, api.Errno) { return c.is('N') }
func (c call) isSymbol() (api.Word, api.Errno) { return c.is('Y') }
func (c call) isString() (api.Word, api.Errno) { return c.is('S') }
func (c call) isVector() (api.Word, api.Errno) { return c.is('V') }

func (c call) isNull() (api.Word, api.Errno) { return truth(c.arg(0) == api.Nil), api.OK }
func (c call) not() (api.Word, api.Errno)    { return truth(c.arg(0) == api.False), api.OK }

func (c call) isBoolean() (api.Word, api.Errno) {
	w := c.arg(0)
	return truth(w == api.True || w == api.False), api.OK
}

func (c call) isProcedure() (api.Word, api.Errno) {
	return truth(procedure(c.h, c.arg(0))), api.OK
}

func (c call) isEq() (api.Word, api.Errno) {
	return truth(eq(c.h, c.arg(0), c.arg(1))), api.OK
}

func (c call) isEqual() (api.Word, api.Errno) {
	return truth(Equal(c.h, c.arg(0), c.arg(1))), api.OK
}

func (c call) fail() (api.Word, api.Errno) { return 0, api.ErrUser }

// machines is a primitive that the machine does itself.
func (c call) machines() (api.Word, api.Errno) { return 0, api.ErrProc }
