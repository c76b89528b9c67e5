package prims

import (
	"rostrum/api"
	"rostrum/number"
)

const mostFields = 1000 // of a vector

func (c call) vector() (api.Word, api.Errno) {
	fields := make([]api.Word, c.count)
	for i := range fields {
		fields[i] = c.arg(i)
	}
	return c.h.Make(api.KVector, fields...)
}

// upTo is the number that an argument is, if it is from 0 to most.
func (c call) upTo(most, i int) (int, bool) {
	n, ok := number.Small(c.digits(i))
	if !ok || n < 0 || n > most {
		return 0, false
	}
	return n, true
}

// place is the place in the vector ahead of it that an argument is.
func (c call) place(i int) (int, bool) { return c.upTo(c.h.Len(c.arg(i-1))-1, i) }

func (c call) vectorRef() (api.Word, api.Errno) {
	n, ok := c.place(1)
	if !ok {
		return 0, api.ErrIndex
	}
	return c.h.Field(c.arg(0), n)
}

func (c call) vectorSet() (api.Word, api.Errno) {
	n, ok := c.place(1)
	if !ok {
		return 0, api.ErrIndex
	}
	return api.Void, c.h.Set(c.arg(0), n, c.arg(2))
}

func (c call) vectorLength() (api.Word, api.Errno) { return small(c.h.Len(c.arg(0))), api.OK }

func (c call) makeVector() (api.Word, api.Errno) {
	n, ok := c.upTo(mostFields, 0)
	if !ok {
		return 0, api.ErrIndex
	}
	fields := make([]api.Word, n)
	for i := range fields {
		fields[i] = c.arg(1)
	}
	return c.h.Make(api.KVector, fields...)
}
