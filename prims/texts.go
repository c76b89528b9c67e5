package prims

import (
	"strings"

	"rostrum/api"
	"rostrum/datum"
	"rostrum/number"
)

const mostBytes = 4000 // of a string

func (c call) text(i int) string { return c.h.String(c.arg(i)) }

func (c call) stringAppend() (api.Word, api.Errno) {
	var b strings.Builder
	for i := range c.count {
		b.WriteString(c.text(i))
		if b.Len() > mostBytes {
			return 0, api.ErrFull
		}
	}
	return c.h.Text(api.KString, b.String())
}

func (c call) stringLength() (api.Word, api.Errno) { return small(len(c.text(0))), api.OK }

func (c call) stringToSymbol() (api.Word, api.Errno) {
	if !datum.Can(api.Datum{Kind: api.DSymbol, Text: c.text(0)}) {
		return 0, api.ErrType
	}
	return c.h.Text(api.KSymbol, c.text(0))
}

func (c call) symbolToString() (api.Word, api.Errno) { return c.h.Text(api.KString, c.text(0)) }

func (c call) numberToString() (api.Word, api.Errno) { return c.h.Text(api.KString, c.digits(0)) }

func (c call) stringToNumber() (api.Word, api.Errno) {
	if !number.Can(c.text(0)) {
		return api.False, api.OK
	}
	return Number(c.h, c.text(0))
}
