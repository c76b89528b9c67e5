// Package patch writes pages of a transaction so that the log is told no more than what turns.
package patch

import (
	"rostrum/api"
	"rostrum/aries"
	"rostrum/page"
)

// Write has a page begin with bytes: by one write of those from the first to the last that turn, and by none, if none does.
func Write(m *aries.Manager, tx, n int, b []byte) api.Errno {
	load, e := m.Read(tx, n)
	if e != api.OK {
		return e
	}
	off, size := page.Apart(load[:min(len(b), len(load))], b)
	if size == 0 {
		return api.OK
	}
	return m.Write(tx, n, off, b[off:off+size])
}
