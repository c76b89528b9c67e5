// Package wire is layer 1: see ../../shared/doc/01-wire.md.
package wire

import (
	"bytes"

	"rostrum/api"
	"rostrum/little"
)

const (
	more     = 0x80 // the bit of a number's byte behind which another one stands
	longest  = 9    // bytes of the greatest number: 63 bits, seven a byte
	sumBytes = 4    // bytes of a frame's sum
)

// Put is bytes with a number behind them; one below 0 counts as 0.
func Put(b []byte, n int) []byte {
	return putNumber(fresh(b, longest), n)
}

// Text is bytes with a text behind them.
func Text(b []byte, s string) []byte {
	return append(putNumber(fresh(b, longest+len(s)), len(s)), s...)
}

// fresh is a copy, since an append to what a caller handed in could write into the room behind it.
func fresh(b []byte, room int) []byte {
	return append(make([]byte, 0, len(b)+room), b...)
}

func putNumber(b []byte, n int) []byte {
	n = max(n, 0)
	for n >= more {
		b = append(b, byte(n)|more)
		n >>= 7
	}
	return append(b, byte(n))
}

// number is the number at the beginning of bytes, and how many of them it takes.
func number(b []byte) (int, int, api.Errno) {
	n := 0
	for i := range longest {
		if i == len(b) {
			return 0, 0, api.ErrShort
		}
		n |= int(b[i]&^more) << (7 * i)
		if b[i] >= more {
			continue
		}
		if b[i] == 0 && i > 0 {
			return 0, 0, api.ErrForm
		}
		return n, i + 1, api.OK
	}
	return 0, 0, api.ErrRange
}

// Frame is bytes in a frame.
func Frame(p []byte) ([]byte, api.Errno) {
	if len(p) > api.MaxFrame {
		return nil, api.ErrLong
	}
	b := append(putNumber(fresh(nil, longest+len(p)+sumBytes), len(p)), p...)
	var sum [sumBytes]byte
	little.Put(sum[:], int(Sum(p)))
	return append(b, sum[:]...), api.OK
}

// Unframe is the bytes of a frame, and what stands behind it.
func Unframe(b []byte) ([]byte, []byte, api.Errno) {
	n, head, e := number(b)
	if e != api.OK {
		return nil, nil, e
	}
	if n > api.MaxFrame {
		return nil, nil, api.ErrLong
	}
	b = b[head:]
	if len(b) < n+sumBytes {
		return nil, nil, api.ErrShort
	}
	p, sum, behind := b[:n], b[n:n+sumBytes], b[n+sumBytes:]
	if little.Get(sum) != int(Sum(p)) {
		return nil, nil, api.ErrSum
	}
	return bytes.Clone(p), bytes.Clone(behind), api.OK
}
