package little_test

import (
	"bytes"
	"math"
	"testing"

	"rostrum/little"
)

func TestPutAndGet(t *testing.T) {
	for _, c := range []struct {
		n    int
		want string
	}{
		{0, "\x00"},
		{0x0102, "\x02\x01"},
		{0xfffe, "\xfe\xff"},
		{0xcbf43926, "\x26\x39\xf4\xcb"},
		{1 << 62, "\x00\x00\x00\x00\x00\x00\x00\x40"},
		{math.MaxInt, "\xff\xff\xff\xff\xff\xff\xff\x7f"},
		{-1, "\xff\xff\xff\xff\xff\xff\xff\xff"},
		{math.MinInt, "\x00\x00\x00\x00\x00\x00\x00\x80"},
	} {
		b := bytes.Repeat([]byte{0xee}, len(c.want))
		little.Put(b, c.n)
		if string(b) != c.want {
			t.Errorf("Put of %d is %x, want %x", c.n, b, c.want)
		}
		if n := little.Get([]byte(c.want)); n != c.n {
			t.Errorf("Get of %x is %d, want %d", c.want, n, c.n)
		}
	}
}

func TestWhatDoesNotFit(t *testing.T) {
	b := []byte{7, 7, 7}
	little.Put(b[:2], 0x030201)
	if string(b) != "\x01\x02\x07" {
		t.Errorf("%x", b)
	}
	little.Put(nil, 5)
	if little.Get(nil) != 0 {
		t.Error("no bytes are a number")
	}
}
