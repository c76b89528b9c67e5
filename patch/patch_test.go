package patch_test

import (
	"bytes"
	"testing"

	"rostrum/api"
	"rostrum/aries"
	"rostrum/disk"
	"rostrum/patch"
)

func TestWrite(t *testing.T) {
	d, _ := disk.New(60)
	m, _ := aries.Open(d, 50, 5, 3)
	tx, _ := m.Begin()
	want := make([]byte, api.Load)
	records := 0
	for _, c := range []struct {
		b      string
		writes int
	}{
		{"", 0},
		{"\x00\x00", 0},
		{"abc", 1},
		{"abc", 0},
		{"ab", 0},
		{"axc", 1},
		{string(bytes.Repeat([]byte("z"), api.Load)), 1},
		{string(bytes.Repeat([]byte("z"), api.Load)), 0},
		{"y", 1},
	} {
		if e := patch.Write(m, tx, 3, []byte(c.b)); e != api.OK {
			t.Fatalf("%q: %v", c.b, e)
		}
		copy(want, c.b)
		records += c.writes
		if b, e := m.Read(tx, 3); e != api.OK || !bytes.Equal(b, want) || m.Records() != records {
			t.Fatalf("%q: %q, %v, %d records, want %d", c.b, b, e, m.Records(), records)
		}
	}
}

func TestWriteRefuses(t *testing.T) {
	d, _ := disk.New(60)
	m, _ := aries.Open(d, 50, 5, 3)
	tx, _ := m.Begin()
	for _, c := range []struct {
		m        *aries.Manager
		tx, page int
		size     int
		want     api.Errno
	}{
		{nil, tx, 0, 1, api.ErrNil},
		{m, tx + 1, 0, 1, api.ErrTx},
		{m, tx, 5, 1, api.ErrPage},
		{m, tx, -1, 1, api.ErrPage},
		{m, tx, 0, api.Load + 1, api.ErrArg},
		{m, tx, 0, 1000, api.ErrArg},
	} {
		if e := patch.Write(c.m, c.tx, c.page, bytes.Repeat([]byte{1}, c.size)); e != c.want {
			t.Errorf("%+v: %v", c, e)
		}
	}
	if m.Records() > 0 {
		t.Error("a write that was refused wrote something")
	}
}
