package btree_test

import (
	"bytes"
	"encoding/binary"
	"slices"
	"testing"

	"rostrum/api"
	"rostrum/aries"
	"rostrum/btree"
	"rostrum/disk"
	"rostrum/log"
)

// set is a manager with an open transaction.
type set struct {
	d    *disk.Disk
	m    *aries.Manager
	tx   int
	logs int
}

// blank is a set on a new disk, without a tree.
func blank(t *testing.T, logs, pages, buffers int) *set {
	t.Helper()
	d, e := disk.New(logs + pages)
	done(t, "disk.New", e)
	m, e := aries.Open(d, logs, pages, buffers)
	done(t, "aries.Open", e)
	x := &set{d: d, m: m, logs: logs}
	x.begin(t)
	return x
}

// fresh is a set with an empty tree, in which nothing is full.
func fresh(t *testing.T, pages int) *set {
	t.Helper()
	x := blank(t, 1000, pages, api.MaxBuffers)
	done(t, "Init", btree.Init(x.m, x.tx))
	return x
}

// of is a set of pages, from page 0 on; all others are noughts.
func of(t *testing.T, pages int, loads ...[]byte) *set {
	t.Helper()
	x := blank(t, 1000, pages, api.MaxBuffers)
	for n, b := range loads {
		x.lay(t, n, b)
	}
	return x
}

func (x *set) begin(t *testing.T) {
	t.Helper()
	tx, e := x.m.Begin()
	done(t, "Begin", e)
	x.tx = tx
}

func (x *set) commit(t *testing.T) {
	t.Helper()
	done(t, "Commit", x.m.Commit(x.tx))
}

// lay has a page be as it is told, and noughts behind.
func (x *set) lay(t *testing.T, page int, load []byte) {
	t.Helper()
	done(t, "Write", x.m.Write(x.tx, page, 0, full(load)))
}

func (x *set) page(t *testing.T, n int) []byte {
	t.Helper()
	b, e := x.m.Read(x.tx, n)
	done(t, "Read", e)
	return b
}

func (x *set) pages(t *testing.T) [][]byte {
	t.Helper()
	l := make([][]byte, x.m.Pages())
	for n := range l {
		l[n] = x.page(t, n)
	}
	return l
}

func done(t *testing.T, name string, e api.Errno) {
	t.Helper()
	if e != api.OK {
		t.Fatalf("%s: %v", name, e)
	}
}

// Pages, put together by other means than the program's.

func full(b []byte) []byte { return append(slices.Clone(b), make([]byte, api.Load-len(b))...) }

func head(root, unused, free, levels int) []byte {
	var b []byte
	for _, n := range []int{root, unused, free} {
		b = binary.LittleEndian.AppendUint16(b, uint16(n))
	}
	return append(b, byte(levels))
}

// leaf is that of keys and values in turn.
func leaf(l ...string) []byte {
	b := []byte{1, byte(len(l) / 2)}
	for _, s := range l {
		b = append(append(b, byte(len(s))), s...)
	}
	return b
}

// inner is that of a first child, and of keys and children in turn.
func inner(first int, l ...any) []byte {
	b := binary.LittleEndian.AppendUint16([]byte{2, byte(len(l) / 2)}, uint16(first))
	for _, x := range l {
		switch x := x.(type) {
		case string:
			b = append(append(b, byte(len(x))), x...)
		case int:
			b = binary.LittleEndian.AppendUint16(b, uint16(x))
		}
	}
	return b
}

// free is a free page that leads to another one.
func free(next int) []byte { return binary.LittleEndian.AppendUint16(nil, uint16(next)) }

func (x *set) wantPage(t *testing.T, n int, want []byte) {
	t.Helper()
	if b := x.page(t, n); !bytes.Equal(b, full(want)) {
		t.Fatalf("page %d is\n%x, want\n%x", n, b, full(want))
	}
}

func (x *set) wantPages(t *testing.T, want ...[]byte) {
	t.Helper()
	for n, b := range want {
		x.wantPage(t, n, b)
	}
}

// wantFree: a page is free, and leads to another one.
func (x *set) wantFree(t *testing.T, n, next int) {
	t.Helper()
	if b := x.page(t, n); !bytes.Equal(b[:2], free(next)) {
		t.Fatalf("page %d is\n%x, but it should be free and lead to %d", n, b, next)
	}
}

// wantIdle: so many pages are free, or were never used.
func (x *set) wantIdle(t *testing.T, want int) {
	t.Helper()
	if n, e := btree.Free(x.m, x.tx); n != want || e != api.OK {
		t.Fatalf("Free: %d, %v, want %d", n, e, want)
	}
}

func (x *set) wantHeight(t *testing.T, want int) {
	t.Helper()
	if n, e := btree.Height(x.m, x.tx); n != want || e != api.OK {
		t.Fatalf("Height: %d, %v, want %d", n, e, want)
	}
}

func (x *set) put(t *testing.T, key, value string) {
	t.Helper()
	done(t, "Put of "+key, btree.Put(x.m, x.tx, key, value))
}

func (x *set) delete(t *testing.T, key string) {
	t.Helper()
	done(t, "Delete of "+key, btree.Delete(x.m, x.tx, key))
}

func (x *set) wantValue(t *testing.T, key, want string) {
	t.Helper()
	if v, e := btree.Get(x.m, x.tx, key); v != want || e != api.OK {
		t.Fatalf("Get(%q): %q, %v, want %q", key, v, e, want)
	}
}

func (x *set) wantGone(t *testing.T, key string) {
	t.Helper()
	if v, e := btree.Get(x.m, x.tx, key); v != "" || e != api.ErrGone {
		t.Fatalf("Get(%q): %q, %v, but it is gone", key, v, e)
	}
}

// pairs is that of keys and values in turn.
func pairs(l ...string) []api.Pair {
	var p []api.Pair
	for kv := range slices.Chunk(l, 2) {
		p = append(p, api.Pair{Key: kv[0], Value: kv[1]})
	}
	return p
}

func (x *set) wantRange(t *testing.T, from string, most int, want ...string) {
	t.Helper()
	if l, e := btree.Range(x.m, x.tx, from, most); e != api.OK || !slices.Equal(l, pairs(want...)) {
		t.Fatalf("Range(%q, %d): %v, %v, want %v", from, most, l, e, pairs(want...))
	}
}

// call is one of the package's calls; most answer something beside the error, and tell here whether it is its zero value.
type call struct {
	name string
	do   func(m *aries.Manager, tx int) (bool, api.Errno)
}

// calls are all calls but Init, with arguments that may be.
func calls() []call {
	return []call{
		{"Get", func(m *aries.Manager, tx int) (bool, api.Errno) {
			v, e := btree.Get(m, tx, "k")
			return v == "", e
		}},
		{"Put", func(m *aries.Manager, tx int) (bool, api.Errno) { return true, btree.Put(m, tx, "k", "new") }},
		{"Delete", func(m *aries.Manager, tx int) (bool, api.Errno) { return true, btree.Delete(m, tx, "k") }},
		{"Range", func(m *aries.Manager, tx int) (bool, api.Errno) {
			l, e := btree.Range(m, tx, "", 1000)
			return len(l) == 0, e
		}},
		{"Range of none", func(m *aries.Manager, tx int) (bool, api.Errno) {
			l, e := btree.Range(m, tx, "", 0)
			return len(l) == 0, e
		}},
		{"Take", func(m *aries.Manager, tx int) (bool, api.Errno) {
			n, e := btree.Take(m, tx)
			return n == 0, e
		}},
		{"Give", func(m *aries.Manager, tx int) (bool, api.Errno) { return true, btree.Give(m, tx, 2) }},
		{"Height", func(m *aries.Manager, tx int) (bool, api.Errno) {
			n, e := btree.Height(m, tx)
			return n == 0, e
		}},
		{"Free", func(m *aries.Manager, tx int) (bool, api.Errno) {
			n, e := btree.Free(m, tx)
			return n == 0, e
		}},
	}
}

// keyed tells whether a call goes down the tree.
func (c call) keyed() bool { return slices.Contains([]string{"Get", "Put", "Delete", "Range"}, c.name) }

// refused: calls answer an error, and change nothing.
func (x *set) refused(t *testing.T, name string, want api.Errno, which func(call) bool) {
	t.Helper()
	before, records := x.pages(t), x.m.Records()
	for _, c := range calls() {
		if !which(c) {
			continue
		}
		if zero, e := c.do(x.m, x.tx); !zero || e != want {
			t.Errorf("%s: %s: %v (nothing else: %v), want %v", name, c.name, e, zero, want)
		}
		if x.m.Records() != records || !slices.EqualFunc(x.pages(t), before, bytes.Equal) {
			t.Errorf("%s: %s has changed something", name, c.name)
		}
	}
}

func anyCall(call) bool { return true }

// spoil has a page's sector be wrong, so that it can't be read any more: the pages are on the disk, and none is held.
func (x *set) spoil(t *testing.T, buffers int, pages ...int) {
	t.Helper()
	x.commit(t)
	done(t, "Checkpoint", x.m.Checkpoint())
	for _, n := range pages {
		done(t, "disk.Write", x.d.Write(x.logs+n, bytes.Repeat([]byte{0x50}, api.Size)))
	}
	m, e := aries.Open(x.d, x.logs, x.m.Pages(), buffers)
	done(t, "aries.Open", e)
	x.m = m
	x.begin(t)
}

// turn is what an update of the log says.
type turn struct {
	page, off     int
	ahead, behind string
}

// turns is all updates of the transaction, which is committed by that.
func (x *set) turns(t *testing.T) []turn {
	t.Helper()
	x.commit(t)
	c, e := disk.Of(x.d.Image())
	done(t, "disk.Of", e)
	_, recs, e := log.Open(c, 0, x.logs)
	done(t, "log.Open", e)
	x.begin(t)
	var l []turn
	for _, b := range recs {
		if b[0] != 1 {
			continue
		}
		next := func() int {
			n, size := binary.Uvarint(b)
			b = b[size:]
			return int(n)
		}
		text := func() string {
			n := next()
			s := string(b[:n])
			b = b[n:]
			return s
		}
		next() // the kind
		next() // the transaction
		l = append(l, turn{page: next(), off: next(), ahead: text(), behind: text()})
	}
	return l
}
