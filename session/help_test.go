package session_test

import (
	"bytes"
	"encoding/binary"
	"fmt"
	"hash/crc32"
	"maps"
	"math/rand"
	"slices"
	"strconv"
	"strings"
	"testing"

	"rostrum/api"
	"rostrum/aries"
	"rostrum/btree"
	"rostrum/disk"
	"rostrum/store"
)

const (
	logs  = 1200
	pages = 1000
)

func want(t *testing.T, what string, e, why api.Errno) {
	t.Helper()
	if e != why {
		t.Errorf("%s: %v, want %v", what, e, why)
	}
}

func open(t *testing.T, d *disk.Disk) *store.Store {
	t.Helper()
	s, e := store.Open(d, logs, pages)
	if s == nil || e != api.OK {
		t.Fatalf("store.Open: %v", e)
	}
	return s
}

func newDisk(t *testing.T) *disk.Disk {
	t.Helper()
	d, e := disk.New(logs + pages)
	if e != api.OK {
		t.Fatalf("disk.New: %v", e)
	}
	return d
}

// kept is a store that has some keys: each text is a key, and its bytes behind a =.
func kept(t *testing.T, l ...string) *store.Store {
	t.Helper()
	return keptOn(t, newDisk(t), l...)
}

func keptOn(t *testing.T, d *disk.Disk, l ...string) *store.Store {
	t.Helper()
	s := open(t, d)
	var changes []api.Change
	for _, x := range l {
		key, b, _ := strings.Cut(x, "=")
		changes = append(changes, api.Change{Key: key, Bytes: []byte(b)})
	}
	batch(t, s, changes...)
	return s
}

func batch(t *testing.T, s *store.Store, l ...api.Change) {
	t.Helper()
	if e := s.Batch(l); e != api.OK {
		t.Fatalf("Batch: %v", e)
	}
}

// broken is such a store in which further keys have values that lead to no bytes: store.Get of them is ErrNode.
func broken(t *testing.T, keys []string, l ...string) *store.Store {
	t.Helper()
	d := newDisk(t)
	keptOn(t, d, l...)
	within(t, d, func(m *aries.Manager, tx int) {
		for _, key := range keys {
			want(t, "btree.Put", btree.Put(m, tx, key, "odd"), api.OK)
		}
	})
	s := open(t, d)
	for _, key := range keys {
		if _, e := s.Get(key); e != api.ErrNode {
			t.Fatalf("Get(%q) of a broken store: %v", key, e)
		}
	}
	return s
}

// headless is a store whose page 0 can't be: every call of it is ErrNode.
func headless(t *testing.T, l ...string) *store.Store {
	t.Helper()
	d := newDisk(t)
	keptOn(t, d, l...)
	within(t, d, func(m *aries.Manager, tx int) {
		want(t, "Write", m.Write(tx, 0, 6, []byte{99}), api.OK)
	})
	s := open(t, d)
	if _, e := s.Keys(); e != api.ErrNode {
		t.Fatalf("Keys of a headless store: %v", e)
	}
	return s
}

func within(t *testing.T, d *disk.Disk, do func(m *aries.Manager, tx int)) {
	t.Helper()
	m, e := aries.Open(d, logs, pages, api.MaxBuffers)
	want(t, "aries.Open", e, api.OK)
	tx, e := m.Begin()
	want(t, "Begin", e, api.OK)
	do(m, tx)
	want(t, "Commit", m.Commit(tx), api.OK)
}

// contents is what a store has, by its keys.
func contents(t *testing.T, s *store.Store) map[string]string {
	t.Helper()
	keys, e := s.Keys()
	want(t, "Keys", e, api.OK)
	m := map[string]string{}
	for _, key := range keys {
		b, e := s.Get(key)
		want(t, "Get", e, api.OK)
		m[key] = string(b)
	}
	return m
}

func wantContents(t *testing.T, what string, s *store.Store, m map[string]string) {
	t.Helper()
	if got := contents(t, s); !maps.Equal(got, m) {
		t.Errorf("%s: the store has %q, want %q, or other bytes", what, slices.Sorted(maps.Keys(got)), slices.Sorted(maps.Keys(m)))
	}
}

func noise(seed int64, n int) []byte {
	b := make([]byte, n)
	rand.New(rand.NewSource(seed)).Read(b)
	return b
}

func rep(n int) string { return strings.Repeat("x", n) }

// numbered is a session's key.
func numbered(id, place int) string {
	return "s" + strconv.Itoa(10000 + id)[1:] + strconv.Itoa(100 + place)[1:]
}

// line is a reply's message, made by hand.
func line(r api.Reply) string {
	p := []byte{2}
	for _, n := range []int{r.Status, r.Session, r.Why} {
		p = binary.AppendUvarint(p, uint64(n))
	}
	for _, s := range []string{r.ID, r.Text} {
		p = append(binary.AppendUvarint(p, uint64(len(s))), s...)
	}
	b := append(binary.AppendUvarint(nil, uint64(len(p))), p...)
	return string(binary.LittleEndian.AppendUint32(b, crc32.ChecksumIEEE(p)))
}

// roomy is a copy with spare room behind it that holds something.
func roomy(b []byte) []byte {
	c := append(bytes.Clone(b), "spare room"...)
	return c[:len(b)]
}

// spoil writes over bytes, the spare room behind them included.
func spoil(b []byte) {
	for i := range b[:cap(b)] {
		b[:cap(b)][i] = '!'
	}
}

// short is the beginning of what is told, without bytes that are no text.
func short(x any) string { return fmt.Sprintf("%.90s", fmt.Sprintf("%+q", fmt.Sprint(x))) }
