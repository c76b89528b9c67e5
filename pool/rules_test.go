package pool_test

import (
	"bytes"
	"testing"

	"rostrum/api"
	"rostrum/pool"
)

// Objects

func TestPoolsThatNoCallMade(t *testing.T) {
	for _, p := range []*pool.Pool{nil, {}} {
		b, lsn, e := p.Get(0)
		if len(b) > 0 || lsn != 0 || e != api.ErrNil {
			t.Errorf("Get: %x, %d, %v", b, lsn, e)
		}
		for name, e := range map[string]api.Errno{
			"Put": p.Put(0, 1, load(1)), "Put of nothing": p.Put(-1, 0, nil), "Pin": p.Pin(0), "Unpin": p.Unpin(0), "Flush": p.Flush(0), "Flush of no page": p.Flush(-1), "All": p.All(),
		} {
			if e != api.ErrNil {
				t.Errorf("%s: %v", name, e)
			}
		}
		if len(p.Table()) > 0 || len(p.Held()) > 0 {
			t.Errorf("Table %v, Held %v", p.Table(), p.Held())
		}
	}
}

// Memory

// spoil turns all bytes that can be reached from a list, its spare room too.
func spoil(b []byte) {
	b = b[:cap(b)]
	for i := range b {
		b[i] ^= 0x55
	}
}

func TestAnswersAreNewMemory(t *testing.T) {
	x := newSet(t, 10, 3)
	x.records(t, 2)
	x.put(t, 1, 1)
	x.write(t, 2, sectorOf(2, load(2)))
	for n, lsn := range map[int]int{1: 1, 2: 2} {
		b, _, _ := x.p.Get(n)
		c, _, _ := x.p.Get(n)
		spoil(b)
		if !bytes.Equal(c, load(lsn)) {
			t.Errorf("page %d: two answers share memory", n)
		}
		spoil(c)
		x.wantPage(t, n, lsn, load(lsn))
	}
	x.p.Flush(1)
	x.wantPending(t, 1, 1)
	x.put(t, 1, 2)
	x.put(t, 3, 1)
	held, table := x.p.Held(), x.p.Table()
	for i := range held {
		held[i] = 7
	}
	for i := range table {
		table[i] = api.Dirty{Page: 7, First: 7}
	}
	x.wantHeld(t, 2, 1, 3)
	x.wantTable(t, 1, 2, 3, 1)
}

func TestArgumentsAreNeitherKeptNorChanged(t *testing.T) {
	x := newSet(t, 10, 3)
	x.records(t, 3)
	room := load(1)
	room = append(room, noise(9, 50)...)
	b := room[:api.Load]
	for _, lsn := range []int{1, 2} {
		if e := x.p.Put(1, lsn, b); e != api.OK {
			t.Fatal(e)
		}
		x.get(t, 1)
		x.p.Flush(1)
		if !bytes.Equal(room, append(load(1), noise(9, 50)...)) {
			t.Fatal("the argument has changed")
		}
	}
	spoil(room)
	x.wantPage(t, 1, 2, load(1))
	got, _, _ := x.p.Get(1)
	spoil(got)
	spoil(room)
	if !bytes.Equal(room, append(load(1), noise(9, 50)...)) {
		t.Error("the answer shares memory with the argument")
	}
}

// From arguments alone

func TestTheSameCallsTwice(t *testing.T) {
	run := func() view {
		x := newSet(t, 10, 4)
		x.records(t, 30)
		for i := range 30 {
			x.put(t, i*7%10, i+1)
			x.get(t, i*3%10)
		}
		x.p.All()
		x.put(t, 3, 5)
		return x.view()
	}
	first := run()
	for range 3 {
		x := run()
		if len(x.Held) != len(first.Held) || x.Forced != first.Forced {
			t.Fatal("the same calls tell otherwise")
		}
		for i := range x.Image {
			if !bytes.Equal(x.Image[i], first.Image[i]) {
				t.Fatalf("sector %d is another one", i)
			}
		}
	}
}
