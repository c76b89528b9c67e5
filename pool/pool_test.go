package pool_test

import (
	"bytes"
	"math"
	"slices"
	"testing"

	"rostrum/api"
	"rostrum/disk"
	"rostrum/log"
	"rostrum/pool"
)

// P5.1

func TestNewRefuses(t *testing.T) {
	x := newSet(t, 10, 1)
	sectors := x.d.Sectors()
	for _, c := range []struct {
		name                 string
		d                    *disk.Disk
		l                    *log.Log
		from, pages, buffers int
		want                 api.Errno
	}{
		{"no disk", nil, x.l, from, 10, 4, api.ErrNil},
		{"a plain disk", &disk.Disk{}, x.l, from, 10, 4, api.ErrNil},
		{"no log", x.d, nil, from, 10, 4, api.ErrNil},
		{"a plain log", x.d, &log.Log{}, from, 10, 4, api.ErrNil},
		{"no disk, wrong numbers", nil, x.l, -1, 0, 0, api.ErrNil},
		{"no log, wrong numbers", x.d, nil, -1, 0, 0, api.ErrNil},
		{"from below 0", x.d, x.l, -1, 10, 4, api.ErrArg},
		{"from far below 0", x.d, x.l, math.MinInt, 10, 4, api.ErrArg},
		{"from past the end", x.d, x.l, sectors, 1, 4, api.ErrArg},
		{"from far past the end", x.d, x.l, math.MaxInt, 1, 4, api.ErrArg},
		{"no pages", x.d, x.l, from, 0, 4, api.ErrArg},
		{"pages below 0", x.d, x.l, from, -1, 4, api.ErrArg},
		{"pages far below 0", x.d, x.l, from, math.MinInt, 4, api.ErrArg},
		{"one page too many", x.d, x.l, from, sectors - from + 1, 4, api.ErrArg},
		{"far too many pages", x.d, x.l, from, math.MaxInt, 4, api.ErrArg},
		{"one page too many from 0 on", x.d, x.l, 0, sectors + 1, 4, api.ErrArg},
		{"no buffers", x.d, x.l, from, 10, 0, api.ErrArg},
		{"buffers below 0", x.d, x.l, from, 10, -1, api.ErrArg},
		{"one buffer too many", x.d, x.l, from, 10, api.MaxBuffers + 1, api.ErrArg},
		{"far too many buffers", x.d, x.l, from, 10, math.MaxInt, api.ErrArg},
		{"far too few buffers", x.d, x.l, from, 10, math.MinInt, api.ErrArg},
	} {
		x.unchanged(t, func() {
			if p, e := pool.New(c.d, c.l, c.from, c.pages, c.buffers); p != nil || e != c.want {
				t.Errorf("%s: %v, %v, want %v", c.name, p, e, c.want)
			}
		})
	}
}

func TestNewTakesTheLimits(t *testing.T) {
	x := newSet(t, 80, 1)
	sectors := x.d.Sectors()
	for _, c := range []struct{ from, pages, buffers int }{
		{from, 1, 1}, {from, 80, api.MaxBuffers}, {from, sectors - from, 1}, {sectors - 1, 1, api.MaxBuffers}, {0, sectors, 3},
	} {
		x.unchanged(t, func() {
			p, e := pool.New(x.d, x.l, c.from, c.pages, c.buffers)
			if p == nil || e != api.OK {
				t.Fatalf("%v: %v", c, e)
			}
			if len(p.Held()) != 0 || len(p.Table()) != 0 {
				t.Errorf("%v: a new one holds %v, %v", c, p.Held(), p.Table())
			}
			if _, _, e := p.Get(c.pages - 1); e != api.OK {
				t.Errorf("%v: the last page: %v", c, e)
			}
			if _, _, e := p.Get(c.pages); e != api.ErrArg {
				t.Errorf("%v: the page behind the last one: %v", c, e)
			}
		})
	}
}

func TestSoManyPagesAreHeld(t *testing.T) {
	for _, buffers := range []int{1, 2, 5, api.MaxBuffers} {
		x := newSet(t, 70, buffers)
		for n := range 70 {
			x.get(t, n)
			if want := min(n+1, buffers); len(x.p.Held()) != want {
				t.Fatalf("%d buffers: %d pages are held, want %d", buffers, len(x.p.Held()), want)
			}
		}
	}
}

func TestAPageIsTheSectorBehindFrom(t *testing.T) {
	x := newSet(t, 10, 3)
	for n := range 10 {
		x.write(t, n, sectorOf(n+1, load(n)))
	}
	for n := range 10 {
		x.wantPage(t, n, n+1, load(n))
	}
	x.records(t, 20)
	x.force(t)
	for n := range 10 {
		x.put(t, n, n+5)
		if e := x.p.Flush(n); e != api.OK {
			t.Fatal(e)
		}
		if b, e := x.d.Read(from + n); e != api.OK || !bytes.Equal(b, sectorOf(n+5, load(n+5))) {
			t.Errorf("the sector of page %d: %x, %v", n, b, e)
		}
	}
}

// P5.2

func TestWhatIsUsedLast(t *testing.T) {
	x := newSet(t, 10, 4)
	x.records(t, 5)
	x.get(t, 1, 2, 3)
	x.wantHeld(t, 1, 2, 3)
	x.get(t, 1)
	x.wantHeld(t, 2, 3, 1)
	x.put(t, 3, 1)
	x.wantHeld(t, 2, 1, 3)
	x.pin(t, 2)
	x.wantHeld(t, 1, 3, 2)
	x.put(t, 9, 2)
	x.wantHeld(t, 1, 3, 2, 9)
	x.pin(t, 2)
	x.wantHeld(t, 1, 3, 9, 2)
	x.unpin(t, 2, 2)
	x.p.Flush(1)
	x.p.Flush(3)
	x.p.Flush(7)
	x.p.All()
	x.p.Table()
	x.wantHeld(t, 1, 3, 9, 2)
	x.pin(t, 7)
	x.wantHeld(t, 3, 9, 2, 7)
	x.put(t, 8, 3)
	x.wantHeld(t, 9, 2, 7, 8)
}

func TestTheOneUsedLongestAgoGoes(t *testing.T) {
	x := newSet(t, 10, 3)
	x.get(t, 0, 1)
	for _, c := range []struct{ page, first, second, third int }{
		{2, 0, 1, 2}, {0, 1, 2, 0}, {5, 2, 0, 5}, {2, 0, 5, 2}, {1, 5, 2, 1}, {0, 2, 1, 0},
	} {
		x.get(t, c.page)
		x.wantHeld(t, c.first, c.second, c.third)
	}
}

func TestOneBuffer(t *testing.T) {
	x := newSet(t, 4, 1)
	x.records(t, 9)
	for lsn := 1; lsn < 9; lsn++ {
		x.put(t, lsn%4, lsn)
		x.wantHeld(t, lsn%4)
		x.wantTable(t, lsn%4, lsn)
	}
	for n, lsn := range []int{8, 5, 6, 7} {
		x.wantPage(t, n, lsn, load(lsn))
	}
}

func TestPinnedPagesStay(t *testing.T) {
	x := newSet(t, 10, 3)
	x.pin(t, 0, 1)
	x.get(t, 2, 3, 4, 5)
	x.wantHeld(t, 0, 1, 5)
	x.unpin(t, 1)
	x.get(t, 6)
	x.wantHeld(t, 0, 5, 6)
	x.pin(t, 0, 5, 6)
	for _, call := range []func() api.Errno{
		func() api.Errno { _, _, e := x.p.Get(7); return e },
		func() api.Errno { return x.p.Put(7, 1, load(1)) },
		func() api.Errno { return x.p.Pin(7) },
	} {
		x.unchanged(t, func() {
			if e := call(); e != api.ErrPinned {
				t.Errorf("all are pinned: %v", e)
			}
		})
	}
	x.get(t, 5, 0)
	x.wantHeld(t, 6, 5, 0)
	x.unpin(t, 0) // it is pinned twice
	if _, _, e := x.p.Get(7); e != api.ErrPinned {
		t.Errorf("one that is pinned twice went: %v", e)
	}
	x.unpin(t, 0)
	x.get(t, 7)
	x.wantHeld(t, 6, 5, 7)
}

func TestPinnedPagesAreNoHindranceWhileBuffersAreLeft(t *testing.T) {
	x := newSet(t, 10, 3)
	x.pin(t, 0, 1)
	x.get(t, 2)
	x.pin(t, 2)
	x.wantHeld(t, 0, 1, 2)
}

// TestWhatBringingInTells: a sector that is no page's is told, and no other page goes for it.
func TestWhatBringingInTells(t *testing.T) {
	for _, c := range []struct {
		name   string
		sector []byte
		want   api.Errno
	}{
		{"noise", noise(1, api.Size), api.ErrSum},
		{"a turned byte", append(sectorOf(3, load(3))[:127], 0), api.ErrSum},
		{"a lsn that can't be", sectorOf(-1, load(3)), api.ErrForm},
	} {
		x := newSet(t, 10, 2)
		x.records(t, 3)
		x.write(t, 5, c.sector)
		for range 2 {
			for _, call := range []func() api.Errno{
				func() api.Errno {
					b, lsn, e := x.p.Get(5)
					if len(b) > 0 || lsn != 0 {
						t.Errorf("%s: Get tells %x, %d", c.name, b, lsn)
					}
					return e
				},
				func() api.Errno { return x.p.Put(5, 1, load(1)) },
				func() api.Errno { return x.p.Pin(5) },
			} {
				x.unchanged(t, func() {
					if e := call(); e != c.want {
						t.Errorf("%s: %v, want %v", c.name, e, c.want)
					}
				})
			}
			x.put(t, 0, 2) // then the same of a pool without a free buffer
			x.put(t, 1, 3)
		}
		x.pin(t, 0, 1)
		x.unchanged(t, func() {
			if _, _, e := x.p.Get(5); e != api.ErrPinned {
				t.Errorf("%s, all are pinned: %v", c.name, e)
			}
		})
	}
}

func TestAPageThatIsHeldIsNotReadAgain(t *testing.T) {
	x := newSet(t, 10, 2)
	x.write(t, 5, sectorOf(3, load(3)))
	x.get(t, 5)
	x.write(t, 5, noise(1, api.Size))
	x.wantPage(t, 5, 3, load(3))
	x.pin(t, 5)
	x.put(t, 5, 1)
	x.wantPage(t, 5, 1, load(1))
}

func TestADirtyPageThatGoesIsWritten(t *testing.T) {
	x := newSet(t, 10, 2)
	x.records(t, 4)
	x.put(t, 3, 2)
	x.get(t, 1)
	x.wantForced(t, 0)
	x.wantPending(t)
	x.get(t, 2)
	x.wantHeld(t, 1, 2)
	x.wantTable(t)
	x.wantForced(t, 4)
	x.wantPending(t, 3, 2) // behind the log's sectors, which are durable
	x.wantPage(t, 3, 2, load(2))
	x.records(t, 1)
	x.get(t, 4, 5, 6) // none of these goes dirty
	x.wantForced(t, 4)
	x.wantPending(t, 3, 2)
	x.put(t, 6, 3)
	x.put(t, 7, 4)
	x.get(t, 8)
	x.wantForced(t, 4) // page 6's record was forced ahead
	x.wantPending(t, 3, 2, 6, 3)
	x.wantTable(t, 7, 4)
}

// P5.3

func TestWrongArguments(t *testing.T) {
	x := newSet(t, 10, 2)
	x.records(t, 4)
	x.put(t, 1, 1)
	x.get(t, 2)
	for _, n := range []int{-1, 10, 11, math.MinInt, math.MaxInt} {
		x.unchanged(t, func() {
			if b, lsn, e := x.p.Get(n); len(b) > 0 || lsn != 0 || e != api.ErrArg {
				t.Errorf("Get(%d): %x, %d, %v", n, b, lsn, e)
			}
			for name, e := range map[string]api.Errno{
				"Put": x.p.Put(n, 1, load(1)), "Pin": x.p.Pin(n), "Unpin": x.p.Unpin(n), "Flush": x.p.Flush(n),
			} {
				if e != api.ErrArg {
					t.Errorf("%s(%d): %v", name, n, e)
				}
			}
		})
	}
	for _, lsn := range []int{0, -1, greatest + 1, math.MinInt, math.MaxInt} {
		x.unchanged(t, func() {
			if e := x.p.Put(3, lsn, load(1)); e != api.ErrArg {
				t.Errorf("lsn %d: %v", lsn, e)
			}
		})
	}
	for _, size := range []int{0, 1, api.Load - 1, api.Load + 1, api.Size, 1 << 16} {
		x.unchanged(t, func() {
			if e := x.p.Put(3, 1, make([]byte, size)); e != api.ErrArg {
				t.Errorf("a load of %d bytes: %v", size, e)
			}
		})
	}
	x.unchanged(t, func() {
		if e := x.p.Put(3, 1, nil); e != api.ErrArg {
			t.Errorf("no load: %v", e)
		}
	})
}

// TestArgumentsAheadOfBringingIn: all buffers are pinned, and the page is none, but the arguments are told.
func TestArgumentsAheadOfBringingIn(t *testing.T) {
	x := newSet(t, 10, 1)
	x.pin(t, 1)
	if x.p.Put(3, 0, load(1)) != api.ErrArg || x.p.Put(3, 1, nil) != api.ErrArg || x.p.Put(10, 1, load(1)) != api.ErrArg || x.p.Pin(10) != api.ErrArg {
		t.Error("a wrong argument, all are pinned")
	}
}

func TestNewPagesAreNoughts(t *testing.T) {
	x := newSet(t, 10, 2)
	for n := range 10 {
		x.wantPage(t, n, 0, make([]byte, api.Load))
	}
}

func TestPutIsTold(t *testing.T) {
	x := newSet(t, 10, 3)
	for i, lsn := range []int{1, 2, 7, 3, greatest, 1} { // a lower one too
		if e := x.p.Put(4, lsn, load(i)); e != api.OK {
			t.Fatalf("lsn %d: %v", lsn, e)
		}
		x.wantPage(t, 4, lsn, load(i))
		x.wantTable(t, 4, 1)
		x.wantHeld(t, 4)
	}
	if len(x.d.Pending()) != 0 {
		t.Error("Put wrote something")
	}
}

func TestNoughtsWithARecord(t *testing.T) {
	x := newSet(t, 10, 1)
	x.records(t, 1)
	blank := make([]byte, api.Load)
	if x.p.Put(4, 1, blank) != api.OK || x.p.Flush(4) != api.OK {
		t.Fatal("Put of noughts")
	}
	x.get(t, 5)
	x.wantPage(t, 4, 1, blank)
}

func TestTheFirstRecordOfADirtyPage(t *testing.T) {
	x := newSet(t, 10, 3)
	x.records(t, 20)
	x.put(t, 4, 5)
	x.put(t, 4, 7)
	x.put(t, 4, 3)
	x.wantTable(t, 4, 5)
	x.p.Flush(4)
	x.wantTable(t)
	x.get(t, 4)
	x.wantTable(t)
	x.put(t, 4, 6)
	x.put(t, 4, 9)
	x.wantTable(t, 4, 6)
	x.p.All()
	x.wantTable(t)
	x.put(t, 4, 8)
	x.wantTable(t, 4, 8)
	x.get(t, 1, 2, 3) // it goes
	x.put(t, 4, 11)
	x.put(t, 4, 12)
	x.wantTable(t, 4, 11)
}

// P5.4

func TestPinsAreCounted(t *testing.T) {
	x := newSet(t, 10, 1)
	for range 100 {
		x.pin(t, 4)
	}
	for range 3 {
		x.unchanged(t, func() {
			if e := x.p.Pin(4); e != api.ErrState {
				t.Errorf("the 101st Pin: %v", e)
			}
		})
	}
	x.unpin(t, 4)
	x.pin(t, 4)
	if e := x.p.Pin(4); e != api.ErrState {
		t.Errorf("the 101st Pin, again: %v", e)
	}
	for range 100 {
		if _, _, e := x.p.Get(5); e != api.ErrPinned {
			t.Fatalf("it is pinned: %v", e)
		}
		x.unpin(t, 4)
	}
	x.unchanged(t, func() {
		if e := x.p.Unpin(4); e != api.ErrState {
			t.Errorf("Unpin of one that is not pinned any more: %v", e)
		}
	})
	x.get(t, 5)
	x.wantHeld(t, 5)
}

func TestUnpinOfWhatIsNotPinned(t *testing.T) {
	x := newSet(t, 10, 3)
	x.pin(t, 1)
	x.get(t, 2)
	for _, n := range []int{2, 3} { // one that is held, one that is not
		x.unchanged(t, func() {
			if e := x.p.Unpin(n); e != api.ErrState {
				t.Errorf("Unpin(%d): %v", n, e)
			}
		})
	}
	x.unpin(t, 1)
	if e := x.p.Unpin(1); e != api.ErrState {
		t.Errorf("Unpin, once more than Pin: %v", e)
	}
}

func TestPinsOfAPageThatWentAndCameBack(t *testing.T) {
	x := newSet(t, 10, 1)
	x.pin(t, 1)
	x.unpin(t, 1)
	x.get(t, 2, 1)
	if e := x.p.Unpin(1); e != api.ErrState {
		t.Errorf("Unpin: %v", e)
	}
	x.pin(t, 1)
	x.unpin(t, 1)
	x.get(t, 2)
}

// P5.5

func TestFlushForcesTheLogFirst(t *testing.T) {
	x := newSet(t, 10, 3)
	x.records(t, 4)
	x.force(t)
	x.records(t, 2)
	x.d.Write(from+10, noise(1, api.Size)) // pending, until the log is forced
	x.put(t, 3, 5)
	if e := x.p.Flush(3); e != api.OK {
		t.Fatal(e)
	}
	x.wantForced(t, 6)
	x.wantTable(t)
	x.wantHeld(t, 3)
	x.wantPending(t, 3, 5)
}

func TestFlushOfARecordThatIsForced(t *testing.T) {
	for lsn := 1; lsn <= 4; lsn++ {
		x := newSet(t, 10, 3)
		x.records(t, 4)
		x.force(t)
		x.records(t, 2)
		x.put(t, 3, lsn)
		for range 2 { // once more: it is not dirty
			if e := x.p.Flush(3); e != api.OK {
				t.Fatal(e)
			}
			x.wantForced(t, 4)
			x.wantTable(t)
			x.wantPending(t, 3, lsn)
		}
	}
}

func TestFlushWithoutNeed(t *testing.T) {
	x := newSet(t, 10, 3)
	x.records(t, 2)
	x.get(t, 1)
	x.put(t, 2, 1)
	x.get(t, 1)
	x.d.Write(from+10, noise(1, api.Size))
	x.unchanged(t, func() {
		if x.p.Flush(1) != api.OK || x.p.Flush(5) != api.OK {
			t.Error("Flush of a page that is not dirty, or not held")
		}
	})
}

func TestFlushTakesTheLoadAsItIs(t *testing.T) {
	x := newSet(t, 10, 3)
	x.records(t, 5)
	x.put(t, 2, 1)
	x.put(t, 2, 4)
	x.p.Flush(2)
	x.wantPending(t, 2, 4)
	x.put(t, 2, 2)
	x.p.Flush(2)
	x.wantPending(t, 2, 4, 2, 2)
}

func TestFlushOfPinnedPages(t *testing.T) {
	x := newSet(t, 10, 1)
	x.records(t, 5)
	x.put(t, 2, 1)
	x.pin(t, 2)
	x.p.Flush(2)
	x.wantPending(t, 2, 1)
	x.put(t, 2, 2)
	x.p.All()
	x.wantTable(t)
	if b, _ := x.d.Read(from + 2); !bytes.Equal(b, sectorOf(2, load(2))) {
		t.Errorf("the pinned page's sector is %x", b)
	}
}

func TestAllWritesWhatIsDirty(t *testing.T) {
	x := newSet(t, 10, 5)
	x.records(t, 6)
	x.force(t)
	x.records(t, 2)
	for _, n := range []int{7, 2, 9} {
		x.put(t, n, n-1) // of these only page 9's is to be forced
	}
	x.get(t, 4, 5)
	x.write(t, 4, noise(4, api.Size)) // so that it could be told, if these were written
	x.write(t, 5, noise(5, api.Size))
	x.d.Write(from+10, noise(1, api.Size))
	if e := x.p.All(); e != api.OK {
		t.Fatal(e)
	}
	x.wantForced(t, 8)
	x.wantTable(t)
	x.wantHeld(t, 7, 2, 9, 4, 5)
	x.wantPending(t)
	image := x.d.Image()
	for n, want := range map[int][]byte{2: sectorOf(1, load(1)), 7: sectorOf(6, load(6)), 9: sectorOf(8, load(8)), 4: noise(4, api.Size), 5: noise(5, api.Size), 10: noise(1, api.Size)} {
		if !bytes.Equal(image[from+n], want) {
			t.Errorf("the sector of page %d is %x, want %x", n, image[from+n], want)
		}
	}
}

func TestAllFlushesTheDiskInAnyCase(t *testing.T) {
	x := newSet(t, 10, 5)
	x.records(t, 2)
	for range 2 {
		x.d.Write(from+10, noise(1, api.Size))
		if e := x.p.All(); e != api.OK {
			t.Fatal(e)
		}
		x.wantPending(t)
		x.wantForced(t, 0)
		x.get(t, 1)
	}
}

func TestAllForcesOnlyWhereItMust(t *testing.T) {
	x := newSet(t, 10, 5)
	x.records(t, 3)
	x.force(t)
	x.records(t, 1)
	x.put(t, 3, 3)
	x.p.All()
	x.wantForced(t, 3)
	x.put(t, 3, 4)
	x.p.All()
	x.wantForced(t, 4)
}

// P5.6

func TestTheTableIsByNumbers(t *testing.T) {
	x := newSet(t, 70, api.MaxBuffers)
	x.records(t, 100)
	var want []int
	for n := range api.MaxBuffers {
		x.put(t, n*37%64, n+1)
	}
	for n := range api.MaxBuffers {
		for first := range api.MaxBuffers {
			if first*37%64 == n {
				want = append(want, n, first+1)
			}
		}
	}
	x.wantTable(t, want...)
	x.get(t, 65) // page 0 was used longest ago
	x.wantTable(t, want[2:]...)
	x.p.Flush(30)
	x.wantTable(t, slices.Concat(want[2:60], want[62:])...)
}

func TestHeldOfAll(t *testing.T) {
	x := newSet(t, 70, api.MaxBuffers)
	x.wantHeld(t)
	var want []int
	for n := 69; n >= 0; n-- {
		x.get(t, n)
		want = append(want, n)
	}
	x.wantHeld(t, want[6:]...)
}
