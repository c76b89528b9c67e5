package log_test

import (
	"math/rand"
	"testing"

	"rostrum/api"
	"rostrum/disk"
	"rostrum/log"
)

// P3.5

func TestForcedRecordsStay(t *testing.T) {
	for mask := range uint64(8) {
		d := diskOf(t, blank(8))
		l, _ := open(t, d, 2, 4)
		recs := [][]byte{noise(1, 90), noise(2, 150), []byte("last")}
		for i := range recs {
			add(t, l, recs[i])
			force(t, l)
			add(t, l, []byte("lost")) // its number is the next record's too: it is never forced
			for _, other := range []int{0, 7, 1} {
				d.Write(other, noise(int64(i), api.Size))
			}
			var keep []int
			for place := range 3 {
				if mask>>place&1 == 1 {
					keep = append(keep, place)
				}
			}
			if e := d.Crash(keep); e != api.OK {
				t.Fatal(e)
			}
			var got [][]byte
			l, got = open(t, d, 2, 4)
			wantRecords(t, got, recs[:i+1]...)
			wantNumbers(t, l, 1, i+1, i+1, 4*api.Load-len(texts(recs[:i+1]...)))
		}
	}
}

// P3.6

// TestCaughtWithinForce tries each choice of the writes that stay, for old records that end at each place of a sector.
func TestCaughtWithinForce(t *testing.T) {
	for old := 1; old < 230; old++ {
		before := diskOf(t, blank(6))
		l, _ := open(t, before, 0, 6)
		recs := [][]byte{noise(1, old)}
		add(t, l, recs...)
		force(t, l)
		after := before.Copy()
		l, _ = open(t, after, 0, 6)
		recs = append(recs, noise(2, 60), noise(3, 70), noise(4, 180))
		add(t, l, recs[1:]...)
		force(t, l)
		a, b := before.Image(), after.Image()
		count := len(written(a, b))
		for mask := range uint64(1) << count {
			d := caught(t, a, b, mask)
			m, got := open(t, d, 0, 6)
			if len(got) < 1 || len(got) > len(recs) || mask == 1<<count-1 && len(got) != len(recs) {
				t.Fatalf("old %d, mask %b: %d records", old, mask, len(got))
			}
			wantRecords(t, got, recs[:len(got)]...)
			goesOn(t, d, m, got)
		}
	}
}

// goesOn appends to a log behind a crash: what the crash left must not come up behind it.
func goesOn(t *testing.T, d *disk.Disk, l *log.Log, recs [][]byte) {
	t.Helper()
	more := noise(7, 1+len(recs)*20)
	add(t, l, more)
	force(t, l)
	_, got := open(t, d, 0, 6)
	wantRecords(t, got, append(recs, more)...)
}

func TestABeginningBehindFullSectors(t *testing.T) {
	// The old records fill two sectors, the new ones three: the first of the three may be the one that is lost.
	before := diskOf(t, blank(6))
	l, _ := open(t, before, 0, 6)
	old := [][]byte{noise(1, 111), noise(2, 111)}
	add(t, l, old...)
	force(t, l)
	after := before.Copy()
	l, _ = open(t, after, 0, 6)
	recs := append(old, noise(3, 111), noise(4, 111), noise(5, 111))
	add(t, l, recs[2:]...)
	force(t, l)
	for mask, want := range []int{2, 3, 2, 4, 2, 3, 2, 5} {
		d := caught(t, before.Image(), after.Image(), uint64(mask))
		m, got := open(t, d, 0, 6)
		wantRecords(t, got, recs[:want]...)
		if want < 5 {
			goesOn(t, d, m, got)
		}
	}
}

// P3.7

func TestCaughtWithinReset(t *testing.T) {
	before := diskOf(t, blank(4))
	l, _ := open(t, before, 0, 4)
	recs := [][]byte{noise(1, 100), noise(2, 200)}
	add(t, l, recs...)
	force(t, l)
	after := before.Copy()
	l, _ = open(t, after, 0, 4)
	reset(t, l)
	if n := len(written(before.Image(), after.Image())); n != 1 {
		t.Fatalf("%d sectors are written", n)
	}
	l, got := open(t, caught(t, before.Image(), after.Image(), 0), 0, 4)
	wantRecords(t, got, recs...)
	wantNumbers(t, l, 1, 2, 2, 4*api.Load-303)
	l, got = open(t, caught(t, before.Image(), after.Image(), 1), 0, 4)
	wantRecords(t, got)
	wantNumbers(t, l, 3, 2, 2, 4*api.Load)
}

// TestOldRecordsStayGone has new records be caught over old ones of the same lengths, whose sectors would fit behind the new ones but for the number.
func TestOldRecordsStayGone(t *testing.T) {
	for size := 1; size < 230; size++ {
		old := diskOf(t, blank(5))
		l, _ := open(t, old, 0, 5)
		add(t, l, noise(1, size), noise(2, size))
		force(t, l)
		reset(t, l)
		before := old.Image()
		recs := [][]byte{noise(3, size), noise(4, size)}
		add(t, l, recs...)
		force(t, l)
		count := len(written(before, old.Image()))
		for mask := range uint64(1) << count {
			m, got := open(t, caught(t, before, old.Image(), mask), 0, 5)
			if len(got) > 2 || m.First() != 3 {
				t.Fatalf("size %d, mask %b: %d records from %d on", size, mask, len(got), m.First())
			}
			wantRecords(t, got, recs[:len(got)]...)
		}
	}
}

// life is a log that is used in any way, and what it must have.
type life struct {
	d      *disk.Disk
	l      *log.Log
	first  int
	recs   [][]byte
	forced int // how many of the records
}

const (
	lifeFrom    = 1
	lifeSectors = 7
)

func (x *life) check(t *testing.T) {
	t.Helper()
	last := x.first + len(x.recs) - 1
	wantNumbers(t, x.l, x.first, last, x.first+x.forced-1, lifeSectors*api.Load-len(texts(x.recs...)))
}

func (x *life) reopen(t *testing.T) [][]byte {
	t.Helper()
	var got [][]byte
	x.l, got = open(t, x.d, lifeFrom, lifeSectors)
	return got
}

func (x *life) append(t *testing.T, random *rand.Rand) {
	t.Helper()
	rec := noise(random.Int63(), 1+random.Intn(1+random.Intn(300)))
	n, e := x.l.Append(rec)
	if len(text(rec)) > lifeSectors*api.Load-len(texts(x.recs...)) {
		if n != 0 || e != api.ErrFull {
			t.Fatalf("a full log: %d, %v", n, e)
		}
		return
	}
	if n != x.first+len(x.recs) || e != api.OK {
		t.Fatalf("Append: %d, %v", n, e)
	}
	x.recs = append(x.recs, rec)
}

// caughtIn does a call that a crash catches, with any of its writes and of one that was pending.
func (x *life) caughtIn(t *testing.T, random *rand.Rand, call func()) [][]byte {
	t.Helper()
	before := x.d.Image()
	x.d.Write(0, noise(random.Int63(), api.Size))
	call()
	x.d = caught(t, before, x.d.Image(), random.Uint64())
	return x.reopen(t)
}

func (x *life) step(t *testing.T, random *rand.Rand) {
	t.Helper()
	switch random.Intn(12) {
	case 0, 1:
		force(t, x.l)
		x.forced = len(x.recs)
	case 2:
		reset(t, x.l)
		x.first, x.recs, x.forced = x.first+len(x.recs), nil, 0
	case 3:
		got := x.caughtIn(t, random, func() { force(t, x.l) })
		if len(got) < x.forced || len(got) > len(x.recs) {
			t.Fatalf("%d records of %d, %d forced", len(got), len(x.recs), x.forced)
		}
		wantRecords(t, got, x.recs[:len(got)]...)
		x.recs, x.forced = got, len(got)
	case 4:
		x.recs = x.recs[:x.forced]
		if got := x.caughtIn(t, random, func() { x.reopen(t); reset(t, x.l) }); len(got) == 0 {
			x.first, x.recs, x.forced = x.first+len(x.recs), nil, 0
		} else {
			wantRecords(t, got, x.recs...)
		}
	case 5:
		x.recs = x.recs[:x.forced]
		wantRecords(t, x.reopen(t), x.recs...)
	default:
		x.append(t, random)
	}
	x.check(t)
}

func TestAnyLife(t *testing.T) {
	for seed := range int64(60) {
		random := rand.New(rand.NewSource(seed))
		x := &life{d: diskOf(t, blank(lifeFrom+lifeSectors+1)), first: 1}
		wantRecords(t, x.reopen(t))
		for range 400 {
			x.step(t, random)
		}
	}
}
