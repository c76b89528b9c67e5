package log_test

import (
	"bytes"
	"math"
	"slices"
	"testing"

	"rostrum/api"
	"rostrum/disk"
	"rostrum/log"
)

// P3.2

func TestAppendNumbersRecords(t *testing.T) {
	image := blank(4)
	d := diskOf(t, image)
	l, _ := open(t, d, 0, 4)
	room := 4 * api.Load
	for i, rec := range [][]byte{[]byte("a"), noise(1, 127), noise(2, 128), []byte("bc")} {
		if n, e := l.Append(rec); n != i+1 || e != api.OK {
			t.Fatalf("record %d: %d, %v", i, n, e)
		}
		room -= len(text(rec))
		wantNumbers(t, l, 1, i+1, 0, room)
	}
	wantImage(t, d, image)
	if len(d.Pending()) != 0 {
		t.Error("something was written")
	}
}

func TestAppendRefuses(t *testing.T) {
	d := diskOf(t, blank(40))
	l, _ := open(t, d, 0, 20)
	full, _ := open(t, d, 20, 1)
	add(t, full, noise(1, 111))
	for _, c := range []struct {
		name string
		l    *log.Log
		n    int
		want api.Errno
	}{
		{"nothing", l, 0, api.ErrArg},
		{"one byte too many", l, api.MaxRecord + 1, api.ErrLong},
		{"far too many", l, 1 << 20, api.ErrLong},
		{"nothing, of a full one", full, 0, api.ErrArg},
		{"too many, of a full one", full, api.MaxRecord + 1, api.ErrLong},
		{"one byte, of a full one", full, 1, api.ErrFull},
		{"the most, of a full one", full, api.MaxRecord, api.ErrFull},
	} {
		first, last, forced, room := c.l.First(), c.l.Last(), c.l.Forced(), c.l.Room()
		if n, e := c.l.Append(make([]byte, c.n)); n != 0 || e != c.want {
			t.Errorf("%s: %d, %v, want %v", c.name, n, e, c.want)
		}
		wantNumbers(t, c.l, first, last, forced, room)
	}
	if n, e := l.Append(nil); n != 0 || e != api.ErrArg {
		t.Errorf("nil: %d, %v", n, e)
	}
	add(t, l, noise(2, api.MaxRecord))
	force(t, l)
	_, recs := open(t, d, 0, 20)
	wantRecords(t, recs, noise(2, api.MaxRecord))
}

func TestAppendUpToTheLastByte(t *testing.T) {
	for sectors := 1; sectors < 4; sectors++ {
		for short := range 4 {
			d := diskOf(t, blank(sectors))
			l, _ := open(t, d, 0, sectors)
			size := sectors*api.Load - short
			first := noise(1, 50)
			second := noise(2, size-51-1)
			if len(second) >= 128 {
				second = second[1:]
			}
			add(t, l, first, second)
			wantNumbers(t, l, 1, 2, 0, short)
			want := [][]byte{first, second}
			if n, e := l.Append(make([]byte, short+1)); n != 0 || e != api.ErrFull {
				t.Errorf("%d bytes of room: %d, %v", short, n, e)
			}
			if short > 0 {
				if n, e := l.Append(make([]byte, short)); n != 0 || e != api.ErrFull {
					t.Errorf("%d bytes of room, and a length: %d, %v", short, n, e)
				}
			}
			if short > 1 {
				add(t, l, make([]byte, short-1))
				want = append(want, make([]byte, short-1))
				wantNumbers(t, l, 1, 3, 0, 0)
			}
			force(t, l)
			l, recs := open(t, d, 0, sectors)
			wantRecords(t, recs, want...)
			wantNumbers(t, l, 1, len(want), len(want), sectors*api.Load-len(texts(want...)))
		}
	}
}

func TestRoomIsTheSameWhetherForcedOrOpenedAnew(t *testing.T) {
	d := diskOf(t, blank(5))
	l, _ := open(t, d, 0, 5)
	room := 5 * api.Load
	for i, n := range []int{110, 1, 111, 60, 50, 1, 1, 126} {
		add(t, l, noise(int64(i), n))
		room -= len(text(noise(0, n)))
		wantNumbers(t, l, 1, i+1, i, room)
		force(t, l)
		wantNumbers(t, l, 1, i+1, i+1, room)
		m, recs := open(t, d.Copy(), 0, 5)
		wantNumbers(t, m, 1, i+1, i+1, room)
		if len(recs) != i+1 {
			t.Fatalf("%d records, want %d", len(recs), i+1)
		}
	}
}

func TestNumbersEnd(t *testing.T) {
	d := diskOf(t, imageOf(2, greatest-1, nil))
	l, _ := open(t, d, 0, 2)
	add(t, l, []byte("a"), []byte("b"))
	if n, e := l.Append([]byte("c")); n != 0 || e != api.ErrFull {
		t.Errorf("Append behind 2^62: %d, %v", n, e)
	}
	if n, e := l.Append(nil); n != 0 || e != api.ErrArg {
		t.Errorf("an empty one behind 2^62: %d, %v", n, e)
	}
	force(t, l)
	if e := l.Reset(); e != api.ErrFull {
		t.Errorf("Reset behind 2^62: %v", e)
	}
	wantNumbers(t, l, greatest-1, greatest, greatest, 2*api.Load-4)
	wantImage(t, d, imageOf(2, greatest-1, texts([]byte("a"), []byte("b"))))

	beyond := imageOf(2, greatest, texts([]byte("a"), []byte("b")))
	d = diskOf(t, beyond)
	l, recs := open(t, d, 0, 2)
	wantRecords(t, recs, []byte("a"), []byte("b"))
	if n, e := l.Append([]byte("c")); n != 0 || e != api.ErrFull || l.Reset() != api.ErrFull {
		t.Errorf("beyond 2^62: %d, %v", n, e)
	}
	wantNumbers(t, l, greatest, greatest+1, greatest+1, 2*api.Load-4)
	wantImage(t, d, beyond)
}

func TestTheLastNumberIsAllowed(t *testing.T) {
	d := diskOf(t, imageOf(2, greatest-1, nil))
	l, _ := open(t, d, 0, 2)
	add(t, l, []byte("a"))
	reset(t, l)
	wantNumbers(t, l, greatest, greatest-1, greatest-1, 2*api.Load)
	add(t, l, []byte("b"))
	force(t, l)
	l, recs := open(t, d, 0, 2)
	wantRecords(t, recs, []byte("b"))
	wantNumbers(t, l, greatest, greatest, greatest, 2*api.Load-2)
}

// P3.3

// TestForceWritesWhereNewRecordsAre spoils all sectors of the log, so that each one that is written can be told.
func TestForceWritesWhereNewRecordsAre(t *testing.T) {
	for _, c := range []struct {
		old, new []int // bytes of records that are forced, and not yet
		want     []int
	}{
		{nil, []int{1}, []int{0}},
		{[]int{1}, []int{1}, []int{0}},
		{nil, []int{111}, []int{0}},
		{nil, []int{112}, []int{0, 1}},
		{[]int{111}, []int{1}, []int{1}},
		{[]int{110}, []int{1}, []int{0, 1}},
		{[]int{109}, []int{1}, []int{0}},
		{[]int{109}, []int{1, 1}, []int{0, 1}},
		{[]int{100, 100}, []int{100, 100}, []int{1, 2, 3}},
		{[]int{200}, []int{19, 1}, []int{1}},
		{[]int{200}, []int{21, 1}, []int{1, 2}},
		{[]int{222}, []int{330}, []int{2, 3, 4}},
	} {
		d := diskOf(t, blank(6))
		l, _ := open(t, d, 0, 5)
		var recs [][]byte
		for i, n := range c.old {
			recs = append(recs, noise(int64(i), n))
		}
		add(t, l, recs...)
		force(t, l)
		for i, n := range c.new {
			recs = append(recs, noise(int64(i)+50, n))
		}
		add(t, l, recs[len(c.old):]...)
		spoilt := make([][]byte, 6)
		for i := range spoilt {
			spoilt[i] = noise(int64(i), api.Size)
			d.Write(i, spoilt[i])
		}
		force(t, l)
		if len(d.Pending()) != 0 {
			t.Error("it was not flushed")
		}
		image := d.Image()
		if got := written(spoilt, image); !slices.Equal(got, c.want) {
			t.Errorf("behind %v, %v: the sectors %v are written, want %v", c.old, c.new, got, c.want)
		}
		for _, i := range c.want {
			if want := imageOf(6, 1, texts(recs...))[i]; !bytes.Equal(image[i], want) {
				t.Errorf("behind %v, %v: sector %d is %x, want %x", c.old, c.new, i, image[i], want)
			}
		}
	}
}

func TestForceWithoutNewRecordsDoesNothing(t *testing.T) {
	d := diskOf(t, blank(4))
	l, _ := open(t, d, 0, 3)
	for range 3 {
		before := d.Image()
		d.Write(3, noise(1, api.Size))
		force(t, l)
		if len(d.Pending()) != 1 {
			t.Error("it was flushed")
		}
		d.Crash(nil)
		wantImage(t, d, before)
		if l.Last() == 0 {
			add(t, l, noise(2, 130))
		} else {
			reset(t, l)
		}
		force(t, l)
	}
	l, _ = open(t, d, 0, 3)
	d.Write(3, noise(1, api.Size))
	force(t, l)
	if len(d.Pending()) != 1 {
		t.Error("behind Open it was flushed")
	}
}

// P3.4

func TestResetBeginsAnew(t *testing.T) {
	d := diskOf(t, blank(4))
	l, _ := open(t, d, 0, 3)
	add(t, l, noise(1, 100), noise(2, 100))
	force(t, l)
	add(t, l, []byte("never forced"))
	old := d.Image()
	d.Write(3, noise(4, api.Size))
	reset(t, l)
	wantNumbers(t, l, 4, 3, 3, 3*api.Load)
	old[0], old[3] = sectorOf(0, 4, nil), noise(4, api.Size)
	wantImage(t, d, old)
	if len(d.Pending()) != 0 {
		t.Error("it was not flushed")
	}
	add(t, l, []byte("new"))
	force(t, l)
	old[0] = sectorOf(0, 4, text([]byte("new")))
	wantImage(t, d, old)
	l, recs := open(t, d, 0, 3)
	wantRecords(t, recs, []byte("new"))
	wantNumbers(t, l, 4, 4, 4, 3*api.Load-4)
}

func TestResetOfAnEmptyLogWritesToo(t *testing.T) {
	d := diskOf(t, blank(2))
	l, _ := open(t, d, 0, 1)
	for range 2 {
		d.Write(1, noise(1, api.Size))
		reset(t, l)
		wantNumbers(t, l, 1, 0, 0, api.Load)
		wantImage(t, d, [][]byte{sectorOf(0, 1, nil), noise(1, api.Size)})
	}
	l, recs := open(t, d, 0, 1)
	wantRecords(t, recs)
	wantNumbers(t, l, 1, 0, 0, api.Load)
}

func TestALogIsUsedAgainAndAgain(t *testing.T) {
	d := diskOf(t, blank(3))
	l, _ := open(t, d, 0, 3)
	last := 0
	for round := range 50 {
		recs := [][]byte{noise(int64(round), 100), noise(int64(round), 1+round*4)}
		add(t, l, recs...)
		force(t, l)
		m, got := open(t, d.Copy(), 0, 3)
		wantRecords(t, got, recs...)
		last += 2
		wantNumbers(t, m, last-1, last, last, 3*api.Load-len(texts(recs...)))
		reset(t, l)
	}
}

// Rules that hold everywhere: Objects, Memory, Ends.

func TestLogsThatNoCallMade(t *testing.T) {
	for _, l := range []*log.Log{nil, {}} {
		if n, e := l.Append([]byte("a")); n != 0 || e != api.ErrNil {
			t.Errorf("Append: %d, %v", n, e)
		}
		if n, e := l.Append(nil); n != 0 || e != api.ErrNil {
			t.Errorf("Append of nothing: %d, %v", n, e)
		}
		if l.Force() != api.ErrNil || l.Reset() != api.ErrNil {
			t.Error("Force or Reset")
		}
		if l.Forced() != 0 || l.Last() != 0 || l.First() != 0 || l.Room() != 0 {
			t.Error("numbers")
		}
	}
}

func TestADiskThatIsGone(t *testing.T) {
	d := diskOf(t, blank(2))
	l, _ := open(t, d, 0, 2)
	add(t, l, noise(1, 150))
	kept := *d
	*d = disk.Disk{}
	if l.Force() != api.ErrNil || l.Reset() != api.ErrNil {
		t.Error("a disk that no call made is written")
	}
	wantNumbers(t, l, 1, 1, 0, 2*api.Load-152)
	*d = kept
	force(t, l)
	_, recs := open(t, d, 0, 2)
	wantRecords(t, recs, noise(1, 150))
}

func TestACopyOfTheStructIsTheSameLog(t *testing.T) {
	d := diskOf(t, blank(2))
	l, _ := open(t, d, 0, 2)
	m := *l
	add(t, l, []byte("a"))
	add(t, &m, []byte("b"))
	force(t, l)
	wantNumbers(t, &m, 1, 2, 2, 2*api.Load-4)
	_, recs := open(t, d, 0, 2)
	wantRecords(t, recs, []byte("a"), []byte("b"))
}

func TestAppendKeepsACopy(t *testing.T) {
	d := diskOf(t, blank(4))
	l, _ := open(t, d, 0, 4)
	all := append(noise(1, 150), bytes.Repeat([]byte{0xaa}, 400)...)
	was := bytes.Clone(all)
	add(t, l, all[:150])
	if !bytes.Equal(all, was) {
		t.Error("the argument, or the room behind it, was changed")
	}
	clear(all)
	add(t, l, []byte("behind"))
	force(t, l)
	_, recs := open(t, d, 0, 4)
	wantRecords(t, recs, was[:150], []byte("behind"))
}

func TestRecordsAreNewMemory(t *testing.T) {
	want := [][]byte{noise(1, 20), noise(2, 30), noise(3, 200)}
	d := diskOf(t, imageOf(4, 1, texts(want...)))
	l, recs := open(t, d, 0, 4)
	_, others := open(t, d, 0, 4)
	for i, rec := range recs {
		rec = rec[:cap(rec)]
		for j := range rec {
			rec[j] = 0xcc
		}
		if i+1 < len(recs) && !bytes.Equal(recs[i+1], want[i+1]) {
			t.Error("two records share memory")
		}
	}
	recs = recs[:cap(recs)]
	clear(recs)
	wantRecords(t, others, want...)
	add(t, l, []byte("new"))
	force(t, l)
	_, recs = open(t, d, 0, 4)
	wantRecords(t, recs, append(slices.Clone(want), []byte("new"))...)
}

func TestTheGreatestLog(t *testing.T) {
	d := diskOf(t, blank(api.MaxSectors))
	l, _ := open(t, d, 0, api.MaxSectors)
	var all []byte
	count := 0
	for l.Room() > 1 {
		rec := noise(int64(count), min(api.MaxRecord, max(l.Room()-2, 1)))
		add(t, l, rec)
		all = append(all, text(rec)...)
		count++
	}
	force(t, l)
	wantImage(t, d, imageOf(api.MaxSectors, 1, all))
	l, recs := open(t, d, 0, api.MaxSectors)
	if len(recs) != count || l.Last() != count || l.Room() > 1 {
		t.Fatalf("%d records, %d of room, want %d", len(recs), l.Room(), count)
	}
	for i, rec := range recs {
		if !bytes.Equal(rec, noise(int64(i), len(rec))) {
			t.Fatalf("record %d is another", i)
		}
	}
	if n, e := l.Append([]byte("x")); n != 0 || e != api.ErrFull {
		t.Errorf("%d, %v", n, e)
	}
}

func TestManyRecordsEndSoon(t *testing.T) {
	d := diskOf(t, blank(api.MaxSectors))
	l, _ := open(t, d, 0, api.MaxSectors)
	for l.Room() >= 2 {
		add(t, l, []byte("x"))
	}
	force(t, l)
	_, recs := open(t, d, 0, api.MaxSectors)
	if len(recs) != api.MaxSectors*api.Load/2 || l.Last() != len(recs) {
		t.Errorf("%d records", len(recs))
	}
	if _, _, e := log.Open(d, 0, math.MaxInt); e != api.ErrArg {
		t.Error(e)
	}
}
