package log_test

import (
	"bytes"
	"encoding/binary"
	"math"
	"math/rand"
	"testing"

	"rostrum/api"
	"rostrum/disk"
	"rostrum/log"
)

// P3.1

func TestOpenOfANewDisk(t *testing.T) {
	d := diskOf(t, blank(4))
	d.Write(3, noise(1, api.Size))
	l, recs := open(t, d, 0, 3)
	wantRecords(t, recs)
	wantNumbers(t, l, 1, 0, 0, 3*api.Load)
	if len(d.Pending()) != 1 {
		t.Error("it was flushed without a write")
	}
}

func TestOpenRefuses(t *testing.T) {
	d := diskOf(t, imageOf(4, 1, []byte("torn")))
	d.Write(3, noise(1, api.Size))
	for _, c := range []struct {
		d             *disk.Disk
		from, sectors int
		want          api.Errno
	}{
		{nil, 0, 1, api.ErrNil},
		{nil, -1, 0, api.ErrNil},
		{&disk.Disk{}, 0, 1, api.ErrNil},
		{&disk.Disk{}, -1, -1, api.ErrNil},
		{d, -1, 1, api.ErrArg},
		{d, math.MinInt, 1, api.ErrArg},
		{d, -1, 5, api.ErrArg},
		{d, 0, 0, api.ErrArg},
		{d, 0, -1, api.ErrArg},
		{d, 0, math.MinInt, api.ErrArg},
		{d, 4, 0, api.ErrArg},
		{d, 0, 5, api.ErrArg},
		{d, 1, 4, api.ErrArg},
		{d, 4, 1, api.ErrArg},
		{d, 9, 1, api.ErrArg},
		{d, 0, math.MaxInt, api.ErrArg},
		{d, math.MaxInt, 1, api.ErrArg},
		{d, math.MaxInt, math.MaxInt, api.ErrArg},
	} {
		if l, recs, e := log.Open(c.d, c.from, c.sectors); l != nil || len(recs) != 0 || e != c.want {
			t.Errorf("Open(%d, %d): %v, %d records, %v, want %v", c.from, c.sectors, l, len(recs), e, c.want)
		}
	}
	wantImage(t, d, imageOf(4, 1, []byte("torn")))
	if len(d.Pending()) != 1 {
		t.Error("what was refused has flushed the disk")
	}
}

func TestOpenTakesAnyPartOfADisk(t *testing.T) {
	for from := range 5 {
		for sectors := 1; from+sectors <= 5; sectors++ {
			before := make([][]byte, 5)
			for i := range before {
				before[i] = noise(int64(i), api.Size)
			}
			d := diskOf(t, before)
			l, _ := open(t, d, from, sectors)
			wantNumbers(t, l, 1, 0, 0, sectors*api.Load)
			rec := noise(9, sectors*api.Load-2)
			if len(rec) < 128 {
				rec = noise(9, sectors*api.Load-1)
			}
			add(t, l, rec)
			force(t, l)
			copy(before[from:from+sectors], imageOf(sectors, 1, text(rec)))
			wantImage(t, d, before)
			_, recs := open(t, d, from, sectors)
			wantRecords(t, recs, rec)
		}
	}
}

func TestOpenReadsOverSectors(t *testing.T) {
	recs := [][]byte{[]byte("a"), noise(1, 300), noise(2, 127), noise(3, 128), noise(4, api.MaxRecord), []byte("z")}
	b := texts(recs...)
	for _, first := range []int{1, 2, 700, greatest} {
		image := imageOf(30, first, b)
		d := diskOf(t, image)
		l, got := open(t, d, 0, 30)
		wantRecords(t, got, recs...)
		wantNumbers(t, l, first, first+5, first+5, 30*api.Load-len(b))
		wantImage(t, d, image)
	}
}

func TestOpenReadsWhatIsPending(t *testing.T) {
	d := diskOf(t, blank(2))
	d.Write(0, sectorOf(0, 5, text([]byte("ab"))))
	l, recs := open(t, d, 0, 2)
	wantRecords(t, recs, []byte("ab"))
	wantNumbers(t, l, 5, 5, 5, 2*api.Load-3)
	if len(d.Pending()) != 1 {
		t.Error("it was flushed without a write")
	}
}

// TestWrongSectors has one sector, at place 0 or 1, be wrong in one way.
func TestWrongSectors(t *testing.T) {
	first := bytes.Repeat([]byte{1, 'x'}, 56)
	second := text([]byte("more"))
	behind := append(bytes.Clone(second), make([]byte, 100)...)
	behind[50] = 1
	badSum := sectorOf(1, 7, second)
	badSum[125] ^= 4
	for name, b := range map[string][]byte{
		"another mark":         sealed(0x50, 5, 1, 7, second),
		"no mark":              sealed(0, 5, 1, 7, second),
		"more than Load used":  sealed(0x4c, 113, 1, 7, first),
		"255 used":             sealed(0x4c, 255, 1, 7, first),
		"another place":        sealed(0x4c, 5, 2, 7, second),
		"place 0":              sealed(0x4c, 5, 0, 7, second),
		"a high place":         sealed(0x4c, 5, 257, 7, second),
		"an earlier log's":     sealed(0x4c, 5, 1, 6, second),
		"a later log's":        sealed(0x4c, 5, 1, 8, second),
		"no first record":      sealed(0x4c, 5, 1, 0, second),
		"bytes behind":         sealed(0x4c, 5, 1, 7, behind),
		"another sum":          badSum,
		"noughts":              make([]byte, api.Size),
		"any bytes":            noise(5, api.Size),
		"a first record above": sealed(0x4c, 5, 1, 7+1<<56, second),
	} {
		image := imageOf(4, 7, first)
		image[1] = b
		image[2] = sectorOf(2, 7, second)
		d := diskOf(t, image)
		l, recs := open(t, d, 0, 4)
		if len(recs) != 56 || l.Last() != 62 || l.First() != 7 {
			t.Errorf("%s: %d records, %d to %d", name, len(recs), l.First(), l.Last())
		}
		wantImage(t, d, imageOf(4, 7, first))
	}
}

func TestWrongFirstSectors(t *testing.T) {
	rec := text([]byte("rec"))
	badSum := sectorOf(0, 7, rec)
	badSum[124]++
	for name, b := range map[string][]byte{
		"another mark":      sealed(0x50, 4, 0, 7, rec),
		"another place":     sealed(0x4c, 4, 1, 7, rec),
		"first record 0":    sealed(0x4c, 4, 0, 0, rec),
		"above 2^62":        sealed(0x4c, 4, 0, greatest+1, rec),
		"2^63":              sealed(0x4c, 4, 0, 1<<63, rec),
		"2^64 - 1":          sealed(0x4c, 4, 0, math.MaxUint64, rec),
		"another sum":       badSum,
		"noughts":           make([]byte, api.Size),
		"bytes behind":      sealed(0x4c, 3, 0, 7, rec),
		"a sum of noughts":  sealed(0, 0, 0, 0, nil),
		"more used":         sealed(0x4c, 113, 0, 7, bytes.Repeat([]byte{1, 'x'}, 56)),
		"used, first wrong": sealed(0x4c, 0, 0, 0, nil),
	} {
		image := imageOf(3, 1, nil)
		image[0], image[1] = b, sectorOf(1, 7, rec)
		d := diskOf(t, image)
		l, recs := open(t, d, 0, 3)
		if len(recs) != 0 || l.First() != 1 || l.Last() != 0 || l.Forced() != 0 || l.Room() != 3*api.Load {
			t.Errorf("%s: %d records, %d to %d, forced %d", name, len(recs), l.First(), l.Last(), l.Forced())
		}
		wantImage(t, d, blank(3))
	}
}

func TestRecordsThatCantBe(t *testing.T) {
	good := texts([]byte("one"), noise(1, 150))
	for name, b := range map[string][]byte{
		"an empty one":       {0},
		"one of two noughts": {0, 0},
		"half a length":      {0x81},
		"another form":       {0x83, 0, 'a', 'b', 'c'},
		"torn":               {4, 'a', 'b', 'c'},
		"too long":           append(binary.AppendUvarint(nil, api.MaxRecord+1), noise(2, api.MaxRecord+1)...),
		"a huge length":      binary.AppendUvarint(nil, math.MaxInt),
		"beyond all lengths": bytes.Repeat([]byte{0xff}, 20),
		"nothing":            nil,
		"a full rest":        append([]byte{0x7f}, noise(3, 2*api.Load-len(good)-1)...),
	} {
		d := diskOf(t, imageOf(22, 4, append(bytes.Clone(good), b...)))
		l, recs := open(t, d, 0, 22)
		if len(recs) != 2 || l.First() != 4 || l.Last() != 5 {
			t.Errorf("%s: %d records, %d to %d", name, len(recs), l.First(), l.Last())
		}
		wantImage(t, d, imageOf(22, 4, good))
		_, recs = open(t, d, 0, 22)
		wantRecords(t, recs, []byte("one"), noise(1, 150))
	}
}

func TestRecordsBehindOneThatCantBeAreNone(t *testing.T) {
	d := diskOf(t, imageOf(2, 4, append(append(text([]byte("a")), 0), text([]byte("b"))...)))
	_, recs := open(t, d, 0, 2)
	wantRecords(t, recs, []byte("a"))
}

func TestALogWithoutRecordsKeepsItsNumber(t *testing.T) {
	for _, b := range [][]byte{nil, {0}, {5, 'a'}, append([]byte{0xff, 0x01}, noise(1, 230)...)} {
		image := imageOf(4, 9, b)
		image[3] = noise(2, api.Size)
		d := diskOf(t, image)
		l, recs := open(t, d, 0, 4)
		wantRecords(t, recs)
		wantNumbers(t, l, 9, 8, 8, 4*api.Load)
		wantImage(t, d, imageOf(4, 9, nil))
	}
}

func TestOpenFlushesOnlyWhatItWrote(t *testing.T) {
	mine := noise(1, api.Size)
	for name, c := range map[string]struct {
		image   [][]byte
		flushed bool
	}{
		"nothing to do":            {imageOf(4, 3, text([]byte("a"))), false},
		"bytes behind a record":    {imageOf(4, 3, []byte{1, 'a', 0}), true},
		"no record":                {imageOf(4, 3, []byte{9}), true},
		"an empty log":             {imageOf(4, 3, nil), false},
		"a sector behind":          {append(imageOf(3, 3, text([]byte("a"))), sectorOf(3, 2, nil)), true},
		"one behind a full one":    {append(imageOf(1, 3, text(noise(2, 111))), imageOf(4, 3, nil)[1:]...), false},
		"an empty one behind full": {[][]byte{sectorOf(0, 3, text(noise(2, 111))), sectorOf(1, 3, nil), make([]byte, 128), make([]byte, 128)}, true},
	} {
		d := diskOf(t, append(c.image, make([]byte, api.Size)))
		d.Write(4, mine)
		open(t, d, 0, 4)
		if flushed := len(d.Pending()) == 0; flushed != c.flushed || bytes.Equal(d.Image()[4], mine) != c.flushed {
			t.Errorf("%s: flushed %v", name, flushed)
		}
		open(t, d, 0, 4)
		if c.flushed {
			d.Write(4, noise(3, api.Size))
			open(t, d, 0, 4)
			if len(d.Pending()) != 1 {
				t.Errorf("%s: it was not done the first time", name)
			}
		}
	}
}

// meant is what the chapter says of an image that is opened: the records, the first one's number, and the image then.
func meant(image [][]byte) ([][]byte, int, [][]byte) {
	var all []byte
	first, after := 0, blank(len(image))
	for place, b := range image {
		number := binary.LittleEndian.Uint64(b[4:])
		used := int(b[1])
		if used > api.Load || number < 1 || number > greatest || place > 0 && int(number) != first {
			break
		}
		if !bytes.Equal(b, sectorOf(place, int(number), b[12:12+used])) {
			break
		}
		first = int(number)
		all = append(all, b[12:12+used]...)
		if used < api.Load {
			break
		}
	}
	if first == 0 {
		return nil, 1, after
	}
	var recs [][]byte
	size := 0
	for {
		n, head := binary.Uvarint(all[size:])
		if head <= 0 || n < 1 || n > api.MaxRecord || int(n) > len(all)-size-head || len(binary.AppendUvarint(nil, n)) != head {
			break
		}
		recs = append(recs, all[size+head:size+head+int(n)])
		size += head + int(n)
	}
	return recs, first, imageOf(len(image), first, all[:size])
}

// TestOpenIsAsTheChapterSays opens logs of any records, with sectors that were mixed, cut and turned.
func TestOpenIsAsTheChapterSays(t *testing.T) {
	random := rand.New(rand.NewSource(31))
	for range 4000 {
		image := jumble(random)
		recs, first, after := meant(image)
		d := diskOf(t, image)
		l, got := open(t, d, 0, len(image))
		wantRecords(t, got, recs...)
		if l.First() != first || l.Last() != first+len(recs)-1 || l.Forced() != l.Last() {
			t.Fatalf("%d to %d, forced %d; want from %d", l.First(), l.Last(), l.Forced(), first)
		}
		wantImage(t, d, after)
	}
}

func jumble(random *rand.Rand) [][]byte {
	n := 1 + random.Intn(6)
	var b []byte
	for len(b) < n*api.Load {
		rec := noise(random.Int63(), random.Intn(1+random.Intn(200)))
		b = append(b, text(rec)...)
	}
	b = b[:random.Intn(n*api.Load+1)]
	image := imageOf(n, 1+random.Intn(3), b)
	for range random.Intn(4) {
		i := random.Intn(n)
		switch random.Intn(5) {
		case 0:
			image[i][random.Intn(api.Size)] ^= 1 << random.Intn(8)
		case 1:
			image[i] = sectorOf(i, 1+random.Intn(3), noise(random.Int63(), random.Intn(api.Load+1)))
		case 2:
			image[i] = make([]byte, api.Size)
		case 3:
			image[i] = bytes.Clone(image[random.Intn(n)])
		case 4:
			image[i] = sealed(0x4c, byte(random.Intn(256)), uint16(i), 1, noise(random.Int63(), random.Intn(api.Load+1)))
		}
	}
	return image
}
