package disk_test

import (
	"bytes"
	"math"
	"math/rand"
	"slices"
	"testing"

	"rostrum/api"
	"rostrum/disk"
)

// full is a sector all of whose bytes are x.
func full(x byte) []byte { return bytes.Repeat([]byte{x}, api.Size) }

func fresh(t *testing.T, sectors int) *disk.Disk {
	t.Helper()
	d, e := disk.New(sectors)
	if d == nil || e != api.OK {
		t.Fatalf("New(%d): %v", sectors, e)
	}
	return d
}

func write(t *testing.T, d *disk.Disk, sector int, x byte) {
	t.Helper()
	if e := d.Write(sector, full(x)); e != api.OK {
		t.Fatalf("Write(%d): %v", sector, e)
	}
}

// busy is a disk of four sectors: 1 and 2 durable in the sectors 1 and 2, and three writes pending: 5 and 6 to sector 1, 7 to sector 3.
func busy(t *testing.T) *disk.Disk {
	t.Helper()
	d := fresh(t, 4)
	write(t, d, 1, 1)
	write(t, d, 2, 2)
	if e := d.Flush(); e != api.OK {
		t.Fatal(e)
	}
	write(t, d, 1, 5)
	write(t, d, 1, 6)
	write(t, d, 3, 7)
	return d
}

func wantImage(t *testing.T, d *disk.Disk, want ...byte) {
	t.Helper()
	image := d.Image()
	if len(image) != len(want) {
		t.Fatalf("an image of %d sectors, want %d", len(image), len(want))
	}
	for i, x := range want {
		if !bytes.Equal(image[i], full(x)) {
			t.Errorf("Image: sector %d is %x, want %x all over", i, image[i], x)
		}
	}
}

func wantRead(t *testing.T, d *disk.Disk, want ...byte) {
	t.Helper()
	if d.Sectors() != len(want) {
		t.Fatalf("%d sectors, want %d", d.Sectors(), len(want))
	}
	for i, x := range want {
		if b, e := d.Read(i); e != api.OK || !bytes.Equal(b, full(x)) {
			t.Errorf("Read(%d): %x, %v, want %x all over", i, b, e, x)
		}
	}
}

func wantPending(t *testing.T, d *disk.Disk, want ...api.Sent) {
	t.Helper()
	if got := d.Pending(); !slices.EqualFunc(got, want, sameSent) {
		t.Errorf("pending: %v, want %v", got, want)
	}
}

func sameSent(a, b api.Sent) bool {
	return a.Sector == b.Sector && bytes.Equal(a.Bytes, b.Bytes)
}

// P2.1

func TestNewIsNoughts(t *testing.T) {
	d := fresh(t, 3)
	wantRead(t, d, 0, 0, 0)
	wantImage(t, d, 0, 0, 0)
	wantPending(t, d)
	if n := fresh(t, api.MaxSectors).Sectors(); n != api.MaxSectors {
		t.Errorf("%d sectors", n)
	}
	wantRead(t, fresh(t, 1), 0)
}

func TestNewRefuses(t *testing.T) {
	for _, n := range []int{0, -1, api.MaxSectors + 1, math.MaxInt, math.MinInt} {
		if d, e := disk.New(n); d != nil || e != api.ErrArg {
			t.Errorf("New(%d): %v, %v", n, d, e)
		}
	}
}

func TestOfIsDurable(t *testing.T) {
	d, e := disk.Of([][]byte{full(8), full(9)})
	if e != api.OK {
		t.Fatal(e)
	}
	wantRead(t, d, 8, 9)
	wantImage(t, d, 8, 9)
	wantPending(t, d)
	write(t, d, 0, 1)
	if e := d.Crash(nil); e != api.OK {
		t.Error(e)
	}
	wantRead(t, d, 8, 9)
}

func TestOfRefuses(t *testing.T) {
	most := slices.Repeat([][]byte{full(1)}, api.MaxSectors+1)
	for name, image := range map[string][][]byte{
		"nil":             nil,
		"empty":           {},
		"too many":        most,
		"no bytes":        {full(1), nil},
		"a byte too few":  {full(1)[1:], full(1)},
		"a byte too many": {full(1), append(full(1), 1)},
		"the right sum":   {full(1)[1:], append(full(1), 1)},
	} {
		if d, e := disk.Of(image); d != nil || e != api.ErrArg {
			t.Errorf("%s: %v, %v", name, d, e)
		}
	}
	if d, e := disk.Of(most[1:]); e != api.OK || d.Sectors() != api.MaxSectors {
		t.Errorf("at the limit: %v", e)
	}
}

// P2.2

func TestReadTellsTheLastWrite(t *testing.T) {
	d := busy(t)
	wantRead(t, d, 0, 6, 2, 7)
	write(t, d, 1, 9)
	wantRead(t, d, 0, 9, 2, 7)
}

func TestReadRefuses(t *testing.T) {
	d := busy(t)
	for _, i := range []int{-1, 4, math.MaxInt, math.MinInt} {
		if b, e := d.Read(i); len(b) != 0 || e != api.ErrArg {
			t.Errorf("Read(%d): %x, %v", i, b, e)
		}
	}
}

func TestWriteRefuses(t *testing.T) {
	d := busy(t)
	for _, i := range []int{-1, 4, math.MaxInt, math.MinInt} {
		if e := d.Write(i, full(9)); e != api.ErrArg {
			t.Errorf("Write(%d): %v", i, e)
		}
	}
	for _, b := range [][]byte{nil, {}, full(9)[1:], append(full(9), 9)} {
		if e := d.Write(0, b); e != api.ErrArg {
			t.Errorf("Write of %d bytes: %v", len(b), e)
		}
	}
	wantPending(t, d, api.Sent{Sector: 1, Bytes: full(5)}, api.Sent{Sector: 1, Bytes: full(6)}, api.Sent{Sector: 3, Bytes: full(7)})
	wantRead(t, d, 0, 6, 2, 7)
}

func TestPendingIsInOrder(t *testing.T) {
	d := busy(t)
	write(t, d, 0, 8)
	wantPending(t, d, api.Sent{Sector: 1, Bytes: full(5)}, api.Sent{Sector: 1, Bytes: full(6)}, api.Sent{Sector: 3, Bytes: full(7)}, api.Sent{Sector: 0, Bytes: full(8)})
	wantImage(t, d, 0, 1, 2, 0)
}

func TestFlushDoesAllInOrder(t *testing.T) {
	d := busy(t)
	for range 2 {
		if e := d.Flush(); e != api.OK {
			t.Fatal(e)
		}
		wantPending(t, d)
		wantImage(t, d, 0, 6, 2, 7)
		wantRead(t, d, 0, 6, 2, 7)
	}
}

func TestWritesBehindAFlushStartAnew(t *testing.T) {
	d := busy(t)
	d.Flush()
	write(t, d, 3, 9)
	wantPending(t, d, api.Sent{Sector: 3, Bytes: full(9)})
	wantRead(t, d, 0, 6, 2, 9)
	wantImage(t, d, 0, 6, 2, 7)
}

// P2.3

func TestCrashKeepsWhatIsNamed(t *testing.T) {
	for _, c := range []struct {
		keep []int
		want []byte
	}{
		{nil, []byte{0, 1, 2, 0}},
		{[]int{}, []byte{0, 1, 2, 0}},
		{[]int{0}, []byte{0, 5, 2, 0}},
		{[]int{1}, []byte{0, 6, 2, 0}},
		{[]int{2}, []byte{0, 1, 2, 7}},
		{[]int{0, 1}, []byte{0, 6, 2, 0}},
		{[]int{1, 0}, []byte{0, 6, 2, 0}},
		{[]int{2, 0}, []byte{0, 5, 2, 7}},
		{[]int{2, 1, 0}, []byte{0, 6, 2, 7}},
	} {
		d := busy(t)
		if e := d.Crash(c.keep); e != api.OK {
			t.Errorf("Crash(%v): %v", c.keep, e)
		}
		wantPending(t, d)
		wantImage(t, d, c.want...)
		wantRead(t, d, c.want...)
	}
}

func TestCrashRefuses(t *testing.T) {
	d := busy(t)
	for _, keep := range [][]int{{3}, {-1}, {0, 3}, {math.MaxInt}, {math.MinInt}, {0, 0}, {0, 1, 2, 1}, make([]int, 1000)} {
		if e := d.Crash(keep); e != api.ErrPlace {
			t.Errorf("Crash(%v): %v", keep, e)
		}
		wantPending(t, d, api.Sent{Sector: 1, Bytes: full(5)}, api.Sent{Sector: 1, Bytes: full(6)}, api.Sent{Sector: 3, Bytes: full(7)})
		wantImage(t, d, 0, 1, 2, 0)
		wantRead(t, d, 0, 6, 2, 7)
	}
	d.Flush()
	if e := d.Crash([]int{0}); e != api.ErrPlace {
		t.Errorf("none is pending: %v", e)
	}
}

// P2.4

func TestCopyIsAnotherDisk(t *testing.T) {
	d := busy(t)
	c := d.Copy()
	wantRead(t, c, 0, 6, 2, 7)
	wantImage(t, c, 0, 1, 2, 0)
	wantPending(t, c, d.Pending()...)

	write(t, c, 0, 9)
	write(t, d, 2, 8)
	wantRead(t, c, 9, 6, 2, 7)
	wantRead(t, d, 0, 6, 8, 7)
	if e := c.Crash([]int{0, 3}); e != api.OK {
		t.Error(e)
	}
	wantImage(t, c, 9, 5, 2, 0)
	wantImage(t, d, 0, 1, 2, 0)
	wantPending(t, d, api.Sent{Sector: 1, Bytes: full(5)}, api.Sent{Sector: 1, Bytes: full(6)}, api.Sent{Sector: 3, Bytes: full(7)}, api.Sent{Sector: 2, Bytes: full(8)})
	d.Flush()
	wantImage(t, d, 0, 6, 8, 7)
	wantImage(t, c, 9, 5, 2, 0)
	write(t, d, 2, 3)
	wantRead(t, c, 9, 5, 2, 0)
}

// P2.5, P2.6, and the document's words word by word, on many disks.

// model is a disk as the document tells it, without a thought for speed.
type model struct {
	durable [][]byte
	pending []api.Sent
}

func (m *model) read(i int) []byte {
	b := m.durable[i]
	for _, s := range m.pending {
		if s.Sector == i {
			b = s.Bytes
		}
	}
	return b
}

func (m *model) crash(keep []int) {
	for i, s := range m.pending {
		if slices.Contains(keep, i) {
			m.durable[s.Sector] = s.Bytes
		}
	}
	m.pending = nil
}

func (m *model) hold(t *testing.T, d *disk.Disk) {
	t.Helper()
	wantPending(t, d, m.pending...)
	if got := d.Image(); !slices.EqualFunc(got, m.durable, bytes.Equal) {
		t.Fatalf("image %x, want %x", got, m.durable)
	}
	for i := range m.durable {
		if b, e := d.Read(i); e != api.OK || !bytes.Equal(b, m.read(i)) {
			t.Fatalf("Read(%d): %x, %v, want %x", i, b, e, m.read(i))
		}
	}
}

func places(n int) []int {
	l := make([]int, n)
	for i := range l {
		l[i] = i
	}
	return l
}

func TestDisksAreAsTheModel(t *testing.T) {
	for seed := range int64(60) {
		random := rand.New(rand.NewSource(seed))
		sectors := 1 + random.Intn(5)
		d := fresh(t, sectors)
		m := &model{durable: slices.Repeat([][]byte{full(0)}, sectors)}
		for range 80 {
			switch x := random.Intn(10); {
			case x < 8:
				i, b := random.Intn(sectors), full(byte(random.Intn(256)))
				m.pending = append(m.pending, api.Sent{Sector: i, Bytes: b})
				if e := d.Write(i, b); e != api.OK {
					t.Fatal(e)
				}
			case x < 9:
				m.crash(places(len(m.pending)))
				if e := d.Flush(); e != api.OK {
					t.Fatal(e)
				}
			default:
				keep := random.Perm(len(m.pending))
				keep = keep[:random.Intn(len(keep)+1)]
				m.crash(keep)
				if e := d.Crash(keep); e != api.OK {
					t.Fatal(e)
				}
			}
			m.hold(t, d)
		}
	}
}

func TestCrashWithAllPlacesIsFlush(t *testing.T) {
	d, f := busy(t), busy(t)
	if d.Crash(places(3)) != api.OK || f.Flush() != api.OK {
		t.Fatal("refused")
	}
	if !slices.EqualFunc(d.Image(), f.Image(), bytes.Equal) {
		t.Error("the images part")
	}
	wantPending(t, d)
	wantPending(t, f)
}

func TestCrashWithNoneLeavesImage(t *testing.T) {
	d := busy(t)
	before := d.Image()
	if e := d.Crash(nil); e != api.OK {
		t.Fatal(e)
	}
	if !slices.EqualFunc(d.Image(), before, bytes.Equal) {
		t.Error("the images part")
	}
}

// Rules that hold everywhere: Objects, Memory.

func TestDisksThatNoCallMade(t *testing.T) {
	for name, d := range map[string]*disk.Disk{"nil": nil, "plain": {}} {
		if b, e := d.Read(0); len(b) != 0 || e != api.ErrNil {
			t.Errorf("%s: Read %x, %v", name, b, e)
		}
		if d.Write(0, full(1)) != api.ErrNil || d.Write(-1, nil) != api.ErrNil || d.Flush() != api.ErrNil {
			t.Errorf("%s: Write or Flush", name)
		}
		if d.Crash(nil) != api.ErrNil || d.Crash([]int{0}) != api.ErrNil {
			t.Errorf("%s: Crash", name)
		}
		if d.Sectors() != 0 || len(d.Pending()) != 0 || len(d.Image()) != 0 || d.Copy() != nil {
			t.Errorf("%s: Sectors, Pending, Image or Copy", name)
		}
	}
}

// scribble changes all that a list leads to, the room behind its end included.
func scribble(b []byte) {
	b = b[:cap(b)]
	for i := range b {
		b[i] = 0xee
	}
}

func TestArgumentsAreNotKept(t *testing.T) {
	image := [][]byte{full(1), full(2)}
	d, _ := disk.Of(image)
	one := disk.Disk{}
	if x, e := disk.Of(image[:1]); e == api.OK {
		one = *x
	}
	b := full(3)
	d.Write(1, b)
	for _, x := range append(image, b) {
		scribble(x)
	}
	wantImage(t, d, 1, 2)
	wantRead(t, d, 1, 3)
	wantImage(t, &one, 1)
}

func TestArgumentsAreNotChanged(t *testing.T) {
	room := full(4)
	room = append(room, 5)
	d := busy(t)
	keep := []int{2, 1, 9}
	d.Write(0, room[:api.Size])
	d.Crash(keep[:2])
	d.Write(0, full(8))
	if !bytes.Equal(room, append(full(4), 5)) || !slices.Equal(keep, []int{2, 1, 9}) {
		t.Errorf("%x, %v", room, keep)
	}
}

func TestAnswersAreNewMemory(t *testing.T) {
	d := busy(t)
	for i := range 4 {
		b, _ := d.Read(i)
		scribble(b)
	}
	for i := range d.Image() {
		image := d.Image()
		scribble(image[i])
		for j, b := range image {
			if i != j && !bytes.Equal(b, d.Image()[j]) {
				t.Errorf("Image: sector %d reaches into %d", i, j)
			}
		}
	}
	for i := range d.Pending() {
		sent := d.Pending()
		scribble(sent[i].Bytes)
		for j, s := range sent {
			if i != j && !sameSent(s, d.Pending()[j]) {
				t.Errorf("Pending: write %d reaches into %d", i, j)
			}
		}
	}
	wantRead(t, d, 0, 6, 2, 7)
	wantImage(t, d, 0, 1, 2, 0)
	wantPending(t, d, api.Sent{Sector: 1, Bytes: full(5)}, api.Sent{Sector: 1, Bytes: full(6)}, api.Sent{Sector: 3, Bytes: full(7)})
}
