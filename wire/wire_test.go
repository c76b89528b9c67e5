package wire_test

import (
	"bytes"
	"encoding/binary"
	"hash/crc32"
	"math"
	"math/rand"
	"slices"
	"strings"
	"testing"

	"rostrum/api"
	"rostrum/wire"
)

// forms is numbers at the edges of their lengths, and their only forms.
func forms() map[int]string {
	return map[int]string{
		0:               "\x00",
		1:               "\x01",
		127:             "\x7f",
		128:             "\x80\x01",
		300:             "\xac\x02",
		1<<14 - 1:       "\xff\x7f",
		1 << 14:         "\x80\x80\x01",
		1<<56 - 1:       "\xff\xff\xff\xff\xff\xff\xff\x7f",
		1 << 56:         "\x80\x80\x80\x80\x80\x80\x80\x80\x01",
		math.MaxInt - 1: "\xfe\xff\xff\xff\xff\xff\xff\xff\x7f",
		math.MaxInt:     "\xff\xff\xff\xff\xff\xff\xff\xff\x7f",
	}
}

func noise(seed int64, n int) []byte {
	b := make([]byte, n)
	rand.New(rand.NewSource(seed)).Read(b)
	return b
}

func frame(t *testing.T, p []byte) []byte {
	t.Helper()
	b, e := wire.Frame(p)
	if e != api.OK {
		t.Fatalf("Frame of %d bytes: %v", len(p), e)
	}
	return b
}

// P1.1

func TestPutWritesTheShortestForm(t *testing.T) {
	for n, want := range forms() {
		if got := wire.Put(nil, n); string(got) != want {
			t.Errorf("Put(nil, %d) = %x, want %x", n, got, want)
		}
		if got := wire.Put([]byte("ab"), n); string(got) != "ab"+want {
			t.Errorf("Put(ab, %d) = %x, want %x behind ab", n, got, want)
		}
	}
}

func TestPutCountsBelowNoughtAsNought(t *testing.T) {
	for _, n := range []int{-1, -128, math.MinInt} {
		if got := wire.Put([]byte{7}, n); string(got) != "\x07\x00" {
			t.Errorf("Put(07, %d) = %x", n, got)
		}
	}
}

func TestTextWritesLengthAndBytes(t *testing.T) {
	long := strings.Repeat("x", 300)
	for s, want := range map[string]string{"": "\x00", "hey": "\x03hey", "\xff\x00": "\x02\xff\x00", long: "\xac\x02" + long} {
		if got := wire.Text(nil, s); string(got) != want {
			t.Errorf("Text(nil, %q) = %x", s, got)
		}
		if got := wire.Text([]byte("ab"), s); string(got) != "ab"+want {
			t.Errorf("Text(ab, %q) = %x", s, got)
		}
	}
}

func TestSumIsCRC32(t *testing.T) {
	if wire.Sum([]byte("123456789")) != 0xcbf43926 || wire.Sum(nil) != 0 || wire.Sum([]byte{}) != 0 {
		t.Error("the document's example, or no bytes")
	}
	for n := range 300 {
		b := noise(int64(n), n)
		if got, want := wire.Sum(b), crc32.ChecksumIEEE(b); got != want {
			t.Errorf("Sum of %x = %08x, want %08x", b, got, want)
		}
	}
}

// P1.2

func TestFrameIsLengthBytesAndSum(t *testing.T) {
	if b := frame(t, []byte("123456789")); string(b) != "\x09123456789\x26\x39\xf4\xcb" {
		t.Errorf("%x", b)
	}
	if b := frame(t, nil); string(b) != "\x00\x00\x00\x00\x00" {
		t.Errorf("%x", b)
	}
}

func TestFrameEndsAtMaxFrame(t *testing.T) {
	p := noise(1, api.MaxFrame+1)
	if b, e := wire.Frame(p); len(b) != 0 || e != api.ErrLong {
		t.Errorf("beyond the limit: %d bytes, %v", len(b), e)
	}
	b := frame(t, p[:api.MaxFrame])
	if q, behind, e := wire.Unframe(b); e != api.OK || len(behind) != 0 || !bytes.Equal(q, p[:api.MaxFrame]) {
		t.Errorf("at the limit: %d bytes, %d behind, %v", len(q), len(behind), e)
	}
}

func TestUnframeAnswersTheFirstError(t *testing.T) {
	high := strings.Repeat("\x80", 9)
	for _, c := range []struct {
		name, b string
		want    api.Errno
	}{
		{"nothing", "", api.ErrShort},
		{"half a length", "\x80", api.ErrShort},
		{"eight bytes of a length", high[:8], api.ErrShort},
		{"a length of more than nine bytes", high + "\x01", api.ErrRange},
		{"a longer form", "\x81\x00" + "a" + "\x00\x00\x00\x00", api.ErrForm},
		{"one beyond the limit, and nothing behind", string(wire.Put(nil, api.MaxFrame+1)), api.ErrLong},
		{"the greatest length", string(wire.Put(nil, math.MaxInt)), api.ErrLong},
		{"at the limit, and nothing behind", string(wire.Put(nil, api.MaxFrame)), api.ErrShort},
		{"a sum of three bytes", "\x01a\x00\x00\x00", api.ErrShort},
		{"another sum", "\x01a\x00\x00\x00\x00", api.ErrSum},
		{"another sum of nothing", "\x00\x01\x00\x00\x00", api.ErrSum},
		{"a sum that takes in the length", "\x01a" + string(binary.LittleEndian.AppendUint32(nil, crc32.ChecksumIEEE([]byte("\x01a")))), api.ErrSum},
		{"a sum with its highest byte first", "\x01a" + string(binary.BigEndian.AppendUint32(nil, crc32.ChecksumIEEE([]byte("a")))), api.ErrSum},
	} {
		p, behind, e := wire.Unframe([]byte(c.b))
		if len(p) != 0 || len(behind) != 0 || e != c.want {
			t.Errorf("%s: %x, %x, %v, want %v", c.name, p, behind, e, c.want)
		}
	}
}

// P1.3

func TestUintReadsNumbers(t *testing.T) {
	for want, form := range forms() {
		r := wire.Over([]byte(form + "\x80z"))
		if n, e := r.Uint(); n != want || e != api.OK || r.Left() != 2 {
			t.Errorf("Uint of %x = %d, %v, %d left; want %d", form, n, e, r.Left(), want)
		}
	}
}

func TestUintRefuses(t *testing.T) {
	high := strings.Repeat("\xff", 12)
	for n := range 13 {
		want := api.ErrRange
		if n < 9 {
			want = api.ErrShort
		}
		refuseUint(t, high[:n], want)
	}
	refuseUint(t, strings.Repeat("\x80", 9)+"\x01", api.ErrRange)
	for n := 1; n < 9; n++ {
		refuseUint(t, high[:n]+"\x00", api.ErrForm)
		refuseUint(t, strings.Repeat("\x80", n)+"\x00", api.ErrForm)
	}
}

func refuseUint(t *testing.T, b string, want api.Errno) {
	t.Helper()
	r := wire.Over([]byte("!" + b))
	r.Byte()
	if n, e := r.Uint(); n != 0 || e != want || r.Left() != len(b) {
		t.Errorf("Uint of %x = %d, %v, %d left; want %v", b, n, e, r.Left(), want)
	}
	if s, e := r.Text(9); s != "" || e != want || r.Left() != len(b) {
		t.Errorf("Text of %x = %q, %v, %d left; want %v", b, s, e, r.Left(), want)
	}
}

func TestByteReadsOneAfterAnother(t *testing.T) {
	r := wire.Over([]byte{0, 255})
	for i, want := range []byte{0, 255} {
		if b, e := r.Byte(); b != want || e != api.OK || r.Left() != 1-i {
			t.Errorf("Byte %d = %d, %v, %d left", i, b, e, r.Left())
		}
	}
	for range 2 {
		if b, e := r.Byte(); b != 0 || e != api.ErrShort || r.Left() != 0 {
			t.Errorf("behind the end: %d, %v, %d left", b, e, r.Left())
		}
	}
}

func TestTextReadsTexts(t *testing.T) {
	huge := string(wire.Put(nil, math.MaxInt))
	for _, c := range []struct {
		b    string
		most int
		want string
		left int
		e    api.Errno
	}{
		{"\x03heyyy", 3, "hey", 2, api.OK},
		{"\x03hey", math.MaxInt, "hey", 0, api.OK},
		{"\x03hey", 2, "", 4, api.ErrLong},
		{"\x03he", 2, "", 3, api.ErrLong},
		{"\x03he", 3, "", 3, api.ErrShort},
		{"\x03", 3, "", 1, api.ErrShort},
		{"\x00", 0, "", 0, api.OK},
		{"\x00z", -5, "", 1, api.OK},
		{"\x01z", 0, "", 2, api.ErrLong},
		{"\x01z", -1, "", 2, api.ErrLong},
		{"\x01z", math.MinInt, "", 2, api.ErrLong},
		{huge + "z", math.MaxInt, "", 10, api.ErrShort},
		{huge, math.MaxInt - 1, "", 9, api.ErrLong},
		{"", 0, "", 0, api.ErrShort},
		{"\x80\x00", -1, "", 2, api.ErrForm},
	} {
		r := wire.Over([]byte(c.b))
		if s, e := r.Text(c.most); s != c.want || e != c.e || r.Left() != c.left {
			t.Errorf("Text(%d) of %x = %q, %v, %d left; want %q, %v, %d", c.most, c.b, s, e, r.Left(), c.want, c.e, c.left)
		}
	}
}

func TestEndAndLeft(t *testing.T) {
	r := wire.Over([]byte("ab"))
	for left := 2; left > 0; left-- {
		if r.End() != api.ErrMore || r.Left() != left {
			t.Errorf("%v, %d left, want %d", r.End(), r.Left(), left)
		}
		r.Byte()
	}
	if r.End() != api.OK || r.Left() != 0 {
		t.Errorf("all read: %v, %d left", r.End(), r.Left())
	}
	for _, b := range [][]byte{nil, {}} {
		if r := wire.Over(b); r.End() != api.OK || r.Left() != 0 {
			t.Errorf("no bytes: %v, %d left", r.End(), r.Left())
		}
	}
}

func TestReadGoesOnBehindAnError(t *testing.T) {
	r := wire.Over([]byte("\x02abc"))
	if _, e := r.Text(1); e != api.ErrLong {
		t.Fatal(e)
	}
	if s, e := r.Text(2); s != "ab" || e != api.OK {
		t.Errorf("%q, %v", s, e)
	}
	if n, e := r.Uint(); n != 'c' || e != api.OK {
		t.Errorf("%d, %v", n, e)
	}
}

// P1.4

func TestThereAndBack(t *testing.T) {
	random := rand.New(rand.NewSource(4))
	for _, behind := range []string{"", "\x00", "\x80", "\xff\xff", string(noise(5, 20))} {
		for range 500 {
			n, p := random.Intn(math.MaxInt)>>random.Intn(63), noise(random.Int63(), random.Intn(200))
			r := wire.Over(append(wire.Text(wire.Put(nil, n), string(p)), behind...))
			if got, e := r.Uint(); got != n || e != api.OK {
				t.Fatalf("%d is read as %d, %v", n, got, e)
			}
			if got, e := r.Text(len(p)); got != string(p) || e != api.OK || r.Left() != len(behind) {
				t.Fatalf("%q is read as %q, %v, %d left", p, got, e, r.Left())
			}
			got, rest, e := wire.Unframe(append(frame(t, p), behind...))
			if !bytes.Equal(got, p) || string(rest) != behind || e != api.OK {
				t.Fatalf("%x in a frame is read as %x, %x, %v", p, got, rest, e)
			}
		}
	}
}

// P1.5

func TestOneForm(t *testing.T) {
	for x := range 1 << 20 {
		b := []byte{byte(x), byte(x >> 8), byte(x >> 16)}
		r := wire.Over(b)
		if n, e := r.Uint(); e == api.OK && !bytes.Equal(wire.Put(nil, n), b[:3-r.Left()]) {
			t.Fatalf("%x is read as %d, written %x", b, n, wire.Put(nil, n))
		}
		r = wire.Over(b)
		if s, e := r.Text(3); e == api.OK && !bytes.Equal(wire.Text(nil, s), b[:3-r.Left()]) {
			t.Fatalf("%x is read as %q, written %x", b, s, wire.Text(nil, s))
		}
	}
}

func TestOneFormOfAFrame(t *testing.T) {
	for n := range 400 {
		b := append(frame(t, noise(int64(n), n)), "behind"...)
		p, behind, e := wire.Unframe(b)
		if e != api.OK || !bytes.Equal(append(frame(t, p), behind...), b) {
			t.Fatalf("%x is not written as it was read: %v", b, e)
		}
	}
	if _, _, e := wire.Unframe([]byte("\x80\x00\x00\x00\x00\x00")); e != api.ErrForm {
		t.Errorf("an empty frame with a longer length: %v", e)
	}
}

// P1.6

func TestTornFrames(t *testing.T) {
	for _, size := range []int{0, 1, 4, 127, 128, 300} {
		whole := frame(t, noise(int64(size), size))
		for n := range len(whole) {
			if p, behind, e := wire.Unframe(whole[:n]); len(p) != 0 || len(behind) != 0 || e != api.ErrShort {
				t.Errorf("%d of %d bytes: %x, %x, %v", n, len(whole), p, behind, e)
			}
		}
	}
}

// P1.7

func TestTurnedFrames(t *testing.T) {
	for _, size := range []int{0, 1, 4, 127, 128} {
		b := frame(t, noise(int64(size), size))
		for at := len(b) - 4 - size; at < len(b); at++ {
			for bits := 1; bits < 256; bits++ {
				b[at] ^= byte(bits)
				if p, behind, e := wire.Unframe(b); len(p) != 0 || len(behind) != 0 || e != api.ErrSum {
					t.Errorf("byte %d of %d turned by %02x: %v", at, len(b), bits, e)
				}
				b[at] ^= byte(bits)
			}
		}
	}
}

// Rules that hold everywhere: Objects, Memory, Ends.

func TestReadersThatNoCallMade(t *testing.T) {
	for name, r := range map[string]*wire.Reader{"nil": nil, "plain": {}} {
		if n, e := r.Uint(); n != 0 || e != api.ErrNil {
			t.Errorf("%s: Uint %d, %v", name, n, e)
		}
		if b, e := r.Byte(); b != 0 || e != api.ErrNil {
			t.Errorf("%s: Byte %d, %v", name, b, e)
		}
		if s, e := r.Text(9); s != "" || e != api.ErrNil {
			t.Errorf("%s: Text %q, %v", name, s, e)
		}
		if r.End() != api.ErrNil || r.Left() != 0 {
			t.Errorf("%s: End %v, Left %d", name, r.End(), r.Left())
		}
	}
}

func TestWritersLeaveTheRoomBehindAList(t *testing.T) {
	room := bytes.Repeat([]byte{7}, 64)
	before := slices.Clone(room)
	b := room[:2]
	number, text := wire.Put(b, 300), wire.Text(b, "hey")
	framed := frame(t, b)
	for _, x := range [][]byte{number, text, framed} {
		for i := range x[:cap(x)] {
			x[:cap(x)][i] = 9
		}
	}
	if !bytes.Equal(room, before) {
		t.Errorf("what was handed in is now %x", room)
	}
}

func TestUnframeAnswersNewMemory(t *testing.T) {
	b := append(frame(t, []byte("abc")), "behind"...)
	before := slices.Clone(b)
	p, behind, _ := wire.Unframe(b)
	for i := range p[:cap(p)] {
		p[:cap(p)][i] = 'x'
	}
	if string(behind) != "behind" || !bytes.Equal(b, before) {
		t.Errorf("changing p changed %q or %x", behind, b)
	}
	for i := range behind[:cap(behind)] {
		behind[:cap(behind)][i] = 'y'
	}
	if string(p) != "xxx" || !bytes.Equal(b, before) {
		t.Errorf("changing what is behind changed %q or %x", p, b)
	}
}

func TestReaderHasItsOwnCopy(t *testing.T) {
	b := []byte("\x05\x03hey")
	r := wire.Over(b)
	clear(b)
	if n, e := r.Uint(); n != 5 || e != api.OK {
		t.Errorf("%d, %v", n, e)
	}
	if s, e := r.Text(3); s != "hey" || e != api.OK {
		t.Errorf("%q, %v", s, e)
	}
}

func TestAnyBytesEnd(t *testing.T) {
	for seed := range int64(20000) {
		b := noise(seed, int(seed%24))
		wire.Unframe(b)
		r := wire.Over(b)
		for call := seed; r.Left() > 0; call /= 3 {
			left := r.Left()
			switch call % 3 {
			case 0:
				r.Uint()
			case 1:
				r.Text(int(seed%7) - 1)
			}
			if _, e := r.Byte(); e == api.OK && r.Left() >= left {
				t.Fatalf("%x: %d left, then %d", b, left, r.Left())
			}
		}
	}
}
