package page_test

import (
	"bytes"
	"encoding/binary"
	"hash/crc32"
	"math"
	"math/rand"
	"testing"

	"rostrum/api"
	"rostrum/page"
)

const greatest = 1 << 62

func noise(seed int64, n int) []byte {
	b := make([]byte, n)
	rand.New(rand.NewSource(seed)).Read(b)
	return b
}

// sealed is a sector of any head, number and load, put together by other means than the program's.
func sealed(head string, lsn uint64, load []byte) []byte {
	b := binary.LittleEndian.AppendUint64([]byte(head), lsn)
	b = append(b, load...)
	return binary.LittleEndian.AppendUint32(b, crc32.ChecksumIEEE(b))
}

func encode(t *testing.T, lsn int, load []byte) []byte {
	t.Helper()
	b, e := page.Encode(lsn, load)
	if e != api.OK {
		t.Fatalf("Encode(%d, %x): %v", lsn, load, e)
	}
	return b
}

// P4.1

func TestEncodeWritesTheSector(t *testing.T) {
	for _, lsn := range []int{0, 1, 255, 256, 0x0102030405060708, greatest - 1, greatest} {
		load := noise(int64(lsn), api.Load)
		if b, want := encode(t, lsn, load), sealed("\x50\x00\x00\x00", uint64(lsn), load); !bytes.Equal(b, want) {
			t.Errorf("lsn %d: %x, want %x", lsn, b, want)
		}
	}
	blank := make([]byte, api.Load)
	if b := encode(t, 1, blank); !bytes.Equal(b, sealed("\x50\x00\x00\x00", 1, blank)) {
		t.Errorf("noughts of lsn 1: %x", b)
	}
}

func TestNoughtsAreAPage(t *testing.T) {
	blank, sector := make([]byte, api.Load), make([]byte, api.Size)
	if b := encode(t, 0, blank); !bytes.Equal(b, sector) {
		t.Errorf("Encode: %x", b)
	}
	if lsn, load, e := page.Decode(sector); lsn != 0 || !bytes.Equal(load, blank) || e != api.OK {
		t.Errorf("Decode: %d, %x, %v", lsn, load, e)
	}
	for at := range blank {
		blank[at] = 1
		if b := encode(t, 0, blank); !bytes.Equal(b, sealed("\x50\x00\x00\x00", 0, blank)) {
			t.Errorf("a byte at %d: %x", at, b)
		}
		blank[at] = 0
	}
}

func TestEncodeRefuses(t *testing.T) {
	for _, lsn := range []int{-1, math.MinInt, greatest + 1, math.MaxInt} {
		if b, e := page.Encode(lsn, make([]byte, api.Load)); len(b) != 0 || e != api.ErrArg {
			t.Errorf("lsn %d: %x, %v", lsn, b, e)
		}
	}
	for _, n := range []int{0, 1, api.Load - 1, api.Load + 1, api.Size, 5000} {
		if b, e := page.Encode(3, make([]byte, n)); len(b) != 0 || e != api.ErrArg {
			t.Errorf("a load of %d bytes: %x, %v", n, b, e)
		}
	}
	if b, e := page.Encode(0, nil); len(b) != 0 || e != api.ErrArg {
		t.Errorf("no load: %x, %v", b, e)
	}
}

func TestDecodeAnswersTheFirstError(t *testing.T) {
	load, blank := noise(1, api.Load), make([]byte, api.Load)
	whole := sealed("\x50\x00\x00\x00", 7, load)
	torn := bytes.Clone(whole)
	torn[127]++
	strange := sealed("\x51\x00\x00\x00", 7, load)
	strange[60]++
	for _, c := range []struct {
		name string
		b    []byte
		want api.Errno
	}{
		{"nothing", nil, api.ErrForm},
		{"one byte too few", whole[:127], api.ErrForm},
		{"one byte too many", append(bytes.Clone(whole), 0), api.ErrForm},
		{"noughts, one too few", make([]byte, api.Size-1), api.ErrForm},
		{"noughts, one too many", make([]byte, api.Size+1), api.ErrForm},
		{"another sum", torn, api.ErrSum},
		{"another sum of another mark", strange, api.ErrSum},
		{"one byte and noughts", append([]byte{0x50}, make([]byte, api.Size-1)...), api.ErrSum},
		{"a mark of the log", sealed("\x4c\x00\x00\x00", 7, load), api.ErrForm},
		{"no mark", sealed("\x00\x00\x00\x00", 7, load), api.ErrForm},
		{"the second byte", sealed("\x50\x01\x00\x00", 7, load), api.ErrForm},
		{"the third byte", sealed("\x50\x00\x01\x00", 7, load), api.ErrForm},
		{"the fourth byte", sealed("\x50\x00\x00\x01", 7, load), api.ErrForm},
		{"an lsn above 2^62", sealed("\x50\x00\x00\x00", greatest+1, load), api.ErrForm},
		{"an lsn of 2^63", sealed("\x50\x00\x00\x00", 1<<63, load), api.ErrForm},
		{"the greatest lsn", sealed("\x50\x00\x00\x00", math.MaxUint64, load), api.ErrForm},
		{"another form of noughts", sealed("\x50\x00\x00\x00", 0, blank), api.ErrForm},
		{"a sum of noughts alone", sealed("\x00\x00\x00\x00", 0, blank), api.ErrForm},
	} {
		if lsn, load, e := page.Decode(c.b); lsn != 0 || len(load) != 0 || e != c.want {
			t.Errorf("%s: %d, %x, %v, want %v", c.name, lsn, load, e, c.want)
		}
	}
}

// P4.2

func TestWith(t *testing.T) {
	load := noise(2, api.Load)
	for off := range api.Load + 1 {
		for n := range api.Load - off + 1 {
			b := noise(int64(n), n)
			want := string(load[:off]) + string(b) + string(load[off+n:])
			if got, e := page.With(load, off, b); string(got) != want || e != api.OK {
				t.Fatalf("With(%d, %x) = %x, %v", off, b, got, e)
			}
		}
	}
}

func TestWithRefuses(t *testing.T) {
	for _, c := range []struct{ size, off, n int }{
		{0, 0, 0}, {api.Load - 1, 0, 1}, {api.Load + 1, 0, 1}, {api.Size, 0, 1},
		{api.Load, -1, 0}, {api.Load, -1, 1}, {api.Load, math.MinInt, 1}, {api.Load, math.MinInt, 0},
		{api.Load, 0, api.Load + 1}, {api.Load, 1, api.Load}, {api.Load, api.Load, 1}, {api.Load, api.Load + 1, 0},
		{api.Load, math.MaxInt, 0}, {api.Load, math.MaxInt, 1}, {api.Load, 111, 2},
	} {
		if got, e := page.With(make([]byte, c.size), c.off, make([]byte, c.n)); len(got) != 0 || e != api.ErrArg {
			t.Errorf("%d bytes at %d in %d: %x, %v", c.n, c.off, c.size, got, e)
		}
	}
}

func TestApart(t *testing.T) {
	for _, c := range []struct {
		a, b  string
		at, n int
	}{
		{"abcd", "axcy", 1, 3},
		{"abcd", "abcd", 0, 0},
		{"", "", 0, 0},
		{"a", "", 0, 1},
		{"", "abc", 0, 3},
		{"abc", "ab", 2, 1},
		{"ab", "abcde", 2, 3},
		{"xb", "abcde", 0, 5},
		{"abcd", "xbcd", 0, 1},
		{"abcd", "abcx", 3, 1},
		{"abcd", "xbcx", 0, 4},
		{"\x00", "", 0, 1},
	} {
		if at, n := page.Apart([]byte(c.a), []byte(c.b)); at != c.at || n != c.n {
			t.Errorf("Apart(%q, %q) = %d, %d", c.a, c.b, at, n)
		}
		if at, n := page.Apart([]byte(c.b), []byte(c.a)); at != c.at || n != c.n {
			t.Errorf("Apart(%q, %q) = %d, %d", c.b, c.a, at, n)
		}
	}
	if at, n := page.Apart(nil, []byte{}); at != 0 || n != 0 {
		t.Errorf("nothing and nothing: %d, %d", at, n)
	}
}

func TestApartTellsWhatWithNeeds(t *testing.T) {
	random := rand.New(rand.NewSource(3))
	for range 2000 {
		a := noise(random.Int63(), api.Load)
		b := bytes.Clone(a)
		first, last := api.Load, -1
		for range random.Intn(4) {
			at := random.Intn(api.Load)
			b[at] = ^a[at]
			first, last = min(first, at), max(last, at)
		}
		at, n := page.Apart(a, b)
		if last < 0 && (at != 0 || n != 0) || last >= 0 && (at != first || n != last-first+1) {
			t.Fatalf("%d, %d, want from %d to %d", at, n, first, last)
		}
		if got, e := page.With(a, at, b[at:at+n]); !bytes.Equal(got, b) || e != api.OK {
			t.Fatalf("%x is not made %x: %x, %v", a, b, got, e)
		}
	}
}

// P4.3

func TestThereAndBack(t *testing.T) {
	random := rand.New(rand.NewSource(4))
	for range 2000 {
		lsn, load := random.Intn(greatest+1)>>random.Intn(64), noise(random.Int63(), api.Load)
		if random.Intn(4) == 0 {
			clear(load)
		}
		got, back, e := page.Decode(encode(t, lsn, load))
		if got != lsn || !bytes.Equal(back, load) || e != api.OK {
			t.Fatalf("%d, %x is read as %d, %x, %v", lsn, load, got, back, e)
		}
	}
}

func TestOneForm(t *testing.T) {
	blank := make([]byte, api.Load)
	for _, head := range []string{"\x50\x00\x00\x00", "\x00\x00\x00\x00", "\x50\x00\x00\x80", "\x4c\x00\x00\x00"} {
		for _, lsn := range []uint64{0, 1, greatest, greatest + 1, 1 << 63, math.MaxUint64} {
			for _, load := range [][]byte{blank, noise(6, api.Load)} {
				b := sealed(head, lsn, load)
				if n, got, e := page.Decode(b); e == api.OK && !bytes.Equal(encode(t, n, got), b) {
					t.Errorf("%x is read, and written as %x", b, encode(t, n, got))
				}
			}
		}
	}
}

// P4.4

func TestTurned(t *testing.T) {
	for _, lsn := range []int{1, 0x50, 1 << 40, greatest} {
		for _, load := range [][]byte{make([]byte, api.Load), noise(5, api.Load)} {
			b := encode(t, lsn, load)
			for at := range b {
				for bits := 1; bits < 256; bits++ {
					b[at] ^= byte(bits)
					if n, got, e := page.Decode(b); n != 0 || len(got) != 0 || e != api.ErrSum {
						t.Fatalf("byte %d turned by %02x: %d, %x, %v", at, bits, n, got, e)
					}
					b[at] ^= byte(bits)
				}
			}
		}
	}
}

// Rules that hold everywhere: Memory, Ends.

// roomy is bytes with room behind them, and all of it.
func roomy(b []byte) ([]byte, []byte) {
	all := append(bytes.Clone(b), bytes.Repeat([]byte{0xaa}, 300)...)
	return all[:len(b)], all
}

func TestArgumentsAreNeitherChangedNorKept(t *testing.T) {
	load, all := roomy(noise(7, api.Load))
	was := bytes.Clone(all)
	sector, _ := page.Encode(9, load)
	with, _ := page.With(load, 3, []byte("abc"))
	same, _ := page.With(load, 0, nil)
	page.Apart(load, with)
	in, room := roomy(sector)
	kept := bytes.Clone(room)
	_, back, _ := page.Decode(in)
	if !bytes.Equal(all, was) || !bytes.Equal(room, kept) {
		t.Fatal("an argument was changed")
	}
	for _, answer := range [][]byte{sector, with, same, back} {
		answer = answer[:cap(answer)]
		for i := range answer {
			answer[i]++
		}
	}
	if !bytes.Equal(all, was) || !bytes.Equal(room, kept) {
		t.Error("an answer is an argument's memory")
	}
}

func TestAnswersAreNew(t *testing.T) {
	for _, load := range [][]byte{make([]byte, api.Load), noise(8, api.Load)} {
		a, b := encode(t, 0, load), encode(t, 0, load)
		_, x, _ := page.Decode(a)
		_, y, _ := page.Decode(b)
		for _, answer := range [][]byte{a, x} {
			for i := range answer {
				answer[i]++
			}
		}
		if !bytes.Equal(b, encode(t, 0, load)) || !bytes.Equal(y, load) {
			t.Error("two answers share memory")
		}
	}
}

func TestAnyBytesEnd(t *testing.T) {
	random := rand.New(rand.NewSource(9))
	for n := range 300 {
		b := noise(random.Int63(), n)
		if lsn, load, e := page.Decode(b); lsn != 0 || len(load) != 0 || e == api.OK {
			t.Errorf("%x is a page", b)
		}
		page.Apart(b, noise(1, 200))
		page.With(b, random.Int(), b)
		page.Encode(-random.Int(), b)
	}
}
