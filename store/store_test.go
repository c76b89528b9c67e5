package store_test

import (
	"bytes"
	"encoding/binary"
	"math"
	"slices"
	"strconv"
	"strings"
	"testing"

	"rostrum/api"
	"rostrum/aries"
	"rostrum/btree"
	"rostrum/disk"
	"rostrum/log"
	"rostrum/store"
)

// P8.1

func TestOpenOfANewDisk(t *testing.T) {
	y := layout{logs: 20, pages: 6}
	d := y.fresh(t)
	s := y.open(t, d)
	contents{}.want(t, s)
	wantFree(t, s, 4)
	if _, e := s.Get("a"); e != api.ErrGone {
		t.Errorf("Get: %v", e)
	}
	recs := y.records(t, d)
	if len(recs) != 3 || recs[0][0] != 1 || recs[1][0] != 1 || !bytes.Equal(recs[2], []byte{3, 1}) {
		t.Fatalf("the log has %x", recs)
	}
	if len(d.Pending()) > 0 {
		t.Error("what Open did is not durable")
	}
	pages := y.loads(t, d)
	if !bytes.Equal(pages[0][:8], []byte{1, 0, 2, 0, 0, 0, 1, 0}) || !bytes.Equal(pages[1][:3], []byte{1, 0, 0}) {
		t.Errorf("page 0 is %x, page 1 %x", pages[0], pages[1])
	}
	for range 3 {
		s = y.open(t, d)
		if got := y.records(t, d); len(got) != 3 {
			t.Fatalf("opened again, the log has %x", got)
		}
		wantFree(t, s, 4)
	}
}

func TestOpenRefuses(t *testing.T) {
	junk := noise(1, api.Size)
	image := func(at ...int) *disk.Disk {
		d, _ := disk.New(15)
		for _, i := range at {
			d.Write(i, junk)
		}
		d.Flush()
		d.Write(14, junk)
		return d
	}
	for _, c := range []struct {
		name        string
		d           *disk.Disk
		logs, pages int
		want        api.Errno
	}{
		{"no disk", nil, 5, 5, api.ErrNil},
		{"a plain disk", &disk.Disk{}, 5, 5, api.ErrNil},
		{"no disk, wrong numbers", nil, -1, -1, api.ErrNil},
		{"no log", image(), 0, 5, api.ErrArg},
		{"a log below 0", image(), math.MinInt, 5, api.ErrArg},
		{"a log too long", image(), 16, 5, api.ErrArg},
		{"a log of all sectors", image(), 15, 1, api.ErrArg},
		{"no pages", image(), 5, 0, api.ErrArg},
		{"pages below 0", image(), 5, math.MinInt, api.ErrArg},
		{"too many pages", image(), 5, 11, api.ErrArg},
		{"far too many pages", image(), 5, math.MaxInt, api.ErrArg},
		{"one page", image(3), 5, 1, api.ErrPage},
		{"a log of one sector", image(0), 1, 5, api.ErrFull},
		{"a log of three sectors", image(2), 3, 5, api.ErrFull},
		{"a page 0 that can't be read", image(3, 5), 5, 5, api.ErrSum},
		{"a page 1 that can't be read", image(3, 6), 5, 5, api.ErrSum},
	} {
		before := c.d.Copy()
		if s, e := store.Open(c.d, c.logs, c.pages); s != nil || e != c.want {
			t.Errorf("%s: %v, %v, want %v", c.name, s, e, c.want)
		}
		if before != nil && !sameDisk(before, c.d) {
			t.Errorf("%s: the disk has changed", c.name)
		}
	}
}

func TestOpenTakesTheLimits(t *testing.T) {
	for _, y := range []layout{{4, 2}, {4, 11}, {13, 2}, {96, 4000}} {
		s := y.open(t, y.fresh(t))
		contents{}.want(t, s)
		wantFree(t, s, y.pages-2)
	}
}

func TestOpenOfAWrongLog(t *testing.T) {
	y := layout{logs: 5, pages: 5}
	d := y.fresh(t)
	y.within(t, d, func(m *aries.Manager, tx int) { done(t, "Write", m.Write(tx, 4, 0, []byte("x"))) })
	z := layout{logs: 5, pages: 4} // there is no such page
	before := d.Copy()
	if s, e := store.Open(d, z.logs, z.pages); s != nil || e != api.ErrLog {
		t.Errorf("%v, %v", s, e)
	}
	if !sameDisk(before, d) {
		t.Error("the disk has changed")
	}
}

// TestOpenLeavesWhatIsThere: pages that are no tree are not made one, if page 0 has another byte than nought.
func TestOpenLeavesWhatIsThere(t *testing.T) {
	y := layout{logs: 20, pages: 6}
	for _, at := range []int{0, 6, 50, api.Load - 1} {
		d := y.fresh(t)
		y.within(t, d, func(m *aries.Manager, tx int) { done(t, "Write", m.Write(tx, 0, at, []byte{9})) })
		records := len(y.records(t, d))
		s := y.open(t, d)
		if n := len(y.records(t, d)); n != records {
			t.Errorf("a byte at %d: there are %d records more", at, n-records)
		}
		for name, e := range answers(s) {
			if e != api.ErrNode {
				t.Errorf("a byte at %d: %s: %v", at, name, e)
			}
		}
	}
}

// answers is what calls answer that are right if the store is.
func answers(s *store.Store) map[string]api.Errno {
	b, get := s.Get("a")
	k, keys := s.Keys()
	n, free := s.Free()
	l := map[string]api.Errno{"Get": get, "Keys": keys, "Free": free, "Batch": s.Batch([]api.Change{{Key: "a"}}), "Batch, gone": s.Batch([]api.Change{gone("a")})}
	if len(b) > 0 || len(k) > 0 || n != 0 {
		l["more than an error"] = api.OK
	}
	return l
}

// P8.2 and P8.3

func TestSizes(t *testing.T) {
	s := roomy.open(t, roomy.fresh(t))
	for i, n := range []int{0, 1, 2, 109, 110, 111, 219, 220, 221, 1429, 1430, 1431, 1499, api.MaxBytes} {
		b := noise(int64(i), n)
		batch(t, s, put("k", b))
		contents{"k": string(b)}.want(t, s)
		wantFree(t, s, roomy.pages-2-(n+109)/110)
		batch(t, s, gone("k"))
		contents{}.want(t, s)
		wantFree(t, s, roomy.pages-2)
	}
	for _, b := range [][]byte{make([]byte, 1), make([]byte, 110), make([]byte, 300), make([]byte, 1500)} {
		batch(t, s, put("k", b))
		contents{"k": string(b)}.want(t, s)
	}
}

// TestWhatThePagesHave: bytes of 250, of none, and those of a key that is put anew.
func TestWhatThePagesHave(t *testing.T) {
	d := roomy.fresh(t)
	s := roomy.open(t, d)
	b := noise(7, 250)
	batch(t, s, put("k", b), put("e", nil))
	want := func(pages map[int][]byte) {
		t.Helper()
		got := roomy.loads(t, d)
		for n, b := range pages {
			if !bytes.Equal(got[n], b) {
				t.Fatalf("page %d is\n%x, want\n%x", n, got[n], b)
			}
		}
	}
	leaf := func(l ...string) []byte {
		p := []byte{1, byte(len(l) / 2)}
		for _, s := range l {
			p = append(append(p, byte(len(s))), s...)
		}
		return append(p, make([]byte, api.Load-len(p))...)
	}
	head := func(unused, free int) []byte {
		return append([]byte{1, 0, byte(unused), 0, byte(free), 0, 1}, make([]byte, 105)...)
	}
	want(map[int][]byte{
		0: head(5, 0), 1: leaf("e", value(0, 0), "k", value(2, 250)),
		2: piece(3, b[:110]), 3: piece(4, b[110:220]), 4: piece(0, b[220:]),
	})
	// The pages 2, 3, 4 are Given in that order: so 4 is taken first.
	c := noise(8, 400)
	batch(t, s, put("k", c))
	want(map[int][]byte{
		0: head(6, 0), 1: leaf("e", value(0, 0), "k", value(4, 400)),
		4: piece(3, c[:110]), 3: piece(2, c[110:220]), 2: piece(5, c[220:330]), 5: piece(0, c[330:]),
	})
	batch(t, s, put("k", []byte("x")))
	want(map[int][]byte{0: head(6, 2), 1: leaf("e", value(0, 0), "k", value(5, 1)), 5: piece(0, []byte("x"))})
	batch(t, s, gone("e"), put("k", nil))
	want(map[int][]byte{0: head(6, 5), 1: leaf("k", value(0, 0))})
	batch(t, s, gone("k"), gone("e"), gone("never"))
	want(map[int][]byte{0: head(6, 5), 1: leaf()})
	wantFree(t, s, roomy.pages-2)
}

// TestChangeByChange: what an earlier one gives back a later one has.
func TestChangeByChange(t *testing.T) {
	y := layout{logs: 300, pages: 16} // with 14 pages for bytes
	s := y.open(t, y.fresh(t))
	a, b := noise(1, 1500), noise(2, 1500)
	batch(t, s, put("a", a))
	wantFree(t, s, 0)
	if e := s.Batch([]api.Change{put("b", []byte("x"))}); e != api.ErrFull {
		t.Errorf("no page is left: %v", e)
	}
	batch(t, s, put("a", b))
	contents{"a": string(b)}.want(t, s)
	if e := s.Batch([]api.Change{put("b", a), gone("a")}); e != api.ErrFull {
		t.Errorf("the pages are given back too late: %v", e)
	}
	contents{"a": string(b)}.want(t, s)
	batch(t, s, gone("a"), put("b", a))
	contents{"b": string(a)}.want(t, s)
	wantFree(t, s, 0)
	batch(t, s, put("b", nil), put("a", b))
	contents{"a": string(b), "b": ""}.want(t, s)
}

func TestKeysThatCantBe(t *testing.T) {
	s := roomy.open(t, roomy.fresh(t))
	most := strings.Repeat("k", api.MaxKey)
	for _, key := range []string{"", most + "k", strings.Repeat("k", 500)} {
		if b, e := s.Get(key); len(b) > 0 || e != api.ErrKey {
			t.Errorf("Get of %d bytes: %x, %v", len(key), b, e)
		}
		for _, c := range []api.Change{put(key, nil), put(key, []byte("x")), gone(key)} {
			if e := s.Batch([]api.Change{c}); e != api.ErrArg {
				t.Errorf("Batch of a key of %d bytes: %v", len(key), e)
			}
		}
	}
	batch(t, s, put(most, []byte("x")), put("\x00", []byte("y")), put("\xff", nil))
	contents{most: "x", "\x00": "y", "\xff": ""}.want(t, s)
}

func TestBatchesThatCantBe(t *testing.T) {
	d := roomy.fresh(t)
	s := roomy.open(t, d)
	batch(t, s, put("a", []byte("old")), put("b", []byte("old")))
	before := d.Copy()
	for name, l := range map[string][]api.Change{
		"a byte too many":               {put("a", make([]byte, api.MaxBytes+1))},
		"far too many":                  {put("a", make([]byte, 100000))},
		"gone, and bytes":               {{Key: "a", Bytes: []byte("x"), Gone: true}},
		"twice":                         {put("a", nil), put("a", nil)},
		"twice, and both gone":          {gone("a"), gone("a")},
		"once put, once gone":           {put("c", nil), gone("c")},
		"once gone, once put":           {gone("a"), put("b", nil), put("a", nil)},
		"a key that can't be, at last":  {put("a", []byte("new")), put("b", []byte("new")), put("", nil)},
		"too many bytes, at last":       {put("a", []byte("new")), gone("b"), put("c", make([]byte, 1501))},
		"gone, and bytes, at last":      {put("a", []byte("new")), {Key: "c", Bytes: []byte{0}, Gone: true}},
		"more than there is room for":   {put("a", make([]byte, 1500)), put("b", make([]byte, 1500)), put("a", make([]byte, 1500))},
		"twice, with others between":    {put("a", nil), put("b", nil), put("c", nil), put("b", nil)},
		"no key, and no other key":      {{}, {}},
		"no key, and all that can't be": {{Bytes: make([]byte, 2000), Gone: true}},
	} {
		if e := s.Batch(l); e != api.ErrArg {
			t.Errorf("%s: %v", name, e)
		}
		contents{"a": "old", "b": "old"}.want(t, s)
		if !sameDisk(before, d) {
			t.Errorf("%s: the disk has changed", name)
		}
	}
	batch(t, s)
	batch(t, s, []api.Change{}...)
	batch(t, s, api.Change{Key: "a", Bytes: []byte{}, Gone: true})
	contents{"b": "old"}.want(t, s)
}

func TestGetOfWhatIsNot(t *testing.T) {
	s := roomy.open(t, roomy.fresh(t))
	batch(t, s, put("b", []byte("x")))
	for _, key := range []string{"a", "c", "b\x00", "bb"} {
		if b, e := s.Get(key); len(b) > 0 || e != api.ErrGone {
			t.Errorf("Get(%q): %x, %v", key, b, e)
		}
	}
}

// Pages that lead astray

func TestBytesThatCantBe(t *testing.T) {
	b := bytes.Repeat([]byte("b"), 300)
	sound := map[int][]byte{2: piece(3, b[:110]), 3: piece(4, b[110:220]), 4: piece(0, b[220:])}
	for _, c := range []struct {
		name  string
		value string
		pages map[int][]byte
	}{
		{"no value", "", nil},
		{"a value of three bytes", "\x02\x00\x01", nil},
		{"a value of five bytes", "\x02\x00\x2c\x01\x00", nil},
		{"a value of twelve bytes", value(2, 300) + "\x00\x00\x00\x00\x00\x00\x00\x00", nil},
		{"no first page", value(0, 300), nil},
		{"no first page, one byte", value(0, 1), nil},
		{"a first page past the end", value(30, 300), nil},
		{"a first page far past the end", value(65535, 300), nil},
		{"a first page of no bytes", value(2, 0), nil},
		{"a page too few", value(2, 331), nil},
		{"far too few", value(2, 65535), nil},
		{"a page too many", value(2, 220), nil},
		{"all but one too many", value(2, 1), nil},
		{"more behind the last byte", value(2, 299), nil},
		{"a next page past the end", value(2, 300), map[int][]byte{3: piece(30, b[110:220])}},
		{"a next page far past the end", value(2, 300), map[int][]byte{2: piece(65535, b[:110])}},
		{"no next page", value(2, 300), map[int][]byte{3: piece(0, b[110:220])}},
		{"a page behind the last one", value(2, 300), map[int][]byte{4: piece(5, b[220:])}},
		{"a page that leads to itself", value(2, 300), map[int][]byte{2: piece(2, b[:110])}},
		{"a page that leads back", value(2, 300), map[int][]byte{4: piece(2, b[220:])}},
		{"a byte at the end of the last page", value(2, 300), map[int][]byte{4: append(piece(0, b[220:])[:111], 1)}},
	} {
		y := layout{logs: 100, pages: 30}
		d := y.fresh(t)
		y.open(t, d)
		lay := func(value string, pages map[int][]byte) *store.Store {
			y.within(t, d, func(m *aries.Manager, tx int) {
				for n, b := range pages {
					done(t, "Write", m.Write(tx, n, 0, b))
				}
				done(t, "Put", btree.Put(m, tx, "k", value))
				done(t, "Put", btree.Put(m, tx, "other", "?"))
			})
			return y.open(t, d)
		}
		y.within(t, d, func(m *aries.Manager, tx int) {
			for range 5 {
				_, e := btree.Take(m, tx)
				done(t, "Take", e)
			}
		})
		s := lay(value(2, 300), sound)
		if got, e := s.Get("k"); e != api.OK || !bytes.Equal(got, b) {
			t.Fatalf("%s: ahead of it: %x, %v", c.name, got, e)
		}
		s = lay(c.value, c.pages)
		free, e := s.Free()
		done(t, "Free", e)
		if got, e := s.Get("k"); len(got) > 0 || e != api.ErrNode {
			t.Errorf("%s: Get: %x, %v", c.name, got, e)
		}
		for _, change := range []api.Change{gone("k"), put("k", nil), put("k", b)} {
			if e := s.Batch([]api.Change{put("new", b), change}); e != api.ErrNode {
				t.Errorf("%s: Batch: %v", c.name, e)
			}
		}
		wantFree(t, s, free)
		if k, e := s.Keys(); e != api.OK || !slices.Equal(k, []string{"k", "other"}) {
			t.Errorf("%s: Keys: %q, %v", c.name, k, e)
		}
	}
}

// TestMoreThanMaxBytes: bytes that no Batch takes can be read all the same, if the pages have them.
func TestMoreThanMaxBytes(t *testing.T) {
	y := layout{logs: 200, pages: 40}
	d := y.fresh(t)
	y.open(t, d)
	b := noise(3, 2000)
	y.within(t, d, func(m *aries.Manager, tx int) {
		done(t, "by hand", byHand(t, m, tx, []api.Change{put("k", b)}, func() {}))
	})
	s := y.open(t, d)
	contents{"k": string(b)}.want(t, s)
	batch(t, s, gone("k"))
	wantFree(t, s, 38)
}

// TestPagesThatCantBeRead: their errors are told, and what does not need them goes on.
func TestPagesThatCantBeRead(t *testing.T) {
	y := layout{logs: 100, pages: 30}
	d := y.fresh(t)
	s := y.open(t, d)
	batch(t, s, put("a", noise(1, 300)), put("b", noise(2, 50))) // on the pages 2, 3, 4, and 5
	done(t, "Checkpoint", s.Checkpoint())
	d.Write(y.logs+3, noise(3, api.Size))
	d.Write(y.logs+6, noise(3, api.Size))
	d.Flush()
	s = y.open(t, d)
	if b, e := s.Get("a"); len(b) > 0 || e != api.ErrSum {
		t.Errorf("Get: %x, %v", b, e)
	}
	if e := s.Batch([]api.Change{put("b", nil), gone("a")}); e != api.ErrSum {
		t.Errorf("Batch: %v", e)
	}
	if e := s.Batch([]api.Change{put("b", noise(4, 111))}); e != api.ErrSum { // it takes 5 and 6
		t.Errorf("Batch of a page that can't be written: %v", e)
	}
	if b, e := s.Get("b"); e != api.OK || !bytes.Equal(b, noise(2, 50)) {
		t.Errorf("what another key has: %x, %v", b, e)
	}
	wantFree(t, s, 24)
	if k, e := s.Keys(); e != api.OK || len(k) != 2 {
		t.Errorf("Keys: %q, %v", k, e)
	}
}

// A log that is full

// TestManyBatchesInAShortLog: when it is full a checkpoint is made.
func TestManyBatchesInAShortLog(t *testing.T) {
	y := layout{logs: 40, pages: 60}
	d := y.fresh(t)
	s := y.open(t, d)
	want := contents{}
	anew := 0
	last := len(y.records(t, d))
	for i := range 200 {
		l := []api.Change{put("k"+strconv.Itoa(i%7), noise(int64(i), i*37%400))}
		batch(t, s, l...)
		want = want.with(l)
		n := len(y.records(t, d))
		if n < last {
			anew++
		}
		last = n
	}
	want.want(t, s)
	if anew < 3 {
		t.Errorf("the log was begun anew only %d times", anew)
	}
	want.want(t, y.open(t, d))
	y.whole(t, d, s)
}

// TestABatchTooGreatForTheLog: one checkpoint is made, and it is told that there is no room.
func TestABatchTooGreatForTheLog(t *testing.T) {
	y := layout{logs: 20, pages: 60}
	d := y.fresh(t)
	s := y.open(t, d)
	batch(t, s, put("a", []byte("old")), put("b", noise(1, 200)))
	want := contents{"a": "old", "b": string(noise(1, 200))}
	free, _ := s.Free()
	for range 3 {
		if e := s.Batch([]api.Change{put("a", noise(2, 1500)), put("c", noise(3, 1500)), gone("b")}); e != api.ErrFull {
			t.Fatalf("Batch: %v", e)
		}
		want.want(t, s)
		wantFree(t, s, free)
		if n := len(y.records(t, d)); n > 0 {
			t.Errorf("the log has %d records, though a checkpoint was made", n)
		}
		batch(t, s, put("a", []byte("old")))
	}
	want.want(t, y.open(t, d))
	if e := s.Batch([]api.Change{put("a", []byte("new"))}); e != api.OK {
		t.Errorf("a lesser one: %v", e)
	}
}

// TestATransactionsNumberTooGreat: there is none above 2^40; behind a checkpoint they begin anew.
func TestATransactionsNumberTooGreat(t *testing.T) {
	y := layout{logs: 40, pages: 20}
	d := y.fresh(t)
	y.open(t, d)
	l, _, e := log.Open(d, 0, y.logs)
	done(t, "log.Open", e)
	_, e = l.Append(binary.AppendUvarint([]byte{4}, 1<<40-2)) // an end
	done(t, "Append", e)
	done(t, "Force", l.Force())
	s := y.open(t, d)
	batch(t, s, put("a", []byte("1")))
	batch(t, s, put("b", []byte("2")))
	if b, e := s.Get("a"); len(b) > 0 || e != api.ErrFull {
		t.Errorf("Get: %x, %v", b, e)
	}
	if b, e := s.Get(""); len(b) > 0 || e != api.ErrKey {
		t.Errorf("Get without a key: %x, %v", b, e)
	}
	if k, e := s.Keys(); len(k) > 0 || e != api.ErrFull {
		t.Errorf("Keys: %q, %v", k, e)
	}
	if n, e := s.Free(); n != 0 || e != api.ErrFull {
		t.Errorf("Free: %d, %v", n, e)
	}
	batch(t, s, put("c", []byte("3")))
	contents{"a": "1", "b": "2", "c": "3"}.want(t, s)
	if n := len(y.records(t, d)); n > 6 {
		t.Errorf("the log has %d records, though a checkpoint was made", n)
	}
}

// P8.4

func TestCheckpoint(t *testing.T) {
	d := roomy.fresh(t)
	s := roomy.open(t, d)
	batch(t, s, put("a", noise(1, 500)), put("b", nil))
	want := contents{"a": string(noise(1, 500)), "b": ""}
	for range 2 {
		done(t, "Checkpoint", s.Checkpoint())
		if n := len(roomy.records(t, d)); n > 0 || len(d.Pending()) > 0 {
			t.Errorf("the log has %d records, %d writes are pending", n, len(d.Pending()))
		}
		want.want(t, s)
	}
	want.want(t, roomy.open(t, d))
	roomy.whole(t, d, s)
}

// TestNothingStaysOpen: each call's transaction is over when it answers, else there would soon be too many, and no checkpoint.
func TestNothingStaysOpen(t *testing.T) {
	y := layout{logs: 60, pages: 12}
	d := y.fresh(t)
	s := y.open(t, d)
	batch(t, s, put("a", noise(1, 100)))
	for range 2 * api.MaxTx {
		s.Get("a")
		s.Get("b")
		s.Get("")
		s.Keys()
		s.Free()
		s.Batch([]api.Change{gone("b")})
		s.Batch([]api.Change{put("a", nil), put("a", nil)})
		s.Batch([]api.Change{put("b", noise(1, 1500))}) // there are not so many pages
	}
	done(t, "Checkpoint", s.Checkpoint())
	contents{"a": string(noise(1, 100))}.want(t, s)
}

// TestReadingWritesNothing: neither to the log nor to the disk.
func TestReadingWritesNothing(t *testing.T) {
	d := roomy.fresh(t)
	s := roomy.open(t, d)
	batch(t, s, put("a", noise(1, 1000)), put("b", noise(2, 1500)))
	before := d.Copy()
	for range 5 {
		has(t, s)
		s.Free()
		s.Get("nothing")
	}
	if !sameDisk(before, d) {
		t.Error("the disk has changed")
	}
	batch(t, s, put("a", noise(1, 1000)))
}

// What holds everywhere

func TestStoresThatNoCallMade(t *testing.T) {
	for _, s := range []*store.Store{nil, {}} {
		for name, e := range answers(s) {
			if e != api.ErrNil {
				t.Errorf("%s: %v", name, e)
			}
		}
		if e := s.Checkpoint(); e != api.ErrNil {
			t.Errorf("Checkpoint: %v", e)
		}
		if _, e := s.Get(""); e != api.ErrNil {
			t.Errorf("Get without a key: %v", e)
		}
		if e := s.Batch([]api.Change{{}}); e != api.ErrNil {
			t.Errorf("Batch without a key: %v", e)
		}
		if e := s.Batch(nil); e != api.ErrNil {
			t.Errorf("Batch of nothing: %v", e)
		}
	}
}

// spoil turns all bytes that can be reached from a list, its spare room too.
func spoil(b []byte) {
	b = b[:cap(b)]
	for i := range b {
		b[i] ^= 0x55
	}
}

func TestMemory(t *testing.T) {
	s := roomy.open(t, roomy.fresh(t))
	room := noise(1, 400)
	l := append(make([]api.Change, 0, 8), put("a", room[:250]), put("b", room[:0]), gone("c"))
	batch(t, s, l...)
	if !bytes.Equal(room, noise(1, 400)) || l[0].Key != "a" || len(l[0].Bytes) != 250 || l[:8][3].Key != "" {
		t.Fatal("the argument has changed")
	}
	spoil(room)
	want := contents{"a": string(noise(1, 400)[:250]), "b": ""}
	want.want(t, s)
	x, _ := s.Get("a")
	y, _ := s.Get("a")
	spoil(x)
	if !bytes.Equal(y, noise(1, 400)[:250]) {
		t.Error("two answers share memory")
	}
	spoil(y)
	k, _ := s.Keys()
	for i := range k {
		k[i] = "z"
	}
	want.want(t, s)
}

// TestACopyIsTheSameStore: whoever copies the struct has no other one.
func TestACopyIsTheSameStore(t *testing.T) {
	s := roomy.open(t, roomy.fresh(t))
	c := *s
	batch(t, &c, put("a", []byte("x")))
	contents{"a": "x"}.want(t, s)
}

func TestTheSameCallsTwice(t *testing.T) {
	run := func() [][]byte {
		d := roomy.fresh(t)
		s := roomy.open(t, d)
		for i := range 30 {
			var l []api.Change
			for k := range 9 {
				c := put(string(rune('a'+(i+k*5)%26)), noise(int64(i), i*k%200))
				if (i+k)%4 == 0 {
					c = gone(c.Key)
				}
				l = append(l, c)
			}
			batch(t, s, l...)
		}
		return d.Image()
	}
	first := run()
	for range 3 {
		if !slices.EqualFunc(first, run(), bytes.Equal) {
			t.Fatal("the same calls leave another disk")
		}
	}
}

// TestAnyDisk: whatever bytes a disk has, no call panics.
func TestAnyDisk(t *testing.T) {
	for seed := range int64(400) {
		y := layout{logs: 30, pages: 20}
		d := y.fresh(t)
		s := y.open(t, d)
		batch(t, s, put("a", noise(seed, 300)), put("b", nil), put("c", noise(seed, 110)), put("d", noise(seed, 10)))
		r := noise(seed, 200)
		y.within(t, d, func(m *aries.Manager, tx int) {
			for i := range 1 + int(r[0])%6 {
				x := r[4*i+1:]
				n, off := int(x[0])%y.pages, int(x[1])%60
				b := x[2 : 3+int(x[2])%3]
				if n < 2 && x[3]%2 == 0 {
					b = binary.LittleEndian.AppendUint16(nil, uint16(x[2])%uint16(y.pages))
				}
				m.Write(tx, n, off, b)
			}
		})
		s, e := store.Open(d, y.logs, y.pages)
		if e != api.OK {
			t.Fatal(e)
		}
		for _, k := range []string{"a", "b", "c", "d", "e"} {
			s.Get(k)
			s.Batch([]api.Change{put(k, noise(seed, 150))})
			s.Keys()
			s.Free()
			s.Batch([]api.Change{gone(k), put("new", nil)})
		}
		s.Checkpoint()
	}
}

func TestTheExample(t *testing.T) {
	d := roomy.fresh(t)
	s := roomy.open(t, d)
	batch(t, s, put("a", []byte("1")), put("b", []byte("2")))
	done(t, "Crash", d.Crash(nil))
	contents{"a": "1", "b": "2"}.want(t, roomy.open(t, d))
}
