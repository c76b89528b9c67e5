package aries_test

import (
	"bytes"
	"math"
	"strings"
	"testing"

	"rostrum/api"
	"rostrum/aries"
	"rostrum/disk"
)

var small = layout{logs: 8, pages: 6, buffers: 3}

// P6.1

func TestOpenRefuses(t *testing.T) {
	d := small.fresh(t) // of 15 sectors
	wrong := small.disk(t, small.image(1, []byte("x")), nil)
	for _, c := range []struct {
		name                 string
		d                    *disk.Disk
		logs, pages, buffers int
		want                 api.Errno
	}{
		{"no disk", nil, 8, 6, 3, api.ErrNil},
		{"a plain disk", &disk.Disk{}, 8, 6, 3, api.ErrNil},
		{"no disk, wrong numbers", nil, -1, -1, -1, api.ErrNil},
		{"no log", d, 0, 6, 3, api.ErrArg},
		{"a log below 0", d, -1, 6, 3, api.ErrArg},
		{"a log far below 0", d, math.MinInt, 6, 3, api.ErrArg},
		{"a log too long", d, 16, 6, 3, api.ErrArg},
		{"a log far too long", d, math.MaxInt, 6, 3, api.ErrArg},
		{"a log of all sectors", d, 15, 1, 3, api.ErrArg},
		{"no pages", d, 8, 0, 3, api.ErrArg},
		{"pages below 0", d, 8, -1, 3, api.ErrArg},
		{"pages far below 0", d, 8, math.MinInt, 3, api.ErrArg},
		{"one page too many", d, 8, 8, 3, api.ErrArg},
		{"far too many pages", d, 8, math.MaxInt, 3, api.ErrArg},
		{"no buffers", d, 8, 6, 0, api.ErrArg},
		{"buffers below 0", d, 8, 6, math.MinInt, api.ErrArg},
		{"one buffer too many", d, 8, 6, api.MaxBuffers + 1, api.ErrArg},
		{"far too many buffers", d, 8, 6, math.MaxInt, api.ErrArg},
		{"a wrong record", wrong, 8, 6, 3, api.ErrLog},
		{"a wrong record, no pages", wrong, 8, 0, 3, api.ErrArg},
		{"a wrong record, no buffers", wrong, 8, 6, 0, api.ErrArg},
	} {
		before := c.d.Copy()
		if m, e := aries.Open(c.d, c.logs, c.pages, c.buffers); m != nil || e != c.want {
			t.Errorf("%s: %v, %v, want %v", c.name, m, e, c.want)
		}
		if before != nil && !sameDisk(before, c.d) {
			t.Errorf("%s: the disk has changed", c.name)
		}
	}
}

func TestOpenTakesTheLimits(t *testing.T) {
	for _, y := range []layout{{1, 1, 1}, {1, 14, api.MaxBuffers}, {14, 1, 1}, {8, 7, 3}} {
		d, _ := disk.New(15)
		m := y.open(t, d)
		if m.Pages() != y.pages || m.Records() != 0 || len(m.Active()) != 0 || !sameDisk(d, small.fresh(t)) {
			t.Errorf("%v: %d pages, %d records, open are %v", y, m.Pages(), m.Records(), m.Active())
		}
		for _, b := range loads(t, m) {
			if !bytes.Equal(b, make([]byte, api.Load)) {
				t.Errorf("%v: a new page is %q", y, b)
			}
		}
	}
	d, _ := disk.New(api.MaxSectors)
	m, e := aries.Open(d, 96, 4000, api.MaxBuffers)
	if e != api.OK || m.Pages() != 4000 {
		t.Fatal(e)
	}
	tx := begin(t, m, 1)
	write(t, m, tx, 3999, 0, "last")
	done(t, "Commit", m.Commit(tx))
}

// Records that can and can't be

func TestRecordsThatCantBe(t *testing.T) {
	long := strings.Repeat("x", api.Load)
	for name, rec := range map[string][]byte{
		"kind 0":                        numbers(0, 1),
		"kind 5":                        numbers(5, 1),
		"a great kind":                  numbers(math.MaxInt, 1),
		"no transaction":                numbers(3),
		"half a number":                 {3, 0x80},
		"a number of another form":      {3, 0x81, 0},
		"a kind of another form":        {0x83, 0, 1},
		"a commit above 2^40":           numbers(3, 1<<40+1),
		"an end above 2^40":             numbers(4, 1<<40+1),
		"a far greater transaction":     numbers(4, math.MaxInt),
		"a number too great":            append([]byte{4}, bytes.Repeat([]byte{0xff}, 9)...),
		"more behind a commit":          append(commit(1), 0),
		"more behind an end":            append(end(1), 0),
		"more behind an update":         append(update(1, 0, 0, "a", "b"), 0),
		"more behind a compensation":    append(compensation(1, 0, 0, "a", 1), 0),
		"an update above 2^40":          update(1<<40+1, 0, 0, "a", "b"),
		"a compensation above 2^40":     compensation(1<<40+1, 0, 0, "a", 1),
		"an update of no page":          update(1, 6, 0, "a", "b"),
		"a compensation of no page":     compensation(1, 6, 0, "a", 1),
		"an update of a great page":     update(1, math.MaxInt, 0, "a", "b"),
		"an update without bytes":       update(1, 0, 0, "", ""),
		"a compensation without bytes":  compensation(1, 0, 0, "", 1),
		"an update past the end":        update(1, 0, 111, "ab", "cd"),
		"a compensation past the end":   compensation(1, 0, 111, "ab", 1),
		"an update at the end":          update(1, 0, 112, "a", "b"),
		"an update far past the end":    update(1, 0, math.MaxInt, "a", "b"),
		"a compensation far past it":    compensation(1, 0, math.MaxInt, "a", 1),
		"an update of a page and one":   update(1, 0, 0, long+"x", long+"x"),
		"a page and one, one behind":    update(1, 0, 1, long, long),
		"bytes of a length that is not": update(1, 0, 0, "ab", "c"),
		"fewer bytes ahead":             update(1, 0, 0, "a", "bc"),
		"no bytes ahead":                update(1, 0, 0, "", "b"),
		"no bytes behind":               update(1, 0, 0, "a", ""),
		"an update that ends":           numbers(1, 1, 0, 0),
		"an update that ends in a text": update(1, 0, 0, "a", "bcd")[:8],
		"an update of one text":         append(numbers(1, 1, 0, 0), text("a")...),
		"a compensation that ends":      append(numbers(2, 1, 0, 0), text("a")...),
		"an update without a place":     numbers(1, 1, 0),
	} {
		for _, recs := range [][][]byte{{rec}, {update(1, 0, 0, "\x00", "a"), commit(1), rec}, {rec, commit(1)}} {
			d := small.disk(t, small.image(1, recs...), nil)
			before := d.Copy()
			if m, e := aries.Open(d, small.logs, small.pages, small.buffers); m != nil || e != api.ErrLog {
				t.Errorf("%s: %v, %v", name, m, e)
			}
			if !sameDisk(before, d) {
				t.Errorf("%s: the disk has changed", name)
			}
		}
	}
}

func TestRecordsThatCanBe(t *testing.T) {
	long := strings.Repeat("x", api.Load)
	for name, rec := range map[string][]byte{
		"a commit of 2^40":              commit(1 << 40),
		"an end of 2^40":                end(1 << 40),
		"an update of a whole page":     update(1, 5, 0, string(make([]byte, api.Load)), long),
		"a compensation of a page":      compensation(1, 5, 0, long, 1),
		"an update of the last byte":    update(1, 0, 111, "\x00", "b"),
		"a compensation of it":          compensation(1, 0, 111, "a", 1),
		"a compensation of what is not": compensation(1, 0, 0, "a", math.MaxInt),
		"an update that changes none":   update(1, 0, 0, "a", "a"),
	} {
		d := small.disk(t, small.image(1, rec, end(1)), nil)
		if m, e := aries.Open(d, small.logs, small.pages, small.buffers); e != api.OK || m.Records() != 2 {
			t.Errorf("%s: %v", name, e)
		}
	}
}

// TestWrongRecordsAheadOfRecovery: a page that can't be read is told only if all records can be.
func TestWrongRecordsAheadOfRecovery(t *testing.T) {
	recs := [][]byte{update(1, 0, 0, "\x00", "a"), update(1, 2, 0, "\x00", "b")}
	for _, c := range []struct {
		recs [][]byte
		want api.Errno
	}{{recs, api.ErrSum}, {append(recs, []byte("x")), api.ErrLog}} {
		d := small.disk(t, small.image(1, c.recs...), map[int][]byte{2: noise(1, api.Size)})
		before := d.Copy()
		if m, e := aries.Open(d, small.logs, small.pages, 1); m != nil || e != c.want {
			t.Errorf("%v, %v, want %v", m, e, c.want)
		}
		if !sameDisk(before, d) {
			t.Error("the disk has changed")
		}
	}
}

// Done again

func TestRecordsAboveThePagesAreDoneAgain(t *testing.T) {
	recs := [][]byte{
		update(1, 3, 0, "\x00\x00", "ab"), update(1, 3, 4, "\x00", "c"), commit(1),
		update(2, 3, 1, "b", "d"), compensation(2, 3, 1, "e", 4), end(2),
	}
	for lsn, want := range []string{"ae\x00\x00c", "?e??c", "?e???", "?e???", "?e???", "?????", "?????", "?????"} {
		var sector []byte
		if lsn == 0 {
			sector = make([]byte, api.Size)
		} else {
			sector = pageSector(lsn, begins("?????")) // so that it can be told what is done again
		}
		d := small.disk(t, small.image(1, recs...), map[int][]byte{3: sector})
		m := small.open(t, d)
		if m.Records() != len(recs) {
			t.Errorf("lsn %d: %d records", lsn, m.Records())
		}
		tx := begin(t, m, 3)
		wantBytes(t, m, tx, 3, want+"\x00")
		done(t, "Commit", m.Commit(tx))
		done(t, "Checkpoint", m.Checkpoint())
		small.wantOnDisk(t, d, 3, max(lsn, 5), want)
	}
}

// TestNumbersOfALogBegunAnew: the records' numbers begin with the log's first one.
func TestNumbersOfALogBegunAnew(t *testing.T) {
	for _, first := range []int{1, 2, 1000, greatest - 3} {
		recs := [][]byte{update(7, 3, 0, "\x00", "a"), update(7, 3, 1, "\x00", "b"), commit(7)}
		d := small.disk(t, small.image(first, recs...), map[int][]byte{3: pageSector(first, begins("??"))})
		m := small.open(t, d)
		done(t, "Checkpoint", m.Checkpoint())
		small.wantOnDisk(t, d, 3, first+1, "?b")
	}
}

func TestRecoveryWithoutLosersForcesNothing(t *testing.T) {
	recs := [][]byte{update(1, 3, 0, "\x00", "a"), update(1, 2, 0, "\x00", "b"), update(1, 1, 0, "\x00", "c"), commit(1), end(2)}
	d := small.disk(t, small.image(1, recs...), nil)
	d.Write(small.logs+small.pages, noise(1, api.Size))
	m := small.open(t, d)
	if n := len(d.Pending()); n != 1 || m.Records() != 5 {
		t.Errorf("%d writes are pending, %d records", n, m.Records())
	}
}

// Taken back

func TestLosersAreTakenBack(t *testing.T) {
	recs := [][]byte{
		update(1, 0, 0, "\x00\x00", "ab"), // 1
		update(2, 1, 5, "\x00", "c"),      // 2
		update(1, 0, 1, "b", "d"),         // 3
		update(3, 2, 0, "\x00", "e"),      // 4
		commit(3),                         // 5
		update(2, 3, 0, "\x00", "f"),      // 6
		update(4, 4, 0, "\x00", "g"),      // 7
		compensation(4, 4, 0, "\x00", 7),  // 8
		end(4),                            // 9
	}
	for _, buffers := range []int{1, 2, 64} {
		y := layout{small.logs, small.pages, buffers}
		d := y.disk(t, y.image(1, recs...), nil)
		m := y.open(t, d)
		want := append(recs[:len(recs):len(recs)],
			compensation(2, 3, 0, "\x00", 6),
			compensation(2, 1, 5, "\x00", 2),
			end(2),
			compensation(1, 0, 1, "b", 3),
			compensation(1, 0, 0, "\x00\x00", 1),
			end(1),
		)
		wantRecords(t, y.durable(t, d), want...)
		wantActive(t, m)
		if m.Records() != len(want) {
			t.Errorf("%d records", m.Records())
		}
		blank := make([]byte, api.Load)
		wantLoads(t, loads(t, m), [][]byte{blank, blank, begins("e"), blank, blank, blank})
		done(t, "Checkpoint", m.Checkpoint())
		for n, lsn := range []int{14, 11, 4, 10, 8} {
			if n != 2 {
				y.wantOnDisk(t, d, n, lsn, "")
			}
		}
	}
}

func TestWhatIsTakenBackAlreadyIsNotTakenBackAgain(t *testing.T) {
	recs := [][]byte{
		update(5, 0, 0, "\x00", "a"),
		update(5, 0, 1, "\x00", "b"),
		update(5, 0, 2, "\x00", "c"),
		compensation(5, 0, 2, "\x00", 3),
		compensation(5, 0, 1, "\x00", 2),
		compensation(5, 0, 0, "\x00", 1),
	}
	for stop := 3; stop <= 6; stop++ {
		d := small.disk(t, small.image(1, recs[:stop]...), nil)
		m := small.open(t, d)
		wantRecords(t, small.durable(t, d), append(recs[:6:6], end(5))...)
		wantLoads(t, loads(t, m), [][]byte{make([]byte, api.Load)})
	}
}

// TestOnlyItsOwnCompensationsCount: another transaction's takes nothing of it back.
func TestOnlyItsOwnCompensationsCount(t *testing.T) {
	recs := [][]byte{
		update(1, 0, 0, "\x00", "a"),
		update(2, 1, 0, "\x00", "b"),
		compensation(2, 1, 0, "\x00", 1),
		end(2),
	}
	d := small.disk(t, small.image(1, recs...), nil)
	small.open(t, d)
	wantRecords(t, small.durable(t, d), append(recs, compensation(1, 0, 0, "\x00", 1), end(1))...)
}

// TestNumbersOfUpdatesAreTheLogs: what compensations name begins with the log's first number too.
func TestNumbersOfUpdatesAreTheLogs(t *testing.T) {
	recs := [][]byte{
		update(1, 0, 0, "\x00", "a"),
		update(1, 0, 1, "\x00", "b"),
		compensation(1, 0, 1, "\x00", 101),
	}
	d := small.disk(t, small.image(100, recs...), nil)
	small.open(t, d)
	wantRecords(t, small.durable(t, d), append(recs, compensation(1, 0, 0, "\x00", 100), end(1))...)
}

func TestACommitOrAnEndIsEnough(t *testing.T) {
	for _, over := range [][]byte{commit(1), end(1)} {
		recs := [][]byte{update(1, 0, 0, "\x00", "a"), over}
		d := small.disk(t, small.image(1, recs...), nil)
		m := small.open(t, d)
		wantRecords(t, small.durable(t, d), recs...)
		wantLoads(t, loads(t, m), [][]byte{begins("a")})
	}
}

// TestTheGreatestIsTakenBackFirst, whatever the order of their records is.
func TestTheGreatestIsTakenBackFirst(t *testing.T) {
	var recs, back [][]byte
	for i, tx := range []int{300, 2, 1 << 40, 17} {
		recs = append(recs, update(tx, i, 0, "\x00", "a"))
	}
	for _, i := range []int{2, 0, 3, 1} {
		tx := []int{300, 2, 1 << 40, 17}[i]
		back = append(back, compensation(tx, i, 0, "\x00", i+1), end(tx))
	}
	d := small.disk(t, small.image(1, recs...), nil)
	small.open(t, d)
	wantRecords(t, small.durable(t, d), append(recs, back...)...)
}

// Errors in recovery

func TestRecoveryTellsThePoolsErrors(t *testing.T) {
	recs := [][]byte{update(1, 0, 0, "\x00", "a"), update(2, 2, 0, "\x00", "b"), commit(2)}
	for _, c := range []struct {
		sector []byte
		want   api.Errno
	}{{noise(1, api.Size), api.ErrSum}, {seal([]byte("Q")), api.ErrForm}} {
		for n := range small.pages {
			d := small.disk(t, small.image(1, recs...), map[int][]byte{n: c.sector})
			before := d.Copy()
			m, e := aries.Open(d, small.logs, small.pages, small.buffers)
			if n != 0 && n != 2 {
				if m == nil || e != api.OK {
					t.Errorf("page %d, that no record names: %v", n, e)
				}
				continue
			}
			if m != nil || e != c.want {
				t.Errorf("page %d: %v, %v, want %v", n, m, e, c.want)
			}
			if !sameDisk(before, d) {
				t.Errorf("page %d: the disk has changed", n)
			}
		}
	}
}

// filled is records that take so many bytes of a log, ten or more, of the transaction 2, that is over.
func filled(room int) [][]byte {
	recs := [][]byte{end(2)}
	for room -= size(recs...); room > 0; room -= size(recs[len(recs)-1]) {
		n := min(room, 119)
		if left := room - n; left > 0 && left < 8 {
			n -= 8
		}
		recs = append(recs, compensation(2, 1, 0, strings.Repeat("f", n-7), 1))
	}
	return recs
}

// TestOpenBehindOneThatFailed: it finds what it would have found without that.
func TestOpenBehindOneThatFailed(t *testing.T) {
	recs := [][]byte{
		update(1, 0, 0, "\x00", "a"), update(1, 1, 0, "\x00", "b"), commit(1),
		update(2, 2, 0, "\x00", "c"), update(3, 3, 0, "\x00", "d"), update(2, 4, 0, "\x00", "e"),
	}
	for n := range 5 {
		for buffers := 1; buffers < 4; buffers++ {
			y := layout{small.logs, small.pages, buffers}
			d := y.disk(t, y.image(1, recs...), map[int][]byte{n: noise(1, api.Size)})
			for range 2 {
				if m, e := aries.Open(d, y.logs, y.pages, y.buffers); m != nil || e != api.ErrSum {
					t.Fatalf("page %d: %v, %v", n, m, e)
				}
			}
			done(t, "Write", d.Write(y.logs+n, make([]byte, api.Size)))
			m := y.open(t, d)
			blank := make([]byte, api.Load)
			wantLoads(t, loads(t, m), [][]byte{begins("a"), begins("b"), blank, blank, blank})
			wantRecords(t, y.durable(t, d), append(recs[:6:6],
				compensation(3, 3, 0, "\x00", 5), end(3),
				compensation(2, 4, 0, "\x00", 6), compensation(2, 2, 0, "\x00", 4), end(2))...)
		}
	}
}

func TestRecoveryTellsAFullLog(t *testing.T) {
	old := strings.Repeat("o", api.Load)
	first := update(1, 0, 0, old, strings.Repeat("n", api.Load))
	back := [][]byte{compensation(1, 0, 0, old, 1), end(1)}
	for spare := range size(back...) + 20 {
		y := layout{logs: 6, pages: 2, buffers: 2}
		recs := append([][]byte{first}, filled(y.logs*api.Load-size(first)-spare)...)
		d := y.disk(t, y.image(1, recs...), nil)
		before := d.Copy()
		m, e := aries.Open(d, y.logs, y.pages, y.buffers)
		if spare >= size(back...) {
			if m == nil || e != api.OK {
				t.Fatalf("%d bytes are left: %v", spare, e)
			}
			wantRecords(t, y.durable(t, d), append(recs, back...)...)
			continue
		}
		if m != nil || e != api.ErrFull {
			t.Fatalf("%d bytes are left: %v, %v", spare, m, e)
		}
		if !sameDisk(before, d) {
			t.Fatalf("%d bytes are left: the disk has changed", spare)
		}
	}
}

func TestNumbersOfRecordsEnd(t *testing.T) {
	d := small.disk(t, small.image(greatest, update(1, 0, 0, "\x00", "a")), nil)
	if m, e := aries.Open(d, small.logs, small.pages, small.buffers); m != nil || e != api.ErrFull {
		t.Errorf("an update of 2^62 can't be taken back: %v, %v", m, e)
	}
	d = small.disk(t, small.image(greatest, update(1, 0, 0, "\x00", "a"), end(1)), nil)
	m := small.open(t, d)
	wantLoads(t, loads(t, m), [][]byte{begins("a")})
}
