package aries_test

import (
	"bytes"
	"math"
	"strings"
	"testing"

	"rostrum/api"
	"rostrum/aries"
	"rostrum/disk"
)

// roomy is a layout in which nothing is full, and no page goes.
var roomy = layout{logs: 60, pages: 20, buffers: 20}

// P6.2

func TestBeginCountsUp(t *testing.T) {
	m := roomy.open(t, roomy.fresh(t))
	for n := 1; n <= api.MaxTx; n++ {
		begin(t, m, n)
	}
	for range 2 {
		if tx, e := m.Begin(); tx != 0 || e != api.ErrFull {
			t.Errorf("one too many: %d, %v", tx, e)
		}
	}
	wantActive(t, m, 1, 2, 3, 4, 5, 6, 7, 8, 9, 10, 11, 12, 13, 14, 15, 16)
	done(t, "Commit", m.Commit(3))
	done(t, "Abort", m.Abort(9))
	begin(t, m, 17)
	begin(t, m, 18)
	if tx, e := m.Begin(); tx != 0 || e != api.ErrFull {
		t.Errorf("one too many, again: %d, %v", tx, e)
	}
	wantActive(t, m, 1, 2, 4, 5, 6, 7, 8, 10, 11, 12, 13, 14, 15, 16, 17, 18)
}

func TestNumbersWithoutARecordComeAgain(t *testing.T) {
	m := roomy.open(t, roomy.fresh(t))
	begin(t, m, 1)
	begin(t, m, 2)
	done(t, "Abort", m.Abort(2))
	begin(t, m, 2)
	done(t, "Commit", m.Commit(1))
	begin(t, m, 3)
	write(t, m, 2, 0, 0, "\x00") // changes nothing
	done(t, "Commit", m.Commit(2))
	done(t, "Abort", m.Abort(3))
	begin(t, m, 1)
	write(t, m, 1, 0, 0, "a")
	begin(t, m, 2)
	done(t, "Abort", m.Abort(2))
	done(t, "Commit", m.Commit(1))
	begin(t, m, 2)
	write(t, m, 2, 0, 0, "b")
	done(t, "Abort", m.Abort(2))
	begin(t, m, 3)
	begin(t, m, 4)
	done(t, "Abort", m.Abort(3))
	done(t, "Abort", m.Abort(4))
	done(t, "Checkpoint", m.Checkpoint())
	begin(t, m, 1)
}

// TestNumbersOfOpenOnesCount: a record of a lower number than an open one's plays no part.
func TestNumbersOfOpenOnesCount(t *testing.T) {
	m := roomy.open(t, roomy.fresh(t))
	begin(t, m, 1)
	begin(t, m, 2)
	begin(t, m, 3)
	write(t, m, 1, 0, 0, "a")
	begin(t, m, 4)
	write(t, m, 3, 1, 0, "a")
	done(t, "Commit", m.Commit(4))
	done(t, "Commit", m.Commit(3))
	begin(t, m, 4)
}

func TestNumbersBehindOpen(t *testing.T) {
	for _, c := range []struct {
		recs [][]byte
		want int
	}{
		{nil, 1},
		{[][]byte{update(7, 0, 0, "\x00", "a"), commit(7)}, 8},
		{[][]byte{update(7, 0, 0, "\x00", "a")}, 8},
		{[][]byte{update(9, 0, 0, "\x00", "a"), update(7, 1, 0, "\x00", "a"), commit(7)}, 10},
		{[][]byte{commit(30), end(20)}, 31},
		{[][]byte{end(30), commit(20)}, 31},
		{[][]byte{compensation(30, 0, 0, "a", 1), end(30), commit(20)}, 31},
		{[][]byte{end(1<<40 - 1)}, 1 << 40},
		{[][]byte{end(1 << 40)}, 0},
		{[][]byte{update(1<<40, 0, 0, "\x00", "a")}, 0},
	} {
		m := small.open(t, small.disk(t, small.image(1, c.recs...), nil))
		if c.want > 0 {
			begin(t, m, c.want)
		}
		if c.want == 0 || c.want == 1<<40 {
			active := m.Active()
			if tx, e := m.Begin(); tx != 0 || e != api.ErrFull {
				t.Errorf("above 2^40: %d, %v", tx, e)
			}
			wantActive(t, m, active...)
		}
	}
}

func TestNumbersBehindACheckpointBeginAnew(t *testing.T) {
	m := small.open(t, small.disk(t, small.image(1, end(1<<40)), nil))
	done(t, "Checkpoint", m.Checkpoint())
	begin(t, m, 1)
}

// P6.3

// TestErrorsInOrder: of several that apply the first one is told.
func TestErrorsInOrder(t *testing.T) {
	d := roomy.fresh(t)
	m := roomy.open(t, d)
	a, b := begin(t, m, 1), begin(t, m, 2)
	write(t, m, a, 3, 0, "ab")
	d.Write(roomy.logs+5, noise(1, api.Size))
	d.Write(roomy.logs+6, seal([]byte("Q")))
	d.Flush()
	for _, c := range []struct {
		name         string
		tx, page     int
		read, writes api.Errno // the latter of no bytes at all
	}{
		{"no such transaction", 3, 3, api.ErrTx, api.ErrTx},
		{"the transaction 0", 0, 3, api.ErrTx, api.ErrTx},
		{"a transaction below 0", -1, -1, api.ErrTx, api.ErrTx},
		{"a far greater one", math.MaxInt, 20, api.ErrTx, api.ErrTx},
		{"a far lower one", math.MinInt, 5, api.ErrTx, api.ErrTx},
		{"no such page", b, 20, api.ErrPage, api.ErrPage},
		{"a page below 0", b, -1, api.ErrPage, api.ErrPage},
		{"a far greater page", a, math.MaxInt, api.ErrPage, api.ErrPage},
		{"a far lower page", a, math.MinInt, api.ErrPage, api.ErrPage},
		{"a page that another one changed", b, 3, api.ErrLocked, api.ErrLocked},
		{"a sector of another sum", b, 5, api.ErrSum, api.ErrSum},
		{"a sector of another form", b, 6, api.ErrForm, api.ErrForm},
		{"its own page", a, 3, api.OK, api.ErrArg},
		{"a page that nobody changed", b, 4, api.OK, api.ErrArg},
	} {
		unchanged(t, m, d, func() {
			if load, e := m.Read(c.tx, c.page); e != c.read || e != api.OK && len(load) > 0 {
				t.Errorf("%s: Read: %q, %v, want %v", c.name, load, e, c.read)
			}
			if e := m.Write(c.tx, c.page, 0, nil); e != c.writes {
				t.Errorf("%s: Write: %v, want %v", c.name, e, c.writes)
			}
			if e := m.Write(c.tx, c.page, -1, []byte("x")); e != c.writes {
				t.Errorf("%s: Write below 0: %v, want %v", c.name, e, c.writes)
			}
		})
	}
}

func TestBytesThatDoNotLieWithinAPage(t *testing.T) {
	d := roomy.fresh(t)
	m := roomy.open(t, d)
	tx := begin(t, m, 1)
	write(t, m, tx, 0, 0, "a")
	for _, c := range []struct{ off, n int }{
		{0, 0}, {5, 0}, {112, 0}, {-1, 0}, {-1, 1}, {-1, 112}, {-112, 112}, {112, 1}, {111, 2}, {1, 112}, {0, 113}, {0, 1 << 16},
		{math.MaxInt, 1}, {math.MinInt, 1}, {math.MaxInt, 0}, {math.MinInt, math.MaxInt16}, {113, 1},
	} {
		for page := range 2 {
			unchanged(t, m, d, func() {
				if e := m.Write(tx, page, c.off, bytes.Repeat([]byte("x"), c.n)); e != api.ErrArg {
					t.Errorf("%d bytes at %d: %v", c.n, c.off, e)
				}
			})
		}
	}
	wantBytes(t, m, tx, 0, "a\x00")
	for i, c := range []struct{ off, n int }{{0, 112}, {111, 1}, {0, 1}, {110, 2}, {1, 111}} {
		s := string(noise(int64(i), c.n))
		write(t, m, tx, 2+i, c.off, s)
		wantBytes(t, m, tx, 2+i, string(make([]byte, c.off))+s+string(make([]byte, api.Load-c.off-c.n)))
	}
}

func TestUpdatesInTheLog(t *testing.T) {
	d := roomy.fresh(t)
	m := roomy.open(t, d)
	a, b := begin(t, m, 1), begin(t, m, 2)
	write(t, m, a, 3, 0, "ab")
	write(t, m, b, 4, 110, "cd")
	write(t, m, a, 3, 1, "xyz")
	write(t, m, a, 3, 1, "xyz") // it is there already
	write(t, m, b, 19, 0, strings.Repeat("q", api.Load))
	write(t, m, a, 3, 0, "axyz\x00")
	write(t, m, b, 5, 0, string(make([]byte, api.Load)))
	if m.Records() != 4 || len(d.Pending()) != 0 {
		t.Errorf("%d records, %d writes", m.Records(), len(d.Pending()))
	}
	wantRecords(t, roomy.durable(t, d))
	done(t, "Commit", m.Commit(a))
	recs := [][]byte{
		update(1, 3, 0, "\x00\x00", "ab"),
		update(2, 4, 110, "\x00\x00", "cd"),
		update(1, 3, 1, "b\x00\x00", "xyz"),
		update(2, 19, 0, string(make([]byte, api.Load)), strings.Repeat("q", api.Load)),
		commit(1),
	}
	wantRecords(t, roomy.durable(t, d), recs...)
	if len(d.Pending()) != 0 || m.Records() != 5 {
		t.Errorf("%d records, %d writes", m.Records(), len(d.Pending()))
	}
	done(t, "Commit", m.Commit(b))
	wantRecords(t, roomy.durable(t, d), append(recs, commit(2))...)
	done(t, "Checkpoint", m.Checkpoint())
	roomy.wantOnDisk(t, d, 3, 3, "axyz")
	roomy.wantOnDisk(t, d, 4, 2, string(make([]byte, 110))+"cd")
	roomy.wantOnDisk(t, d, 19, 4, strings.Repeat("q", api.Load))
	roomy.wantOnDisk(t, d, 5, 0, "")
}

func TestAPageIsItsOwnersUntilTheEnd(t *testing.T) {
	for name, over := range map[string]func(m *aries.Manager, tx int) api.Errno{"Commit": (*aries.Manager).Commit, "Abort": (*aries.Manager).Abort} {
		d := roomy.fresh(t)
		m := roomy.open(t, d)
		a, b := begin(t, m, 1), begin(t, m, 2)
		wantBytes(t, m, a, 3, "\x00")
		write(t, m, a, 3, 0, "\x00") // no change, so b may read and write it
		wantBytes(t, m, b, 3, "\x00")
		write(t, m, b, 3, 1, "b")
		if _, e := m.Read(a, 3); e != api.ErrLocked {
			t.Errorf("Read: %v", e)
		}
		if e := m.Write(a, 3, 50, []byte("a")); e != api.ErrLocked {
			t.Errorf("Write: %v", e)
		}
		if e := m.Write(a, 3, 0, []byte("\x00")); e != api.ErrLocked {
			t.Errorf("Write without change: %v", e)
		}
		write(t, m, b, 3, 1, "\x00") // as it was, but by two updates
		if _, e := m.Read(a, 3); e != api.ErrLocked {
			t.Errorf("Read, it is as it was: %v", e)
		}
		write(t, m, b, 3, 1, "c")
		wantBytes(t, m, b, 3, "\x00c")
		wantBytes(t, m, a, 4, "\x00")
		done(t, name, over(m, b))
		want := map[string]string{"Commit": "\x00c", "Abort": "\x00\x00"}[name]
		wantBytes(t, m, a, 3, want)
		write(t, m, a, 3, 0, "a")
		c := begin(t, m, 3)
		if _, e := m.Read(c, 3); e != api.ErrLocked {
			t.Errorf("Read of the next owner's: %v", e)
		}
	}
}

// TestRoomToTakeAllBack fills logs of many lengths up to the last update that may be.
func TestRoomToTakeAllBack(t *testing.T) {
	edges := map[int]int{}
	for n := 1; n <= api.Load; n++ {
		for open := 1; open <= 6; open++ {
			for logs := 20; logs < 24; logs++ {
				edges[lastUpdate(t, logs, n, open)]++
			}
		}
	}
	if edges[0] < 2 || edges[-1] < 2 {
		t.Errorf("%d updates just fit, %d would have with a byte more", edges[0], edges[-1])
	}
}

// lastUpdate has a log of so many sectors with a committed update of so many bytes, and so many open transactions, take updates until it is full; it tells how much room the last one left at its edge.
func lastUpdate(t *testing.T, logs, n, open int) int {
	t.Helper()
	y := layout{logs: logs, pages: 20, buffers: 20}
	m := y.open(t, y.fresh(t))
	first := strings.Repeat("f", n)
	write(t, m, begin(t, m, 1), 0, 0, first)
	done(t, "Commit", m.Commit(1))
	room := y.logs*api.Load - size(update(1, 0, 0, string(make([]byte, n)), first), commit(1))
	for i := range open {
		write(t, m, begin(t, m, 2+i), 1+i, 0, "o")
		room -= size(update(2+i, 1+i, 0, "\x00", "o"))
	}
	edge, last := 0, "o"
	for updates := open + 1; ; updates++ {
		next := string(rune('a' + updates%26))
		rec := update(2, 1, 0, last, next)
		records := m.Records()
		e := m.Write(2, 1, 0, []byte(next))
		left := room - size(rec) - 160*updates - 16*open
		if left < 0 {
			edge = left
			if e != api.ErrFull || m.Records() != records {
				t.Fatalf("filler %d, %d updates of %d, room %d: %v", n, updates, open, room, e)
			}
			break
		}
		if e != api.OK {
			t.Fatalf("filler %d, %d updates of %d, room %d: %v", n, updates, open, room, e)
		}
		if left == 0 {
			last = next
			break
		}
		room, last = room-size(rec), next
	}
	wantBytes(t, m, 2, 1, last)
	for i := range open { // what was reckoned with is enough
		done(t, "Abort", m.Abort(2+i))
	}
	want := [][]byte{begins(first)}
	for range y.pages - 1 {
		want = append(want, make([]byte, api.Load))
	}
	wantLoads(t, loads(t, m), want)
	return edge
}

func TestAFullLogIsNoMatterWithoutAChange(t *testing.T) {
	y := layout{logs: 2, pages: 4, buffers: 4}
	d := y.fresh(t)
	m := y.open(t, d)
	tx := begin(t, m, 1)
	write(t, m, tx, 0, 0, "a")
	unchanged(t, m, d, func() {
		if e := m.Write(tx, 0, 0, []byte("b")); e != api.ErrFull {
			t.Errorf("a full log: %v", e)
		}
		if e := m.Write(tx, 1, 0, []byte("b")); e != api.ErrFull {
			t.Errorf("a full log: %v", e)
		}
		if e := m.Write(tx, 0, 0, []byte("a")); e != api.OK {
			t.Errorf("no change: %v", e)
		}
		if e := m.Write(tx, 0, 0, nil); e != api.ErrArg {
			t.Errorf("no bytes: %v", e)
		}
	})
	wantBytes(t, m, tx, 0, "a")
	b := begin(t, m, 2)
	wantBytes(t, m, b, 1, "\x00") // that page was not changed
	done(t, "Abort", m.Abort(b))
	done(t, "Commit", m.Commit(tx))
}

// TestTakenBackUpdatesNeedNoRoom: what was committed or aborted is not reckoned with any more.
func TestTakenBackUpdatesNeedNoRoom(t *testing.T) {
	for _, over := range []func(m *aries.Manager, tx int) api.Errno{(*aries.Manager).Commit, (*aries.Manager).Abort} {
		y := layout{logs: 12, pages: 4, buffers: 4}
		m := y.open(t, y.fresh(t))
		room := y.logs * api.Load
		tx := begin(t, m, 1)
		for _, s := range []string{"a", "b", "c", "d"} {
			write(t, m, tx, 0, 0, s)
		}
		done(t, "over", over(m, tx))
		room -= 4*size(update(1, 0, 0, "a", "b")) + size(commit(1))
		aborted := m.Records() != 5
		if aborted {
			room -= 4 * size(compensation(1, 0, 0, "a", 1))
		}
		tx = begin(t, m, 2)
		updates, last := 0, byte(0)
		for ; ; updates++ {
			next := byte('A' + updates)
			rec := update(2, 1, 0, string(last), string(next))
			e := m.Write(tx, 1, 0, []byte{next})
			if fits := room-size(rec) >= 160*(updates+1)+16; fits != (e == api.OK) {
				t.Fatalf("update %d, room %d: %v", updates, room, e)
			}
			if e != api.OK {
				break
			}
			room, last = room-size(rec), next
		}
		if updates < 3 {
			t.Fatalf("only %d updates", updates)
		}
	}
}

// P6.4

func TestOneThatChangedNothingLeavesNoRecord(t *testing.T) {
	for name, over := range map[string]func(m *aries.Manager, tx int) api.Errno{"Commit": (*aries.Manager).Commit, "Abort": (*aries.Manager).Abort} {
		d := roomy.fresh(t)
		m := roomy.open(t, d)
		write(t, m, begin(t, m, 1), 1, 0, "a") // a record that is not forced
		tx := begin(t, m, 2)
		wantBytes(t, m, tx, 0, "\x00")
		write(t, m, tx, 0, 0, "\x00")
		d.Write(roomy.logs+roomy.pages, noise(1, api.Size))
		done(t, name, over(m, tx))
		if m.Records() != 1 || len(d.Pending()) != 1 {
			t.Errorf("%s: %d records, %d writes are pending", name, m.Records(), len(d.Pending()))
		}
		wantRecords(t, roomy.durable(t, d))
		wantActive(t, m, 1)
		if e := over(m, tx); e != api.ErrTx {
			t.Errorf("%s, again: %v", name, e)
		}
	}
}

func TestNoSuchTransaction(t *testing.T) {
	d := roomy.fresh(t)
	m := roomy.open(t, d)
	write(t, m, begin(t, m, 1), 0, 0, "a")
	write(t, m, begin(t, m, 2), 1, 0, "a")
	done(t, "Commit", m.Commit(2))
	for _, tx := range []int{0, 2, 3, -1, math.MaxInt, math.MinInt} {
		unchanged(t, m, d, func() {
			if m.Commit(tx) != api.ErrTx || m.Abort(tx) != api.ErrTx {
				t.Errorf("the transaction %d", tx)
			}
		})
	}
}

func TestAbortInTheLog(t *testing.T) {
	d := roomy.fresh(t)
	m := roomy.open(t, d)
	a, b := begin(t, m, 1), begin(t, m, 2)
	write(t, m, a, 3, 0, "ab")   // 1
	write(t, m, b, 4, 0, "cd")   // 2
	write(t, m, a, 5, 7, "efg")  // 3
	write(t, m, a, 3, 1, "xy")   // 4
	done(t, "Abort", m.Abort(a)) // 5 to 8
	write(t, m, b, 3, 0, "q")    // 9
	wantActive(t, m, b)
	wantRecords(t, roomy.durable(t, d)) // nothing has forced the log
	done(t, "Commit", m.Commit(b))
	wantRecords(t, roomy.durable(t, d),
		update(1, 3, 0, "\x00\x00", "ab"),
		update(2, 4, 0, "\x00\x00", "cd"),
		update(1, 5, 7, "\x00\x00\x00", "efg"),
		update(1, 3, 1, "b\x00", "xy"),
		compensation(1, 3, 1, "b\x00", 4),
		compensation(1, 5, 7, "\x00\x00\x00", 3),
		compensation(1, 3, 0, "\x00\x00", 1),
		end(1),
		update(2, 3, 0, "\x00", "q"),
		commit(2),
	)
	done(t, "Checkpoint", m.Checkpoint())
	roomy.wantOnDisk(t, d, 3, 9, "q")
	roomy.wantOnDisk(t, d, 4, 2, "cd")
	roomy.wantOnDisk(t, d, 5, 6, "")
}

func TestNumbersEndWithATransactionOpen(t *testing.T) {
	d := small.disk(t, small.image(greatest-1), nil)
	m := small.open(t, d)
	a := begin(t, m, 1)
	write(t, m, a, 0, 0, "a")
	write(t, m, a, 0, 1, "b")
	b := begin(t, m, 2)
	if e := m.Write(a, 0, 2, []byte("c")); e != api.ErrFull {
		t.Errorf("Write: %v", e)
	}
	if e := m.Write(b, 1, 2, []byte("c")); e != api.ErrFull {
		t.Errorf("Write of another page: %v", e)
	}
	if e := m.Commit(a); e != api.ErrFull {
		t.Errorf("Commit: %v", e)
	}
	if e := m.Abort(a); e != api.ErrFull {
		t.Errorf("Abort: %v", e)
	}
	wantActive(t, m, a, b)
	wantBytes(t, m, a, 0, "ab\x00")
	wantBytes(t, m, b, 1, "\x00\x00\x00")
	if m.Records() != 2 {
		t.Errorf("%d records", m.Records())
	}
	done(t, "Abort", m.Abort(b))
}

// TestNumbersEndWithinAnAbort: all is taken back, but the end is missing: it is open still, and has changed something.
func TestNumbersEndWithinAnAbort(t *testing.T) {
	for name, again := range map[string]func(m *aries.Manager, tx int) api.Errno{"Commit": (*aries.Manager).Commit, "Abort": (*aries.Manager).Abort} {
		m := small.open(t, small.disk(t, small.image(greatest-1), nil))
		tx := begin(t, m, 1)
		write(t, m, tx, 0, 0, "a")
		if e := m.Abort(tx); e != api.ErrFull {
			t.Errorf("Abort: %v", e)
		}
		for range 2 {
			wantActive(t, m, tx)
			wantBytes(t, m, tx, 0, "\x00")
			if e := again(m, tx); e != api.ErrFull || m.Records() != 2 {
				t.Errorf("%s behind it: %v, %d records", name, e, m.Records())
			}
		}
	}
}

func TestNumbersEndAndACheckpoint(t *testing.T) {
	d := small.disk(t, small.image(greatest, end(1)), nil)
	m := small.open(t, d)
	unchanged(t, m, d, func() {
		if e := m.Checkpoint(); e != api.ErrFull {
			t.Errorf("Checkpoint: %v", e)
		}
	})
}

// TestAnAbortThatFails: what it came to is taken back, and it goes on when it is called again.
func TestAnAbortThatFails(t *testing.T) {
	y := layout{logs: 30, pages: 6, buffers: 1}
	d := y.fresh(t)
	m := y.open(t, d)
	tx := begin(t, m, 1)
	write(t, m, tx, 2, 0, "a") // record 1
	write(t, m, tx, 0, 0, "b") // record 2
	write(t, m, tx, 1, 0, "c") // record 3; page 0 is on the disk now
	good, _ := d.Read(y.logs)
	d.Write(y.logs, noise(1, api.Size))
	for range 2 {
		if e := m.Abort(tx); e != api.ErrSum {
			t.Fatalf("Abort: %v", e)
		}
		wantActive(t, m, tx)
		wantBytes(t, m, tx, 1, "\x00")
		wantBytes(t, m, tx, 2, "a")
		wantBytes(t, m, tx, 1, "\x00")
	}
	other := begin(t, m, 2)
	if _, e := m.Read(other, 1); e != api.ErrLocked {
		t.Errorf("a page that it changed: %v", e)
	}
	d.Write(y.logs, good)
	done(t, "Abort", m.Abort(tx))
	wantActive(t, m, other)
	write(t, m, other, 5, 0, "z")
	done(t, "Commit", m.Commit(other))
	wantLoads(t, loads(t, m), [][]byte{make([]byte, api.Load), make([]byte, api.Load), make([]byte, api.Load)})
	back := 0
	for _, r := range y.durable(t, d) {
		if bytes.Equal(r, compensation(1, 1, 0, "\x00", 3)) {
			back++
		}
	}
	if back != 1 {
		t.Errorf("the last update is taken back %d times", back)
	}
}

// TestAnAbortThatFailsAndACommit: what was taken back stays so.
func TestAnAbortThatFailsAndACommit(t *testing.T) {
	y := layout{logs: 30, pages: 6, buffers: 1}
	d := y.fresh(t)
	m := y.open(t, d)
	tx := begin(t, m, 1)
	write(t, m, tx, 0, 0, "b")
	write(t, m, tx, 1, 0, "c")
	good, _ := d.Read(y.logs)
	d.Write(y.logs, noise(1, api.Size))
	if e := m.Abort(tx); e != api.ErrSum {
		t.Fatalf("Abort: %v", e)
	}
	d.Write(y.logs, good)
	done(t, "Commit", m.Commit(tx))
	want := [][]byte{begins("b"), begins("")}
	wantLoads(t, loads(t, m), want)
	done(t, "Crash", d.Crash(nil))
	wantLoads(t, loads(t, y.open(t, d)), want)
}

// P6.5

func TestCheckpoint(t *testing.T) {
	d := roomy.fresh(t)
	m := roomy.open(t, d)
	tx := begin(t, m, 1)
	for range 2 {
		unchanged(t, m, d, func() {
			if e := m.Checkpoint(); e != api.ErrState {
				t.Errorf("with an open transaction: %v", e)
			}
		})
		write(t, m, tx, 0, 0, "a")
	}
	done(t, "Commit", m.Commit(tx))
	tx = begin(t, m, 2)
	write(t, m, tx, 1, 0, "b")
	done(t, "Abort", m.Abort(tx)) // records that are not forced
	for want := 6; want < 8; want++ {
		d.Write(roomy.logs+roomy.pages, noise(1, api.Size))
		done(t, "Checkpoint", m.Checkpoint())
		if m.Records() != 0 || len(d.Pending()) != 0 {
			t.Errorf("%d records, %d writes are pending", m.Records(), len(d.Pending()))
		}
		if b := d.Image()[0]; !bytes.Equal(b, roomy.image(6)[0]) {
			t.Errorf("the log's first sector is %x", b)
		}
		roomy.wantOnDisk(t, d, 0, 1, "a")
		roomy.wantOnDisk(t, d, 1, 4, "")
	}
	tx = begin(t, m, 1)
	write(t, m, tx, 0, 0, "c")
	done(t, "Commit", m.Commit(tx))
	if m.Records() != 2 {
		t.Errorf("%d records", m.Records())
	}
	wantRecords(t, roomy.durable(t, d), update(1, 0, 0, "a", "c"), commit(1))
	done(t, "Checkpoint", m.Checkpoint())
	roomy.wantOnDisk(t, d, 0, 6, "c")
}

// TestACheckpointForcesTheLogFirst: the pages are behind the log there too, though it is begun anew then.
func TestACheckpointForcesTheLogFirst(t *testing.T) {
	d := roomy.fresh(t)
	m := roomy.open(t, d)
	tx := begin(t, m, 1)
	b := string(noise(1, api.Load))
	write(t, m, tx, 0, 0, b)
	done(t, "Abort", m.Abort(tx))
	done(t, "Checkpoint", m.Checkpoint())
	blank := string(make([]byte, api.Load))
	want := roomy.image(1, update(1, 0, 0, blank, b), compensation(1, 0, 0, blank, 1), end(1))
	want[0] = roomy.image(4)[0]
	for i, got := range d.Image()[:roomy.logs] {
		if !bytes.Equal(got, want[i]) {
			t.Errorf("the log's sector %d is %x, want %x", i, got, want[i])
		}
	}
}

func TestACheckpointMakesRoom(t *testing.T) {
	y := layout{logs: 3, pages: 4, buffers: 2}
	d := y.fresh(t)
	m := y.open(t, d)
	for i := range 200 {
		tx, e := m.Begin()
		done(t, "Begin", e)
		if e = m.Write(tx, i%4, i%100, noise(int64(i), 8)); e == api.ErrFull {
			done(t, "Abort", m.Abort(tx))
			done(t, "Checkpoint", m.Checkpoint())
			tx, _ = m.Begin()
			e = m.Write(tx, i%4, i%100, noise(int64(i), 8))
		}
		done(t, "Write", e)
		done(t, "Commit", m.Commit(tx))
	}
	tx, _ := m.Begin()
	if b, e := m.Read(tx, 199%4); e != api.OK || !bytes.Equal(b[99:107], noise(199, 8)) {
		t.Errorf("the last write: %q, %v", b, e)
	}
}

func TestPagesActiveRecords(t *testing.T) {
	m := roomy.open(t, roomy.fresh(t))
	for tx := 1; tx <= 4; tx++ {
		begin(t, m, tx)
		write(t, m, tx, tx, 0, "a")
		if m.Records() != tx || m.Pages() != 20 {
			t.Errorf("%d records, %d pages", m.Records(), m.Pages())
		}
	}
	wantActive(t, m, 1, 2, 3, 4)
	done(t, "Abort", m.Abort(2))
	done(t, "Commit", m.Commit(1))
	wantActive(t, m, 3, 4)
	begin(t, m, 5)
	wantActive(t, m, 3, 4, 5)
	if m.Records() != 7 || m.Pages() != 20 {
		t.Errorf("%d records, %d pages", m.Records(), m.Pages())
	}
}

// Objects

func TestManagersThatNoCallMade(t *testing.T) {
	for _, m := range []*aries.Manager{nil, {}} {
		if tx, e := m.Begin(); tx != 0 || e != api.ErrNil {
			t.Errorf("Begin: %d, %v", tx, e)
		}
		if b, e := m.Read(1, 0); len(b) > 0 || e != api.ErrNil {
			t.Errorf("Read: %q, %v", b, e)
		}
		for name, e := range map[string]api.Errno{
			"Write": m.Write(1, 0, 0, []byte("a")), "Write of nothing": m.Write(-1, -1, -1, nil), "Commit": m.Commit(1), "Abort": m.Abort(1), "Checkpoint": m.Checkpoint(),
		} {
			if e != api.ErrNil {
				t.Errorf("%s: %v", name, e)
			}
		}
		if m.Pages() != 0 || len(m.Active()) != 0 || m.Records() != 0 {
			t.Errorf("%d pages, open are %v, %d records", m.Pages(), m.Active(), m.Records())
		}
	}
}

// Memory

// spoil turns all bytes that can be reached from a list, its spare room too.
func spoil(b []byte) {
	b = b[:cap(b)]
	for i := range b {
		b[i] ^= 0x55
	}
}

func TestNoMemoryIsShared(t *testing.T) {
	d := roomy.fresh(t)
	m := roomy.open(t, d)
	tx := begin(t, m, 1)
	room := []byte("abcdefgh")
	done(t, "Write", m.Write(tx, 0, 0, room[:3]))
	if string(room) != "abcdefgh" {
		t.Errorf("the argument is %q", room)
	}
	spoil(room)
	wantBytes(t, m, tx, 0, "abc\x00")
	b, _ := m.Read(tx, 0)
	c, _ := m.Read(tx, 0)
	spoil(b)
	if !bytes.Equal(c, begins("abc")) {
		t.Errorf("two answers share memory: %q", c)
	}
	spoil(c)
	wantBytes(t, m, tx, 0, "abc\x00")
	active := m.Active()
	active[0] = 7
	wantActive(t, m, 1)
	write(t, m, tx, 0, 1, "x")
	done(t, "Abort", m.Abort(tx))
	begin(t, m, 2)
	wantBytes(t, m, 2, 0, "\x00\x00\x00\x00")
	write(t, m, 2, 0, 0, "z")
	done(t, "Commit", m.Commit(2))
	wantRecords(t, roomy.durable(t, d)[:2], update(1, 0, 0, "\x00\x00\x00", "abc"), update(1, 0, 1, "b", "x"))
}

// From arguments alone

func TestTheSameCallsTwice(t *testing.T) {
	run := func() *disk.Disk {
		y := layout{logs: 40, pages: 8, buffers: 2}
		d := y.fresh(t)
		m := y.open(t, d)
		for i := range 12 {
			tx, _ := m.Begin()
			write(t, m, tx, i%4, i, string(noise(int64(i), 5)))
			write(t, m, tx, 4+i%4, i, string(noise(int64(i), 5)))
			if i%3 == 0 {
				done(t, "Abort", m.Abort(tx))
			} else {
				done(t, "Commit", m.Commit(tx))
			}
		}
		for i := range 8 {
			tx, _ := m.Begin()
			write(t, m, tx, i, 50, "open")
		}
		y.open(t, d)
		return d
	}
	first := run()
	for range 5 {
		if !sameDisk(first, run()) {
			t.Fatal("the same calls leave another disk")
		}
	}
}
