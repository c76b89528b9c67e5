package aries_test

import (
	"bytes"
	"math/rand"
	"slices"
	"testing"

	"rostrum/api"
	"rostrum/aries"
	"rostrum/disk"
	"rostrum/log"
)

// P6.6 and P6.7

// recovered opens a disk behind a crash: it must have a beginning of the world's records, so many at least, and the pages as those say. It tells the world behind it.
func (w *world) recovered(t *testing.T, random *rand.Rand, d *disk.Disk, least int) (*aries.Manager, *world) {
	t.Helper()
	found := w.durable(t, d)
	if len(found) < least || len(found) > len(w.recs) {
		t.Fatalf("%d records of %d, %d were forced", len(found), len(w.recs), least)
	}
	wantRecords(t, found, w.bytes()[:len(found)]...)
	x := w.behind(len(found))
	x.buffers = 1 + random.Intn(5)
	m := x.open(t, d)
	wantActive(t, m)
	wantRecords(t, x.durable(t, d), x.bytes()...)
	if m.Records() != len(x.recs) {
		t.Fatalf("%d records, want %d", m.Records(), len(x.recs))
	}
	wantLoads(t, loads(t, m), x.now)
	return m, x
}

// again opens copies of a disk that was opened, at once and behind further crashes: they must be the same.
func (w *world) again(t *testing.T, random *rand.Rand, d *disk.Disk) {
	t.Helper()
	same := func(d *disk.Disk) {
		t.Helper()
		y := layout{w.logs, w.pages, 1 + random.Intn(5)}
		m := y.open(t, d)
		wantLoads(t, loads(t, m), w.now)
		wantRecords(t, y.durable(t, d), w.bytes()...)
	}
	same(d.Copy())
	crashes(t, random, d, 2, same)
}

// survives tries crashes of a disk with any of its pending writes.
func (w *world) survives(t *testing.T, random *rand.Rand, d *disk.Disk, most, least int) {
	t.Helper()
	crashes(t, random, d, most, func(d *disk.Disk) {
		t.Helper()
		_, x := w.recovered(t, random, d, least)
		x.again(t, random, d)
	})
}

// rewritten has a disk have sectors as another one, by writes that are pending.
func rewritten(d, as *disk.Disk, from, to int) bool {
	wrote := false
	for i := from; i < to; i++ {
		old, _ := d.Read(i)
		if b, _ := as.Read(i); !bytes.Equal(b, old) {
			d.Write(i, b)
			wrote = true
		}
	}
	return wrote
}

// caught tries crashes that catch a call: while the log is forced, while pages are written behind that, and when it is done.
func (w *world) caught(t *testing.T, random *rand.Rand, before, after *disk.Disk, least int) {
	t.Helper()
	during := before.Copy()
	if rewritten(during, after, 0, w.logs) {
		w.survives(t, random, during, 4, least)
		during.Flush()
	}
	if rewritten(during, after, w.logs, after.Sectors()) {
		w.survives(t, random, during, 4, least)
	}
	w.survives(t, random, after, 4, w.last().count)
}

// caughtInCheckpoint tries crashes that catch a Checkpoint, ahead of which all records were forced.
func (w *world) caughtInCheckpoint(t *testing.T, random *rand.Rand, before, after *disk.Disk) {
	t.Helper()
	during := before.Copy()
	rewritten(during, after, w.logs, after.Sectors())
	w.survives(t, random, during, 8, len(w.recs))
	during.Flush() // the log's sector may be lost still
	w.survives(t, random, during, 1, len(w.recs))
	rewritten(during, after, 0, 1)
	during.Flush()
	if !sameDisk(during, after) {
		t.Fatal("Checkpoint wrote something else")
	}
}

// life is a manager and its model, to which the same happens.
type life struct {
	*world
	d     *disk.Disk
	m     *aries.Manager
	quick bool // without the crashes that catch each call
	anew  bool // the log was begun anew, or a crash caught it, in the last step
}

func (x *life) someTx(random *rand.Rand) int {
	if l := x.active(); len(l) > 0 && random.Intn(15) > 0 {
		return l[random.Intn(len(l))]
	}
	return random.Intn(20) - 1
}

// bytes is a place and what is written there: it mostly lies within the page.
func someBytes(random *rand.Rand) (int, string) {
	off := random.Intn(api.Load)
	n := 1 + random.Intn(1+random.Intn(api.Load-off))
	if random.Intn(20) == 0 {
		off, n = random.Intn(140)-10, random.Intn(140)
	}
	b := make([]byte, n)
	for i := range b {
		b[i] = "\x00\x00ab"[random.Intn(4)]
	}
	return off, string(b)
}

func (x *life) read(t *testing.T, tx, page int) {
	t.Helper()
	b, e := x.m.Read(tx, page)
	if want := x.may(tx, page); e != want {
		t.Fatalf("Read(%d, %d): %v, want %v", tx, page, e, want)
	}
	if e != api.OK && len(b) > 0 || e == api.OK && !bytes.Equal(b, x.now[page]) {
		t.Fatalf("Read(%d, %d): %q", tx, page, b)
	}
}

func (x *life) write(t *testing.T, tx, page, off int, b string) {
	t.Helper()
	e := x.m.Write(tx, page, off, []byte(b))
	want, open := x.world.write(tx, page, off, b)
	if open && e == api.OK {
		x.update(tx, page, off, b)
	}
	if e != want && !(open && e == api.ErrFull) {
		t.Fatalf("Write(%d, %d, %d, %q): %v, want %v", tx, page, off, b, e, want)
	}
}

func (x *life) checkpoint(t *testing.T, random *rand.Rand) {
	t.Helper()
	before := x.d.Copy()
	forced := len(x.durable(t, before)) == len(x.recs)
	e := x.m.Checkpoint()
	if e == api.OK && forced && !x.quick {
		x.caughtInCheckpoint(t, random, before, x.d)
	}
	if want := x.world.checkpoint(); e != want {
		t.Fatalf("Checkpoint: %v, want %v", e, want)
	}
	x.anew = true
}

func (x *life) crash(t *testing.T, random *rand.Rand) {
	t.Helper()
	var keep []int
	for place := range x.d.Pending() {
		if random.Intn(2) == 0 {
			keep = append(keep, place)
		}
	}
	done(t, "Crash", x.d.Crash(keep))
	x.m, x.world = x.recovered(t, random, x.d, x.last().count)
	x.anew = true
}

func (x *life) step(t *testing.T, random *rand.Rand) {
	t.Helper()
	x.anew = false
	tx, page := x.someTx(random), random.Intn(x.pages)
	if random.Intn(20) == 0 {
		page = random.Intn(x.pages+4) - 2
	}
	switch random.Intn(24) {
	case 0, 1, 2:
		n, e := x.m.Begin()
		if want, why := x.begin(); n != want || e != why {
			t.Fatalf("Begin: %d, %v, want %d, %v", n, e, want, why)
		}
	case 3, 4, 5, 6:
		x.read(t, tx, page)
	case 7, 8:
		if e, want := x.m.Commit(tx), x.commit(tx); e != want {
			t.Fatalf("Commit(%d): %v, want %v", tx, e, want)
		}
	case 9, 10:
		if e, want := x.m.Abort(tx), x.abort(tx); e != want {
			t.Fatalf("Abort(%d): %v, want %v", tx, e, want)
		}
	case 11:
		x.checkpoint(t, random)
	case 12:
		if random.Intn(3) == 0 {
			x.crash(t, random)
		}
	case 13:
		if len(x.recs) > 20 { // else a checkpoint is seldom possible
			for _, tx := range x.active() {
				done(t, "Commit", x.m.Commit(tx))
				x.commit(tx)
			}
			x.checkpoint(t, random)
		}
	default:
		off, b := someBytes(random)
		x.write(t, tx, page, off, b)
	}
	wantActive(t, x.m, x.active()...)
	if x.m.Records() != len(x.recs) {
		t.Fatalf("%d records, want %d", x.m.Records(), len(x.recs))
	}
}

func newLife(t *testing.T, y layout, quick bool) *life {
	t.Helper()
	d := y.fresh(t)
	return &life{world: newWorld(y), d: d, m: y.open(t, d), quick: quick}
}

// TestAnyLife holds a manager against the model, call by call, with crashes that catch each of them.
func TestAnyLife(t *testing.T) {
	for seed := range int64(40) {
		random := rand.New(rand.NewSource(seed))
		y := layout{logs: 5 + random.Intn(30), pages: 1 + random.Intn(8), buffers: 1 + random.Intn(4)}
		x := newLife(t, y, false)
		for range 120 {
			before, least := x.d.Copy(), x.last().count
			x.step(t, random)
			if x.anew {
				x.survives(t, random, x.d, 4, x.last().count)
			} else {
				x.caught(t, random, before, x.d, least)
			}
		}
	}
}

// TestAnyLongLife is without the crashes in between, but for those that it goes on behind.
func TestAnyLongLife(t *testing.T) {
	for seed := range int64(60) {
		random := rand.New(rand.NewSource(1000 + seed))
		y := layout{logs: 4 + random.Intn(50), pages: 1 + random.Intn(12), buffers: 1 + random.Intn(6)}
		x := newLife(t, y, true)
		for range 1500 {
			x.step(t, random)
		}
	}
}

// history has a world of many records, none of which was lost.
func history(random *rand.Rand, y layout, steps int) *world {
	w := newWorld(y)
	for range steps {
		l := w.active()
		switch {
		case len(l) == 0 || random.Intn(6) == 0 && len(l) < 4:
			w.begin()
		case random.Intn(8) == 0:
			w.commit(l[random.Intn(len(l))])
		case random.Intn(8) == 0:
			w.abort(l[random.Intn(len(l))])
		default:
			off, b := someBytes(random)
			w.write(l[random.Intn(len(l))], random.Intn(y.pages), off, b)
		}
	}
	return w
}

// TestAnyPagesBehindTheLog: a beginning of the records, and each page as any of those left it: so a crash can leave them, wherever it catches recovery too.
func TestAnyPagesBehindTheLog(t *testing.T) {
	for seed := range int64(30) {
		random := rand.New(rand.NewSource(seed))
		y := layout{logs: 40, pages: 1 + random.Intn(5), buffers: 1 + random.Intn(3)}
		w := history(random, y, 40)
		for count := range len(w.recs) + 1 {
			for range 3 {
				d := y.disk(t, y.image(w.first, w.bytes()[:count]...), w.versions(random, count))
				_, x := w.recovered(t, random, d, count)
				x.again(t, random, d)
			}
		}
	}
}

// versions is the sectors of pages, each as one of the records up to a count left it.
func (w *world) versions(random *rand.Rand, count int) map[int][]byte {
	sectors := map[int][]byte{}
	for n := range w.pages {
		load := make([]byte, api.Load)
		for i, r := range w.recs[:random.Intn(count+1)] {
			if r.kind < 3 && r.page == n {
				copy(load[r.off:], r.behind)
				sectors[n] = pageSector(w.first+i, load)
			}
		}
	}
	return sectors
}

// TestACaughtRecovery has the records of recovery itself be lost from each one on: Open goes on with taking back.
func TestACaughtRecovery(t *testing.T) {
	for seed := range int64(20) {
		random := rand.New(rand.NewSource(seed))
		y := layout{logs: 40, pages: 4, buffers: 2}
		w := history(random, y, 30)
		x := w.behind(len(w.recs))
		for count := len(w.recs); count <= len(x.recs); count++ {
			d := y.disk(t, y.image(x.first, x.bytes()[:count]...), x.versions(random, count))
			m := y.open(t, d)
			wantRecords(t, y.durable(t, d), x.bytes()...)
			wantLoads(t, loads(t, m), x.now)
		}
	}
}

// TestCommittedOnlyWithItsRecord: without the commit's record a transaction is taken back, with it it stays, whatever else is lost.
func TestCommittedOnlyWithItsRecord(t *testing.T) {
	y := layout{logs: 30, pages: 6, buffers: 2}
	d := y.fresh(t)
	m := y.open(t, d)
	tx := begin(t, m, 1)
	var after [][]byte
	for n := range y.pages {
		s := string(noise(int64(n), api.Load))
		write(t, m, tx, n, 0, s)
		after = append(after, []byte(s))
	}
	blank := slices.Repeat([][]byte{make([]byte, api.Load)}, y.pages)
	before := d.Copy()
	done(t, "Commit", m.Commit(tx))
	during := before.Copy()
	rewritten(during, d, 0, y.logs)
	seen := map[int]int{}
	crashes(t, rand.New(rand.NewSource(1)), during, 1<<12, func(d *disk.Disk) {
		recs := y.durable(t, d)
		committed := len(recs) == 7
		m := y.open(t, d)
		if committed {
			wantLoads(t, loads(t, m), after)
			seen[1]++
		} else {
			wantLoads(t, loads(t, m), blank)
			seen[0]++
		}
	})
	if seen[0] == 0 || seen[1] == 0 {
		t.Errorf("of the crashes %d lost the commit, %d kept it", seen[0], seen[1])
	}
	crashes(t, rand.New(rand.NewSource(2)), d, 1<<10, func(d *disk.Disk) { wantLoads(t, loads(t, y.open(t, d)), after) })
}

func TestTheExample(t *testing.T) {
	d := small.fresh(t)
	m := small.open(t, d)
	write(t, m, begin(t, m, 1), 3, 0, "ab")
	done(t, "Crash", d.Crash(nil))
	m = small.open(t, d)
	wantLoads(t, loads(t, m)[3:], [][]byte{begins("")})
	write(t, m, begin(t, m, 1), 3, 0, "ab")
	done(t, "Commit", m.Commit(1))
	done(t, "Crash", d.Crash(nil))
	wantLoads(t, loads(t, small.open(t, d))[3:], [][]byte{begins("ab")})
}

// The log ahead: each page that the disk has, durable or pending, has a record that is durable.

func TestTheLogIsAhead(t *testing.T) {
	for seed := range int64(20) {
		random := rand.New(rand.NewSource(seed))
		y := layout{logs: 40, pages: 6, buffers: 1 + random.Intn(3)}
		x := newLife(t, y, true)
		for range 300 {
			x.step(t, random)
			durable, e := disk.Of(x.d.Image())
			done(t, "disk.Of", e)
			l, _, e := log.Open(durable, 0, y.logs)
			done(t, "log.Open", e)
			for n := range y.pages {
				b, _ := x.d.Read(y.logs + n)
				if lsn := int(b[4]) | int(b[5])<<8; lsn > l.Last() {
					t.Fatalf("page %d has record %d, the log %d", n, lsn, l.Last())
				}
			}
		}
	}
}

// P6.8

// TestAbortIsAsIfNothingWas: the pages are as they were, but for what another one changed, also behind crashes that catch Abort.
func TestAbortIsAsIfNothingWas(t *testing.T) {
	for seed := range int64(30) {
		random := rand.New(rand.NewSource(seed))
		y := layout{logs: 60, pages: 6, buffers: 1 + random.Intn(6)}
		x := newLife(t, y, true)
		for n := range y.pages {
			tx, _ := x.m.Begin()
			x.begin()
			x.write(t, tx, n, 0, string(noise(seed*10+int64(n), api.Load)))
			done(t, "Commit", x.m.Commit(tx))
			x.commit(tx)
		}
		done(t, "Checkpoint", x.m.Checkpoint())
		x.world.checkpoint()
		ahead := copied(x.now)
		for range 2 {
			x.m.Begin()
			x.begin()
		}
		for range 12 { // the first one's pages are the even ones
			tx, n := 1, random.Intn(3)*2
			if random.Intn(2) == 0 {
				tx, n = 2, n+1
			}
			off, b := someBytes(random)
			x.write(t, tx, n, off, b)
		}
		now := copied(x.now)
		before := x.d.Copy()
		done(t, "Abort", x.m.Abort(1))
		x.abort(1)
		for n := range y.pages {
			want := ahead[n]
			if n%2 == 1 {
				want = now[n]
			}
			if b, e := x.m.Read(2, n); e != api.OK || !bytes.Equal(b, want) {
				t.Fatalf("page %d: %q, %v, want %q", n, b, e, want)
			}
		}
		x.caught(t, random, before, x.d, 0)
		done(t, "Abort", x.m.Abort(2))
		x.abort(2)
		wantLoads(t, loads(t, x.m), ahead)
		x.survives(t, random, x.d, 8, 0)
	}
}
