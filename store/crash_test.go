package store_test

import (
	"bytes"
	"maps"
	"math/rand"
	"slices"
	"testing"

	"rostrum/api"
	"rostrum/aries"
	"rostrum/disk"
	"rostrum/store"
)

// P8.5 to P8.7

// either opens a disk behind a crash: the store must have one of two contents. It tells whether it is the second one.
func (y layout) either(t *testing.T, d *disk.Disk, before, after contents) bool {
	t.Helper()
	s := y.open(t, d)
	got := has(t, s)
	y.whole(t, d, s)
	if !maps.Equal(got, before) && !maps.Equal(got, after) {
		t.Fatalf("the store has %q, neither what it had, %q, nor what it was to have, %q",
			slices.Sorted(maps.Keys(got)), slices.Sorted(maps.Keys(before)), slices.Sorted(maps.Keys(after)))
	}
	return maps.Equal(got, after)
}

// survives tries crashes of a disk with any of its pending writes: the store has the same.
func (y layout) survives(t *testing.T, random *rand.Rand, d *disk.Disk, most int, want contents) {
	t.Helper()
	crashes(t, random, d, most, func(d *disk.Disk) {
		t.Helper()
		y.either(t, d, want, want)
		crashes(t, random, d, 2, func(d *disk.Disk) { y.either(t, d, want, want) })
	})
}

// caught tries crashes that catch a Batch which only forces the log: with any of the log's sectors.
func (y layout) caught(t *testing.T, random *rand.Rand, before, after *disk.Disk, most int, old, new contents) (lost, kept int) {
	t.Helper()
	during := before.Copy()
	rewritten(during, after, 0, y.logs)
	crashes(t, random, during, most, func(d *disk.Disk) {
		t.Helper()
		if y.either(t, d, old, new) {
			kept++
		} else {
			lost++
		}
	})
	return lost, kept
}

// someChanges is a batch of few keys.
func someChanges(random *rand.Rand, count, most int) []api.Change {
	var l []api.Change
	for _, k := range random.Perm(30)[:count] {
		key := string([]byte{byte('a' + k), byte(k * 7), 'x', 'y'}[:1+k%4])
		if random.Intn(3) == 0 {
			l = append(l, gone(key))
			continue
		}
		b := make([]byte, random.Intn(1+random.Intn(most)))
		random.Read(b)
		l = append(l, put(key, b))
	}
	return l
}

// life is a store, and what it must have.
type life struct {
	layout
	d    *disk.Disk
	s    *store.Store
	want contents
}

func newLife(t *testing.T, y layout) *life {
	t.Helper()
	d := y.fresh(t)
	return &life{layout: y, d: d, s: y.open(t, d), want: contents{}}
}

// batch tells whether it was done.
func (x *life) batch(t *testing.T, l []api.Change) bool {
	t.Helper()
	switch e := x.s.Batch(l); e {
	case api.OK:
		x.want = x.want.with(l)
		return true
	case api.ErrFull:
	default:
		t.Fatalf("Batch: %v", e)
	}
	return false
}

// TestAnyBatches holds a store against a map, without crashes.
func TestAnyBatches(t *testing.T) {
	for seed := range int64(12) {
		random := rand.New(rand.NewSource(seed))
		x := newLife(t, layout{logs: 30 + random.Intn(200), pages: 10 + random.Intn(150)})
		full := 0
		for range 120 {
			if !x.batch(t, someChanges(random, random.Intn(8), api.MaxBytes)) {
				full++
			}
			x.want.want(t, x.s)
			if random.Intn(10) == 0 {
				x.whole(t, x.d, x.s)
			}
			switch random.Intn(20) {
			case 0:
				done(t, "Checkpoint", x.s.Checkpoint())
			case 1:
				x.s = x.open(t, x.d)
			}
		}
		if full == 120 {
			t.Errorf("of %v all batches were too great", x.layout)
		}
		// When all keys are gone, Free is what it was at first. They may have to go one by one: the log may be short.
		for _, k := range slices.Sorted(maps.Keys(x.want)) {
			if !x.batch(t, []api.Change{gone(k)}) {
				t.Fatalf("of %v: there is no room to take a key away", x.layout)
			}
		}
		contents{}.want(t, x.s)
		wantFree(t, x.s, x.pages-2)
		x.whole(t, x.d, x.s)
	}
}

// TestManyKeys: as many as make a tree of some levels, with pages enough that buffers go.
func TestManyKeys(t *testing.T) {
	random := rand.New(rand.NewSource(1))
	x := newLife(t, layout{logs: 500, pages: 900})
	for i := range 60 {
		var l []api.Change
		for k := range 8 {
			b := make([]byte, random.Intn(200))
			random.Read(b)
			l = append(l, put(string([]byte{byte(i * 67), byte(k*31 + i), 'k', 'e', 'y', 's', '-', '-', '-', '-'}), b))
		}
		x.s.Batch(l)
		x.want = x.want.with(l)
	}
	x.want.want(t, x.s)
	x.whole(t, x.d, x.s)
	x.survives(t, random, x.d, 3, x.want)
	keys := slices.Sorted(maps.Keys(x.want))
	random.Shuffle(len(keys), func(i, j int) { keys[i], keys[j] = keys[j], keys[i] })
	for l := range slices.Chunk(keys, 10) {
		var changes []api.Change
		for _, k := range l {
			changes = append(changes, gone(k))
		}
		if !x.batch(t, changes) {
			t.Fatal("there is no room to take keys away")
		}
	}
	contents{}.want(t, x.s)
	wantFree(t, x.s, 898)
}

// TestCrashesBetweenBatches: whatever is pending, all that was told OK is there; the store goes on behind some of them.
func TestCrashesBetweenBatches(t *testing.T) {
	pending := 0
	for seed := range int64(12) {
		random := rand.New(rand.NewSource(seed))
		x := newLife(t, layout{logs: 80 + random.Intn(100), pages: 20 + random.Intn(200)})
		for range 40 {
			x.batch(t, someChanges(random, random.Intn(6), 900))
			x.want.want(t, x.s) // what is read may have pages go to the disk that are dirty
			pending += len(x.d.Pending())
			x.survives(t, random, x.d, 3, x.want)
			switch random.Intn(6) {
			case 0:
				var keep []int
				for place := range x.d.Pending() {
					if random.Intn(2) == 0 {
						keep = append(keep, place)
					}
				}
				done(t, "Crash", x.d.Crash(keep))
				x.s = x.open(t, x.d)
				x.want.want(t, x.s)
			case 1:
				done(t, "Checkpoint", x.s.Checkpoint())
			}
		}
	}
	if pending < 50 {
		t.Errorf("there were only %d pending writes", pending)
	}
}

// TestCrashesWithPagesOnTheWay: there are more pages than buffers, so pages of batches that are done, and of one that is not, are pending.
func TestCrashesWithPagesOnTheWay(t *testing.T) {
	met := map[bool]int{}
	for seed := range int64(3) {
		random := rand.New(rand.NewSource(seed))
		y := layout{logs: 900, pages: 300}
		x := newLife(t, y)
		for range 12 {
			x.batch(t, someChanges(random, 9, api.MaxBytes))
			met[len(x.d.Pending()) > 0]++
		}
		x.survives(t, random, x.d, 2, x.want)
		// The next one is done below the store, so that it can be caught between any two of its steps.
		for range 3 {
			d := x.d.Copy()
			m, e := aries.Open(d, y.logs, y.pages, api.MaxBuffers)
			done(t, "aries.Open", e)
			tx, e := m.Begin()
			done(t, "Begin", e)
			e = byHand(t, m, tx, someChanges(random, 9, api.MaxBytes), func() {
				if random.Intn(25) == 0 {
					met[len(d.Pending()) > 0]++
					x.survives(t, random, d, 1, x.want)
				}
			})
			if e != api.OK && e != api.ErrFull {
				t.Fatal(e)
			}
			before := d.Copy()
			if random.Intn(2) == 0 {
				done(t, "Abort", m.Abort(tx))
			}
			x.survives(t, random, before, 2, x.want)
			x.survives(t, random, d, 2, x.want)
		}
	}
	if met[true] < 10 || met[false] < 10 {
		t.Errorf("writes were pending at %d crashes, at %d there were none", met[true], met[false])
	}
}

// TestABatchIsCaught: while the log is forced, with any of its sectors: all of it is there, or nothing.
func TestABatchIsCaught(t *testing.T) {
	lost, kept := 0, 0
	for seed := range int64(6) {
		random := rand.New(rand.NewSource(seed))
		x := newLife(t, layout{logs: 2000, pages: 60}) // with buffers for all, and without a checkpoint
		for range 6 {
			before, old := x.d.Copy(), x.want
			if !x.batch(t, someChanges(random, 1+random.Intn(6), api.MaxBytes)) {
				continue // a checkpoint was made
			}
			a, b := x.caught(t, random, before, x.d, 12, old, x.want)
			lost, kept = lost+a, kept+b
			x.survives(t, random, x.d, 2, x.want)
		}
	}
	if lost < 50 || kept < 50 {
		t.Errorf("of the crashes %d lost the batch, %d kept it", lost, kept)
	}
}

// TestASmallBatchIsCaught: with each choice of the sectors.
func TestASmallBatchIsCaught(t *testing.T) {
	random := rand.New(rand.NewSource(1))
	x := newLife(t, layout{logs: 60, pages: 20})
	x.batch(t, []api.Change{put("a", noise(1, 100)), put("b", noise(2, 30))})
	before, old := x.d.Copy(), x.want
	x.batch(t, []api.Change{put("a", noise(3, 300)), gone("b"), put("c", nil)})
	lost, kept := x.caught(t, random, before, x.d, 1<<14, old, x.want)
	if lost < 100 || kept < 1 {
		t.Errorf("of the crashes %d lost the batch, %d kept it", lost, kept)
	}
}

// TestOpenIsCaught: the first one, while it makes the tree.
func TestOpenIsCaught(t *testing.T) {
	random := rand.New(rand.NewSource(1))
	y := layout{logs: 30, pages: 10}
	before := y.fresh(t)
	after := before.Copy()
	y.open(t, after)
	y.caught(t, random, before, after, 100, contents{}, contents{})
	// Some of its pages may be on the disk too.
	y.within(t, after, func(m *aries.Manager, tx int) {})
	s := y.open(t, after)
	done(t, "Checkpoint", s.Checkpoint())
	y.survives(t, random, after, 4, contents{})
}

// TestACheckpointIsCaught: while the pages are written, between, and while the log is begun anew.
func TestACheckpointIsCaught(t *testing.T) {
	for seed := range int64(8) {
		random := rand.New(rand.NewSource(seed))
		x := newLife(t, layout{logs: 300, pages: 60})
		for range 3 {
			x.batch(t, someChanges(random, 4, 500))
		}
		before := x.d.Copy()
		done(t, "Checkpoint", x.s.Checkpoint())
		during := before.Copy()
		if !rewritten(during, x.d, x.logs, x.d.Sectors()) {
			t.Fatal("no page was written")
		}
		x.survives(t, random, during, 12, x.want)
		during.Flush()
		x.survives(t, random, during, 1, x.want)
		rewritten(during, x.d, 0, 1)
		x.survives(t, random, during, 2, x.want)
		during.Flush()
		if !sameDisk(during, x.d) {
			t.Fatal("Checkpoint wrote something else")
		}
		x.survives(t, random, x.d, 1, x.want)
	}
}

// TestABatchWithACheckpointIsCaught: the log is full, so one is made, and the batch is tried again.
func TestABatchWithACheckpointIsCaught(t *testing.T) {
	caught := 0
	for seed := range int64(10) {
		random := rand.New(rand.NewSource(seed))
		x := newLife(t, layout{logs: 50, pages: 50})
		for range 30 {
			before, old, records := x.d.Copy(), x.want, x.records(t, x.d)
			if !x.batch(t, someChanges(random, 3, 300)) {
				t.Fatal("the log is too short")
			}
			now := x.records(t, x.d)
			if len(now) >= len(records) && bytes.Equal(slices.Concat(now[:len(records)]...), slices.Concat(records...)) {
				continue // no checkpoint
			}
			caught++
			// The pages as they are then: those of the old contents, by a checkpoint of the store that was.
			c := before.Copy()
			done(t, "Checkpoint", x.open(t, c).Checkpoint())
			during := before.Copy()
			rewritten(during, c, x.logs, c.Sectors())
			x.survives(t, random, during, 4, old)
			during.Flush()
			rewritten(during, c, 0, 1)
			x.survives(t, random, during, 2, old)
			during.Flush()
			lost, kept := x.caught(t, random, x.emptied(t, during, x.d), x.d, 6, old, x.want)
			if lost == 0 || kept == 0 {
				t.Errorf("of the crashes %d lost the batch, %d kept it", lost, kept)
			}
			x.survives(t, random, x.d, 2, x.want)
		}
	}
	if caught < 5 {
		t.Errorf("only %d checkpoints", caught)
	}
}

// emptied is the disk behind the checkpoint of a batch: its pages are those of another one, its log is as it was when it was begun anew.
func (y layout) emptied(t *testing.T, pages, after *disk.Disk) *disk.Disk {
	t.Helper()
	d := after.Copy()
	d.Flush()
	// The first record's number stands in the log's first sector: it is the one behind all that the batch tried first.
	b, e := d.Read(0)
	done(t, "Read", e)
	empty := make([]byte, api.Size)
	copy(empty, []byte{0x4c, 0, 0, 0})
	copy(empty[4:12], b[4:12])
	done(t, "Write", d.Write(0, sealed(empty)))
	for i := 1; i < y.logs; i++ {
		b, _ := pages.Read(i)
		done(t, "Write", d.Write(i, b))
	}
	for i := y.logs; i < y.logs+y.pages; i++ {
		b, _ := pages.Read(i)
		done(t, "Write", d.Write(i, b))
	}
	d.Flush()
	return d
}
