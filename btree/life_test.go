package btree_test

import (
	"maps"
	"math/rand"
	"slices"
	"strings"
	"testing"

	"rostrum/api"
	"rostrum/btree"
)

// P7.3 to P7.8, of trees that calls made: held against the model page by page, and against a map.

// life is a tree, its model, the map that it must be, and the pages that others have taken.
type life struct {
	*set
	*model
	keys  map[string]string
	taken []int
	mark  int // the records, and the model's writes, when both were compared last
	wrote int
}

func newLife(t *testing.T, pages, buffers int) *life {
	t.Helper()
	x := &life{set: blank(t, 400, pages, buffers), model: newModel(pages), keys: map[string]string{}}
	done(t, "Init", btree.Init(x.m, x.tx))
	return x
}

// someText is one of few letters, and of all bytes now and then, so that keys come again.
func someText(random *rand.Rand, least, most int) string {
	b := make([]byte, least+random.Intn(most-least+1))
	for i := range b {
		b[i] = "\x00ab\xff"[random.Intn(4)]
		if random.Intn(8) == 0 {
			b[i] = byte(random.Intn(256))
		}
	}
	return string(b)
}

func (x *life) someKey(random *rand.Rand, long bool) string {
	if l := slices.Sorted(maps.Keys(x.keys)); len(l) > 0 && random.Intn(3) == 0 {
		return l[random.Intn(len(l))]
	}
	if long {
		return someText(random, 9, api.MaxKey)
	}
	return someText(random, 1, api.MaxKey)
}

func (x *life) change(t *testing.T, random *rand.Rand, growing, long bool) {
	t.Helper()
	key := x.someKey(random, long)
	if !growing && random.Intn(10) > 0 && len(x.keys) > 0 {
		l := slices.Sorted(maps.Keys(x.keys))
		key = l[random.Intn(len(l))]
	}
	if growing == (random.Intn(10) > 1) {
		value := someText(random, 0, api.MaxKey)
		x.set.put(t, key, value)
		x.model.put(key, value)
		x.keys[key] = value
		return
	}
	want := api.ErrGone
	if _, ok := x.keys[key]; ok {
		want = api.OK
		x.model.delete(key)
		delete(x.keys, key)
	}
	if e := btree.Delete(x.m, x.tx, key); e != want {
		t.Fatalf("Delete(%q): %v, want %v", key, e, want)
	}
}

// others take and give pages beside the tree.
func (x *life) others(t *testing.T, random *rand.Rand) {
	t.Helper()
	if random.Intn(2) == 0 && len(x.taken) < 10 {
		n, e := btree.Take(x.m, x.tx)
		if want := x.model.take(); n != want || e != api.OK {
			t.Fatalf("Take: %d, %v, want %d", n, e, want)
		}
		x.taken = append(x.taken, n)
		b := full([]byte(someText(random, 1, api.Load)))
		x.model.write(n, b)
		x.lay(t, n, b)
	} else if len(x.taken) > 0 {
		i := random.Intn(len(x.taken))
		done(t, "Give", btree.Give(x.m, x.tx, x.taken[i]))
		x.model.give(x.taken[i])
		x.taken = slices.Delete(x.taken, i, i+1)
	}
}

// ask holds what the tree tells against the map.
func (x *life) ask(t *testing.T, random *rand.Rand, long bool) {
	t.Helper()
	key := x.someKey(random, long)
	if v, ok := x.keys[key]; ok {
		x.wantValue(t, key, v)
	} else {
		x.wantGone(t, key)
	}
	from, most := someText(random, 0, 14), random.Intn(20)-2
	if random.Intn(3) == 0 {
		from, most = key, 1000
	}
	var want []string
	for _, k := range slices.Sorted(maps.Keys(x.keys)) {
		if k >= from && len(want)/2 < most {
			want = append(want, k, x.keys[k])
		}
	}
	x.wantRange(t, from, most, want...)
}

// compare holds all pages against the model, the updates that were written among them, and each page must be somebody's.
func (x *life) compare(t *testing.T) {
	t.Helper()
	if got, want := x.m.Records()-x.mark, x.writes-x.wrote; got != want {
		t.Fatalf("%d updates, want %d", got, want)
	}
	x.mark, x.wrote = x.m.Records(), x.writes
	x.same(t, x.set)
	x.wantHeight(t, x.levels())
	x.wantIdle(t, len(x.idle()))
	all := slices.Concat([]int{0}, x.nodes(), x.taken, x.idle())
	slices.Sort(all)
	if len(all) != x.m.Pages() || len(slices.Compact(all)) != len(all) {
		t.Fatalf("the pages are these: %v", all)
	}
}

// anew commits, and has the log be empty.
func (x *life) anew(t *testing.T) {
	t.Helper()
	x.commit(t)
	done(t, "Checkpoint", x.m.Checkpoint())
	x.begin(t)
	x.mark, x.wrote = 0, x.writes
}

func (x *life) emptied(t *testing.T) {
	t.Helper()
	x.wantPage(t, x.root(), leaf())
	x.wantHeight(t, 1)
	x.wantIdle(t, x.m.Pages()-2-len(x.taken))
	x.wantRange(t, "", 10)
}

func TestAnyTree(t *testing.T) {
	met := map[string]int{}
	for seed := range int64(15) {
		random := rand.New(rand.NewSource(seed))
		long := seed%3 > 0
		x := newLife(t, 450, 1+random.Intn(api.MaxBuffers))
		most := 60 + random.Intn(350)
		for growing := true; growing || len(x.keys) > 0; {
			for range 1 + random.Intn(12) {
				x.change(t, random, growing, long)
				x.ask(t, random, long)
				if random.Intn(12) == 0 {
					x.others(t, random)
				}
			}
			x.compare(t)
			x.anew(t)
			growing = growing && len(x.keys) < most
		}
		x.emptied(t)
		for k, n := range x.met {
			met[k] += n
		}
	}
	for _, k := range []string{"a free page is taken", "the root is parted", "an inner node is parted", "an inner node loses its only child", "a first child goes", "the root goes", "the root goes again"} {
		if met[k] < 3 {
			t.Errorf("%s: only %d times", k, met[k])
		}
	}
}

// TestAnAbortedTree: what a transaction did to a tree is taken back with it.
func TestAnAbortedTree(t *testing.T) {
	for seed := range int64(10) {
		random := rand.New(rand.NewSource(seed))
		x := newLife(t, 200, 1+random.Intn(api.MaxBuffers))
		for range 60 {
			x.change(t, random, true, true)
		}
		x.anew(t)
		before := x.pages(t)
		for range 15 {
			key := x.someKey(random, true)
			btree.Delete(x.m, x.tx, key)
			x.set.put(t, x.someKey(random, true), "v")
		}
		done(t, "Abort", x.m.Abort(x.tx))
		x.begin(t)
		for n, b := range before {
			x.wantPage(t, n, b)
		}
	}
}

// TestAllKeysInOrder: rising, falling, and all of one byte.
func TestAllKeysInOrder(t *testing.T) {
	for name, order := range map[string]func(i int) int{
		"rising": func(i int) int { return i }, "falling": func(i int) int { return 255 - i }, "mixed": func(i int) int { return i * 77 % 256 },
	} {
		x := newLife(t, 400, api.MaxBuffers)
		key := func(i int) string { return strings.Repeat(string([]byte{byte(order(i))}), 1+order(i)%api.MaxKey) }
		for i := range 256 {
			x.set.put(t, key(i), "value of it")
			x.model.put(key(i), "value of it")
			if i%8 == 0 {
				x.compare(t)
				x.anew(t)
			}
		}
		l, e := btree.Range(x.m, x.tx, "", 1000)
		if e != api.OK || len(l) != 256 || !slices.IsSortedFunc(l, func(a, b api.Pair) int { return strings.Compare(a.Key, b.Key) }) {
			t.Fatalf("%s: %d keys, %v", name, len(l), e)
		}
		for i := range 256 {
			x.set.delete(t, key(i))
			x.model.delete(key(i))
			x.wantGone(t, key(i))
			if i%8 == 0 {
				x.compare(t)
				x.anew(t)
			}
		}
		x.emptied(t)
	}
}

// TestTheSameCallsTwice: what is told hangs on the calls alone.
func TestTheSameCallsTwice(t *testing.T) {
	run := func() *set {
		random := rand.New(rand.NewSource(5))
		x := newLife(t, 200, 7)
		for range 40 {
			x.change(t, random, true, false)
		}
		x.commit(t)
		return x.set
	}
	first := run().d.Image()
	for range 3 {
		again := run().d.Image()
		for i := range first {
			if !slices.Equal(first[i], again[i]) {
				t.Fatalf("sector %d is another one", i)
			}
		}
	}
}
