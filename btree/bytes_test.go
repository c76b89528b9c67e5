package btree_test

import (
	"math/rand"
	"slices"
	"strings"
	"testing"

	"rostrum/api"
	"rostrum/btree"
)

// Any bytes: whatever the pages are, each call ends, and none panics.

// TestPagesThatAreMetAgainAndAgain: each inner node has one child, many times. To go through all of them would have no end.
func TestPagesThatAreMetAgainAndAgain(t *testing.T) {
	for name, last := range map[string][]byte{"an empty leaf": leaf(), "a leaf": leaf("\xff\xff", "1")} {
		x := of(t, 30, head(20, 25, 0, 20), last)
		for n := 2; n <= 20; n++ {
			var l []any
			for i := range 27 {
				l = append(l, string(rune('a'+i)), n-1)
			}
			x.lay(t, n, inner(n-1, l...))
		}
		if l, e := btree.Range(x.m, x.tx, "", 1<<40); len(l) > 0 || e != api.ErrNode {
			t.Errorf("%s: %d pairs, %v", name, len(l), e)
		}
		for _, c := range calls() {
			c.do(x.m, x.tx)
		}
		done(t, "Abort", x.m.Abort(x.tx))
	}
}

// TestAsManyNodesAsPages: a tree that has all pages but page 0 can be gone through.
func TestAsManyNodesAsPages(t *testing.T) {
	x := of(t, 8, head(1, 8, 0, 2), inner(2, "c", 3, "d", 4, "e", 5, "f", 6, "g", 7), leaf("b", "1"), leaf("c", "2"), leaf("d", "3"), leaf("e", "4"), leaf("f", "5"), leaf("g", "6"))
	x.wantRange(t, "", 100, "b", "1", "c", "2", "d", "3", "e", "4", "f", "5", "g", "6")
	x.wantIdle(t, 0)
}

// someNode is a node that often can be, with children that often are.
func someNode(random *rand.Rand, pages int) []byte {
	keys := make([]string, random.Intn(6))
	for i := range keys {
		keys[i] = someText(random, 1, 3)
	}
	if random.Intn(8) > 0 {
		slices.Sort(keys)
		keys = slices.Compact(keys)
	}
	if random.Intn(2) == 0 {
		var l []string
		for _, k := range keys {
			l = append(l, k, someText(random, 0, api.MaxKey))
		}
		return leaf(l...)
	}
	var l []any
	for _, k := range keys {
		l = append(l, k, random.Intn(pages+1))
	}
	return inner(random.Intn(pages+1), l...)
}

func TestAnyPages(t *testing.T) {
	for seed := range int64(1500) {
		random := rand.New(rand.NewSource(seed))
		pages := 2 + random.Intn(12)
		x := blank(t, 100, pages, 1+random.Intn(5))
		x.lay(t, 0, head(1+random.Intn(pages), 1+random.Intn(pages), random.Intn(pages), 1+random.Intn(5)))
		for n := 1; n < pages; n++ {
			b := full(someNode(random, pages))
			if random.Intn(20) == 0 {
				random.Read(b[random.Intn(api.Load):])
			}
			x.lay(t, n, b)
		}
		for range 30 {
			x.something(random)
		}
		done(t, "Abort", x.m.Abort(x.tx))
	}
}

// something makes any call.
func (x *set) something(random *rand.Rand) {
	key := someText(random, 0, 4)
	switch random.Intn(10) {
	case 0:
		btree.Get(x.m, x.tx, key)
	case 1, 2, 3:
		btree.Put(x.m, x.tx, key+someText(random, 0, 8), someText(random, 0, 12))
	case 4, 5:
		btree.Delete(x.m, x.tx, key)
	case 6:
		btree.Range(x.m, x.tx, key, random.Intn(100)-5)
	case 7:
		btree.Take(x.m, x.tx)
	case 8:
		btree.Give(x.m, x.tx, random.Intn(x.m.Pages()+2)-1)
	case 9:
		btree.Free(x.m, x.tx)
	}
}

// TestATurnedByte: a tree in which one byte is another one; what is told is the tree's, or nothing, or that of another tree, but no call panics.
func TestATurnedByte(t *testing.T) {
	for seed := range int64(300) {
		random := rand.New(rand.NewSource(seed))
		x := fresh(t, 40)
		for range 25 {
			x.put(t, someText(random, 6, 12), strings.Repeat("v", random.Intn(13)))
		}
		for range 1 + random.Intn(3) {
			b := []byte{byte(random.Intn(256))}
			done(t, "Write", x.m.Write(x.tx, random.Intn(20), random.Intn(40), b))
		}
		for range 40 {
			x.something(random)
		}
		done(t, "Abort", x.m.Abort(x.tx))
	}
}
