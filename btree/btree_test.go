package btree_test

import (
	"bytes"
	"math"
	"slices"
	"strings"
	"testing"

	"rostrum/api"
	"rostrum/aries"
	"rostrum/btree"
)

// P7.1

func TestInit(t *testing.T) {
	x := blank(t, 20, 5, 3)
	done(t, "Init", btree.Init(x.m, x.tx))
	x.wantPages(t, []byte{1, 0, 2, 0, 0, 0, 1}, []byte{1, 0}, nil, nil, nil)
	x.wantHeight(t, 1)
	x.wantIdle(t, 3)
	x.wantRange(t, "", 9)
	want := []turn{{0, 0, "\x00\x00\x00\x00\x00\x00\x00", "\x01\x00\x02\x00\x00\x00\x01"}, {1, 0, "\x00", "\x01"}}
	if got := x.turns(t); !slices.Equal(got, want) {
		t.Errorf("the log has %v, want %v", got, want)
	}
}

func TestInitOfPagesThatWereUsed(t *testing.T) {
	x := of(t, 4, bytes.Repeat([]byte{7}, api.Load), bytes.Repeat([]byte{8}, api.Load), []byte("what else"))
	done(t, "Init", btree.Init(x.m, x.tx))
	x.wantPages(t, head(1, 2, 0, 1), leaf(), []byte("what else"))
	records := x.m.Records()
	done(t, "Init", btree.Init(x.m, x.tx))
	if x.m.Records() != records {
		t.Error("Init of what is so already wrote something")
	}
}

func TestInitOfTheLeastPages(t *testing.T) {
	x := blank(t, 20, 2, 1)
	done(t, "Init", btree.Init(x.m, x.tx))
	x.wantIdle(t, 0)
	x.put(t, "k", "v")
	x.wantRange(t, "", 9, "k", "v")
}

func TestInitRefuses(t *testing.T) {
	one := blank(t, 20, 1, 1)
	for _, tx := range []int{one.tx, 0, 99, math.MinInt} {
		if e := btree.Init(one.m, tx); e != api.ErrPage {
			t.Errorf("one page, transaction %d: %v", tx, e)
		}
	}
	one.wantPage(t, 0, nil)
	x := blank(t, 20, 5, 3)
	for _, tx := range []int{0, -1, 2, math.MaxInt, math.MinInt} {
		if e := btree.Init(x.m, tx); e != api.ErrTx {
			t.Errorf("transaction %d: %v", tx, e)
		}
	}
	for page := range 2 {
		x := blank(t, 20, 5, 3)
		done(t, "Write", x.m.Write(x.tx, page, 50, []byte("x")))
		x.begin(t)
		if e := btree.Init(x.m, x.tx); e != api.ErrLocked {
			t.Errorf("page %d is changed by another one: %v", page, e)
		}
	}
	x = blank(t, 3, 5, 3)
	if e := btree.Init(x.m, x.tx); e != api.ErrFull {
		t.Errorf("a log of three sectors: %v", e)
	}
	x.wantPage(t, 0, head(1, 2, 0, 1)) // what was written so far stays
}

func TestPage0ThatCantBe(t *testing.T) {
	for name, b := range map[string][]byte{
		"noughts":                           nil,
		"the root 0":                        head(0, 3, 0, 1),
		"the root past the end":             head(5, 3, 0, 1),
		"the root far past it":              head(65535, 3, 0, 1),
		"the root of another byte":          head(1+256, 3, 0, 1),
		"the first unused 0":                head(1, 0, 0, 1),
		"the first unused past the end":     head(1, 6, 0, 1),
		"the first unused far past it":      head(1, 65535, 0, 1),
		"the first free the first unused":   head(1, 3, 3, 1),
		"the first free one past it":        head(1, 3, 4, 1),
		"a first free, and none was used":   head(1, 1, 1, 1),
		"the first free far past the end":   head(1, 3, 65535, 1),
		"the first free past all pages":     head(1, 5, 5, 1),
		"no level":                          head(1, 3, 0, 0),
		"21 levels":                         head(1, 3, 0, 21),
		"255 levels":                        head(1, 3, 0, 255),
		"the second byte of the first free": head(1, 3, 256, 1),
	} {
		x := of(t, 5, b, leaf("k", "v"))
		x.refused(t, name, api.ErrNode, anyCall)
	}
}

func TestPage0ThatCanBe(t *testing.T) {
	for name, h := range map[string][]int{
		"the last page as root":             {4, 5, 0, 1},
		"no page that was never used":       {1, 5, 0, 1},
		"the first unused 1":                {1, 1, 0, 1},
		"a first free one":                  {1, 5, 1, 1},
		"the first free the one below":      {1, 5, 4, 1},
		"20 levels":                         {1, 5, 0, 20},
		"a first free one of as few as can": {1, 2, 1, 20},
	} {
		x := of(t, 5, head(h[0], h[1], h[2], h[3]))
		if n, e := btree.Height(x.m, x.tx); n != h[3] || e != api.OK {
			t.Errorf("%s: %d, %v", name, n, e)
		}
	}
}

// P7.2

func TestTakeAndGive(t *testing.T) {
	x := fresh(t, 6)
	take := func(want int) {
		t.Helper()
		if n, e := btree.Take(x.m, x.tx); n != want || e != api.OK {
			t.Fatalf("Take: %d, %v, want %d", n, e, want)
		}
	}
	give := func(page int) {
		t.Helper()
		done(t, "Give", btree.Give(x.m, x.tx, page))
	}
	take(2)
	take(3)
	x.wantPages(t, head(1, 4, 0, 1), leaf(), nil, nil)
	x.wantIdle(t, 2)
	x.lay(t, 2, bytes.Repeat([]byte("x"), api.Load))
	give(2)
	x.wantPages(t, head(1, 4, 2, 1), leaf(), append([]byte{0, 0}, bytes.Repeat([]byte("x"), api.Load-2)...))
	give(3)
	x.wantPage(t, 0, head(1, 4, 3, 1))
	x.wantPage(t, 3, []byte{2, 0})
	x.wantIdle(t, 4)
	take(3)
	x.wantPages(t, head(1, 4, 2, 1), leaf())
	x.wantPage(t, 3, []byte{2, 0})
	take(2)
	x.wantPage(t, 0, head(1, 4, 0, 1))
	take(4)
	take(5)
	x.wantIdle(t, 0)
	x.refused(t, "no page is left", api.ErrFull, func(c call) bool { return c.name == "Take" })
	give(4)
	give(2)
	x.wantIdle(t, 2)
	take(2)
	take(4)
	x.refused(t, "no page is left again", api.ErrFull, func(c call) bool { return c.name == "Take" })
	x.wantPage(t, 0, head(1, 6, 0, 1))
}

func TestGiveRefuses(t *testing.T) {
	x := of(t, 9, head(3, 6, 0, 2), leaf("a", "1"), leaf("k", "2"), inner(1, "k", 2))
	before, records := x.pages(t), x.m.Records()
	for _, page := range []int{0, -1, 3, 6, 7, 8, 9, 100, 65536, 65537, math.MaxInt, math.MinInt} {
		if e := btree.Give(x.m, x.tx, page); e != api.ErrArg {
			t.Errorf("Give(%d): %v", page, e)
		}
	}
	for n, b := range before {
		x.wantPage(t, n, b)
	}
	if x.m.Records() != records {
		t.Error("a Give that was refused wrote something")
	}
	for _, page := range []int{4, 5, 1} {
		done(t, "Give", btree.Give(x.m, x.tx, page))
	}
	x.wantPage(t, 0, head(3, 6, 1, 2))
	x.wantFree(t, 1, 5)
	x.wantFree(t, 5, 4)
	x.wantFree(t, 4, 0)
}

func TestFreePagesThatLeadAstray(t *testing.T) {
	wants := func(c call) bool { return c.name == "Free" }
	takes := func(c call) bool { return c.name == "Take" }
	for _, next := range []int{6, 7, 8, 255, 256, 65535} {
		x := of(t, 8, head(1, 6, 3, 1), leaf(), nil, free(next))
		x.refused(t, "the first one leads astray", api.ErrNode, wants)
		x.refused(t, "the first one leads astray", api.ErrNode, takes)
		x = of(t, 8, head(1, 6, 3, 1), leaf(), free(next), free(2))
		x.refused(t, "the second one leads astray", api.ErrNode, wants)
		if n, e := btree.Take(x.m, x.tx); n != 3 || e != api.OK {
			t.Errorf("%d: the first one: %d, %v", next, n, e)
		}
		x.refused(t, "then the second one", api.ErrNode, takes)
	}
	for name, l := range map[string][]int{"to itself": {3}, "to another one and back": {4, 3}, "to all": {4, 5, 2, 3}, "not to the first": {4, 5, 2, 5}} {
		x := of(t, 8, head(1, 6, 3, 1), leaf())
		page := 3
		for _, next := range l {
			x.lay(t, page, free(next))
			page = next
		}
		x.refused(t, "a list that leads "+name, api.ErrNode, wants)
	}
	x := of(t, 8, head(1, 8, 7, 1), leaf(), free(0), free(2), free(3), free(4), free(5), free(6))
	x.wantIdle(t, 6)
}

func TestAFreePageThatCantBeRead(t *testing.T) {
	x := of(t, 8, head(1, 6, 3, 1), leaf("k", "v"), free(0), free(2))
	x.spoil(t, 3, 3)
	x.refusedUnread(t, "Take", "Free")
	if e := btree.Give(x.m, x.tx, 3); e != api.ErrSum {
		t.Errorf("Give: %v", e)
	}
	x = of(t, 8, head(1, 6, 3, 1), leaf("k", "v"), free(0), free(2))
	x.spoil(t, 3, 2)
	x.refusedUnread(t, "Free")
	x.spoil(t, 3, 0)
	for _, c := range calls() {
		x.refusedUnread(t, c.name)
	}
}

// refusedUnread: calls tell that a page can't be read.
func (x *set) refusedUnread(t *testing.T, names ...string) {
	t.Helper()
	for _, c := range calls() {
		if !slices.Contains(names, c.name) {
			continue
		}
		if zero, e := c.do(x.m, x.tx); !zero || e != api.ErrSum {
			t.Errorf("%s: %v", c.name, e)
		}
	}
}

func TestTakeWithoutALog(t *testing.T) {
	x := blank(t, 4, 5, 3)
	done(t, "Init", btree.Init(x.m, x.tx))
	x.refused(t, "no room in the log", api.ErrFull, func(c call) bool { return c.name == "Take" || c.name == "Put" })
}

// P7.3

func TestPutAndGet(t *testing.T) {
	x := fresh(t, 5)
	x.put(t, "b", "1")
	x.put(t, "a", "2")
	x.wantPages(t, head(1, 2, 0, 1), leaf("a", "2", "b", "1"))
	x.wantRange(t, "", 9, "a", "2", "b", "1")
	x.put(t, "a", "")
	x.put(t, "\x00", "zero")
	x.put(t, "a\x00", "\x00\x00")
	x.put(t, "\xff\xff", "high")
	x.wantPage(t, 1, leaf("\x00", "zero", "a", "", "a\x00", "\x00\x00", "b", "1", "\xff\xff", "high"))
	x.wantValue(t, "a", "")
	x.wantValue(t, "a\x00", "\x00\x00")
	x.wantValue(t, "\xff\xff", "high")
	for _, key := range []string{"\xff", "a\x01", "0", "ab", "\x00\x00", "c"} {
		x.wantGone(t, key)
		if e := btree.Delete(x.m, x.tx, key); e != api.ErrGone {
			t.Errorf("Delete(%q): %v", key, e)
		}
	}
	records := x.m.Records()
	x.put(t, "b", "1")
	if x.m.Records() != records {
		t.Error("a Put of what is there wrote something")
	}
}

func TestKeysAndValuesThatCantBe(t *testing.T) {
	most := strings.Repeat("k", api.MaxKey)
	x := fresh(t, 5)
	for _, key := range []string{"", most + "k", strings.Repeat("k", 1000)} {
		if v, e := btree.Get(x.m, x.tx, key); v != "" || e != api.ErrKey {
			t.Errorf("Get of %d bytes: %q, %v", len(key), v, e)
		}
		if e := btree.Put(x.m, x.tx, key, "v"); e != api.ErrKey {
			t.Errorf("Put of %d bytes: %v", len(key), e)
		}
		if e := btree.Delete(x.m, x.tx, key); e != api.ErrKey {
			t.Errorf("Delete of %d bytes: %v", len(key), e)
		}
	}
	for _, value := range []string{most + "v", strings.Repeat("v", 300)} {
		if e := btree.Put(x.m, x.tx, "k", value); e != api.ErrKey {
			t.Errorf("Put of a value of %d bytes: %v", len(value), e)
		}
	}
	x.wantPage(t, 1, leaf())
	x.put(t, most, most)
	x.put(t, "k", "")
	x.wantPage(t, 1, leaf("k", "", most, most))
}

// TestTheKeysErrorIsFirst: it is told whatever else is wrong.
func TestTheKeysErrorIsFirst(t *testing.T) {
	x := of(t, 5, head(0, 0, 0, 0))
	for _, tx := range []int{x.tx, 0, 99} {
		if _, e := btree.Get(x.m, tx, ""); e != api.ErrKey {
			t.Errorf("Get: %v", e)
		}
		if e := btree.Delete(x.m, tx, ""); e != api.ErrKey {
			t.Errorf("Delete: %v", e)
		}
		if e := btree.Put(x.m, tx, "k", strings.Repeat("v", 13)); e != api.ErrKey {
			t.Errorf("Put: %v", e)
		}
	}
}

// long is a text of so many bytes that begins with another one.
func long(s string, n int) string { return s + strings.Repeat("-", n-len(s)) }

func TestALeafThatIsJustFull(t *testing.T) {
	twelve := long("v", 12)
	x := of(t, 5, head(1, 2, 0, 1), leaf("a", twelve, "b", twelve, "c", twelve, "d", twelve, "e", twelve, "f", twelve)) // 92 bytes
	x.put(t, "g", long("", 12))
	x.put(t, "h", "12")
	if b := x.page(t, 1); b[api.Load-1] != '2' {
		t.Fatalf("the page is not full: %x", b)
	}
	x.wantHeight(t, 1)
	x.put(t, "g", long("", 11))
	x.put(t, "g", long("", 12))
	x.wantHeight(t, 1)
	x.put(t, "h", "123") // one byte more
	x.wantHeight(t, 2)
	x.wantPages(t, head(3, 4, 0, 2),
		leaf("a", twelve, "b", twelve, "c", twelve, "d", twelve), // of 60 bytes
		leaf("e", twelve, "f", twelve, "g", long("", 12), "h", "123"),
		inner(1, "e", 2))
}

// TestWhereALeafIsParted: what stays has 60 bytes, or the least above that.
func TestWhereALeafIsParted(t *testing.T) {
	value := func(n int) string { return strings.Repeat("v", n) }
	for _, c := range []struct {
		sizes []int // of the entries' values, whose keys have a byte each
		stay  int
	}{
		{[]int{12, 12, 12, 12, 12, 12, 12, 6}, 4},                      // 60 at the fourth
		{[]int{12, 12, 12, 11, 12, 12, 12, 7}, 5},                      // 59 at the fourth
		{[]int{12, 12, 12, 12, 11, 12, 12, 7}, 4},                      // 60, and one below behind it
		{slices.Concat(make([]int, 13), []int{12, 12, 12, 12, 9}), 15}, // 54 at the fourteenth, 69 behind it
		{slices.Concat([]int{12, 12, 12, 12}, make([]int, 17)), 4},     // 60
		{slices.Concat([]int{12, 12, 12, 10}, make([]int, 18)), 5},     // 58, 61
	} {
		var l []string
		for i, n := range c.sizes {
			l = append(l, string(rune('a'+i)), value(n))
		}
		for last := range c.sizes { // whichever of them comes last
			x := of(t, 5, head(1, 2, 0, 1))
			rest := slices.Delete(slices.Clone(l), 2*last, 2*last+2)
			b := leaf(rest...)
			if len(b) > api.Load || len(leaf(l...)) <= api.Load {
				t.Fatalf("%v: of %d and %d bytes", c.sizes, len(b), len(leaf(l...)))
			}
			x.lay(t, 1, b)
			x.put(t, l[2*last], l[2*last+1])
			x.wantPages(t, head(3, 4, 0, 2), leaf(l[:2*c.stay]...), leaf(l[2*c.stay:]...), inner(1, l[2*c.stay], 2))
		}
	}
}

// TestALongerValueParts: a key that is there needs more room.
func TestALongerValueParts(t *testing.T) {
	twelve := long("v", 12)
	l := []string{"a", twelve, "b", "", "c", twelve, "d", twelve, "e", twelve, "f", twelve, "g", twelve, "h", "123"}
	x := of(t, 5, head(1, 2, 0, 1), leaf(l...))
	x.put(t, "b", twelve)
	x.wantPages(t, head(3, 4, 0, 2),
		leaf("a", twelve, "b", twelve, "c", twelve, "d", twelve),
		leaf("e", twelve, "f", twelve, "g", twelve, "h", "123"), inner(1, "e", 2))
}

// TestTheGreatestEntry: of 26 bytes, into a leaf that is full of great ones.
func TestTheGreatestEntry(t *testing.T) {
	k := func(s string) string { return long(s, 12) }
	v := long("v", 12)
	x := of(t, 5, head(1, 2, 0, 1), leaf(k("a"), v, k("b"), v, k("c"), v, k("d"), v)) // 106 bytes
	x.put(t, k("e"), v)
	x.wantPages(t, head(3, 4, 0, 2), leaf(k("a"), v, k("b"), v, k("c"), v), leaf(k("d"), v, k("e"), v), inner(1, k("d"), 2))
}

// TestTheNodeAboveGrows: at the front, in the middle, at the end; the new page is a free one.
func TestTheNodeAboveGrows(t *testing.T) {
	v := long("v", 12)
	full := func(s string) []byte {
		return leaf(long(s+"a", 12), v, long(s+"b", 12), v, long(s+"c", 12), v, long(s+"d", 12), v)
	}
	for i, s := range []string{"b", "d", "f"} {
		x := of(t, 9, head(4, 7, 6, 2), full("b"), full("d"), full("f"), inner(1, "d", 2, "f", 3), nil, free(5))
		x.put(t, long(s+"e", 12), v)
		want := inner(1, "d", 2, "f", 3)
		switch up := long(s+"d", 12); i {
		case 0:
			want = inner(1, up, 6, "d", 2, "f", 3)
		case 1:
			want = inner(1, "d", 2, up, 6, "f", 3)
		case 2:
			want = inner(1, "d", 2, "f", 3, up, 6)
		}
		x.wantPages(t, head(4, 7, 5, 2))
		x.wantPage(t, 4, want)
		x.wantPage(t, 6, leaf(long(s+"d", 12), v, long(s+"e", 12), v))
		x.wantPage(t, i+1, leaf(long(s+"a", 12), v, long(s+"b", 12), v, long(s+"c", 12), v))
	}
}

// TestAnInnerNodeIsParted: by the bytes of its entries, and the next one goes up; the pages are Taken from below.
func TestAnInnerNodeIsParted(t *testing.T) {
	v := long("v", 12)
	k := func(s string) string { return long(s, 12) }
	leaves := leaf(k("h1"), v, k("h2"), v, k("h3"), v, k("h4"), v)
	// Seven entries of 15 bytes: there are three bytes too few for an eighth one.
	root := inner(1, k("b"), 2, k("c"), 3, k("d"), 4, k("e"), 5, k("f"), 6, k("g"), 7, k("h"), 8)
	x := of(t, 20, head(9, 10, 0, 2), leaf(k("a"), v), leaf(k("b"), v), leaf(k("c"), v), leaf(k("d"), v), leaf(k("e"), v), leaf(k("f"), v), leaf(k("g"), v), leaves, root)
	x.put(t, k("h5"), v)
	x.wantPage(t, 0, head(12, 13, 0, 3))
	x.wantPage(t, 8, leaf(k("h1"), v, k("h2"), v, k("h3"), v))
	x.wantPage(t, 10, leaf(k("h4"), v, k("h5"), v))
	x.wantPage(t, 9, inner(1, k("b"), 2, k("c"), 3, k("d"), 4, k("e"), 5))
	x.wantPage(t, 11, inner(6, k("g"), 7, k("h"), 8, k("h4"), 10))
	x.wantPage(t, 12, inner(9, k("f"), 11))
	x.wantHeight(t, 3)
	for _, key := range []string{"a", "b", "c", "d", "e", "f", "g", "h1", "h2", "h3", "h4", "h5"} {
		x.wantValue(t, k(key), v)
	}
	x.wantIdle(t, 7)
}

// TestWhereAnInnerNodeIsParted: at 60 bytes, and not at 59.
func TestWhereAnInnerNodeIsParted(t *testing.T) {
	v := long("v", 12)
	for _, c := range []struct {
		sizes []int // of the keys; a new one of 12 bytes comes ahead of them
		stay  int
	}{
		{[]int{12, 12, 12, 12, 12, 12, 12}, 4}, // with the new one's 15 bytes 60 at the fourth
		{[]int{12, 12, 11, 12, 12, 12, 12}, 5}, // 59
		{[]int{11, 12, 12, 12, 12, 12, 12}, 5}, // 59
		{[]int{1, 12, 12, 12, 12, 12, 12, 1}, 5},
		{[]int{9, 9, 9, 9, 9, 9, 9, 9, 9}, 5}, // 51, 63
	} {
		x := of(t, 40, head(2, 30, 0, 2), leaf(long("a1", 12), v, long("a2", 12), v, long("a3", 12), v, long("a4", 12), v))
		l := []any{long("a4", 12), 30}
		var before []any
		for i, n := range c.sizes {
			before = append(before, long(string(rune('b'+i)), n), 10+i)
		}
		for i := range c.sizes {
			x.lay(t, 10+i, leaf(long(string(rune('b'+i)), 12), v))
		}
		x.lay(t, 2, inner(1, before...))
		l = append(l, before...)
		if len(inner(1, before...)) > api.Load || len(inner(1, l...)) <= api.Load {
			t.Fatalf("%v: of %d and %d bytes", c.sizes, len(inner(1, before...)), len(inner(1, l...)))
		}
		x.put(t, long("a5", 12), v)
		at := 2 * c.stay
		x.wantPage(t, 0, head(32, 33, 0, 3))
		x.wantPage(t, 2, inner(1, l[:at]...))
		x.wantPage(t, 31, inner(l[at+1].(int), l[at+2:]...))
		x.wantPage(t, 32, inner(2, l[at], 31))
	}
}

// TestPutWithoutPages: those that are needed are taken one behind the other, and the error is that of Take.
func TestPutWithoutPages(t *testing.T) {
	v := long("v", 12)
	k := func(s string) string { return long(s, 12) }
	x := of(t, 2, head(1, 2, 0, 1), leaf(k("a"), v, k("b"), v, k("c"), v, k("d"), v))
	if e := btree.Put(x.m, x.tx, k("e"), v); e != api.ErrFull {
		t.Errorf("no page: %v", e)
	}
	x.wantPages(t, head(1, 2, 0, 1), leaf(k("a"), v, k("b"), v, k("c"), v, k("d"), v))
	x.put(t, k("a"), "short")
	x = of(t, 3, head(1, 2, 0, 1), leaf(k("a"), v, k("b"), v, k("c"), v, k("d"), v))
	if e := btree.Put(x.m, x.tx, k("e"), v); e != api.ErrFull {
		t.Errorf("one page, and none for a root: %v", e)
	}
	x = of(t, 4, head(1, 2, 0, 1), leaf(k("a"), v, k("b"), v, k("c"), v, k("d"), v))
	x.put(t, k("e"), v)
	x.wantIdle(t, 0)
}

// tower is a tree of so many levels, each of its inner nodes with one child; the root's page is the last one.
func tower(t *testing.T, levels int, b []byte) *set {
	t.Helper()
	x := of(t, 60, head(levels, levels+1, 0, levels), b)
	for n := 2; n <= levels; n++ {
		x.lay(t, n, inner(n-1))
	}
	return x
}

func TestTheMostLevels(t *testing.T) {
	v := long("v", 12)
	k := func(s string) string { return long(s, 12) }
	x := tower(t, 20, leaf(k("a"), v, k("b"), v, k("c"), v, k("d"), v))
	x.put(t, k("e"), v)
	x.wantHeight(t, 20)
	x.wantPage(t, 2, inner(1, k("d"), 21))
	x.wantRange(t, "", 9, k("a"), v, k("b"), v, k("c"), v, k("d"), v, k("e"), v)
	// With an inner root that is full there would have to be one level more: a page 0 of which can't be.
	x = tower(t, 20, leaf(k("a"), v, k("b"), v, k("c"), v, k("d"), v))
	crowd := inner(0, k("f"), 58, k("g"), 58, k("h"), 58, k("i"), 58, k("j"), 58, k("k"), 58, k("l"), 58)
	for n := 2; n <= 20; n++ {
		x.lay(t, n, append(slices.Clone(crowd[:2]), append(free(n-1), crowd[4:]...)...))
	}
	if e := btree.Put(x.m, x.tx, k("e"), v); e != api.ErrFull {
		t.Errorf("one level too many: %v", e)
	}
	x.wantHeight(t, 20)
	if n, e := btree.Take(x.m, x.tx); n != 41 || e != api.OK { // there was a page for it
		t.Errorf("Take: %d, %v", n, e)
	}
}

// TestAFullLog: whatever of a call's writes the log has no room for, it answers ErrFull, and what it wrote can be taken back.
func TestAFullLog(t *testing.T) {
	v := long("v", 12)
	k := func(s string) string { return long(s, 12) }
	grown := [][]byte{head(9, 10, 0, 2), leaf(k("a"), v), leaf(k("b"), v), leaf(k("c"), v), leaf(k("d"), v), leaf(k("e"), v), leaf(k("f"), v), leaf(k("g"), v),
		leaf(k("h1"), v, k("h2"), v, k("h3"), v, k("h4"), v), inner(1, k("b"), 2, k("c"), 3, k("d"), 4, k("e"), 5, k("f"), 6, k("g"), 7, k("h"), 8)}
	thin := [][]byte{head(7, 8, 0, 4), leaf("a", "1"), leaf("k", "2"), inner(1), inner(2), inner(3), inner(4), inner(5, "f", 6)}
	for name, c := range map[string]struct {
		pages [][]byte
		do    func(m *aries.Manager, tx int) api.Errno
		most  int // so many writes there are
	}{
		"Put":    {grown, func(m *aries.Manager, tx int) api.Errno { return btree.Put(m, tx, k("h5"), v) }, 9},
		"Delete": {thin, func(m *aries.Manager, tx int) api.Errno { return btree.Delete(m, tx, "k") }, 16},
		"Give":   {grown, func(m *aries.Manager, tx int) api.Errno { return btree.Give(m, tx, 4) }, 2},
	} {
		seen := map[int]int{}
		for logs := 4; seen[c.most] == 0 && logs < 100; logs++ {
			x := blank(t, logs, 15, 4)
			for n, b := range c.pages { // one by one, since the log is short
				x.lay(t, n, b)
				x.commit(t)
				done(t, "Checkpoint", x.m.Checkpoint())
				x.begin(t)
			}
			before := x.pages(t)
			e := c.do(x.m, x.tx)
			writes := x.m.Records()
			seen[writes]++
			if want := api.ErrFull; e != want && (writes < c.most || e != api.OK) {
				t.Fatalf("%s: %v behind %d writes", name, e, writes)
			}
			done(t, "Abort", x.m.Abort(x.tx))
			x.begin(t)
			for n, b := range before {
				x.wantPage(t, n, b)
			}
		}
		if seen[c.most] == 0 || len(seen) < c.most-2 {
			t.Errorf("%s: it was stopped behind so many writes: %v", name, seen)
		}
	}
}

// Nodes that can't be

func TestNodesThatCantBe(t *testing.T) {
	v13 := long("", 13)
	last := leaf("k", "v")
	for name, b := range map[string][]byte{
		"noughts":                           nil,
		"kind 0":                            append([]byte{0}, leaf("k", "v")[1:]...),
		"kind 3":                            append([]byte{3}, leaf("k", "v")[1:]...),
		"kind 255":                          append([]byte{255}, leaf("k", "v")[1:]...),
		"an inner node of kind 3":           append([]byte{3}, inner(2, "k", 3)[1:]...),
		"an inner node of kind 0":           append([]byte{0}, inner(2, "k", 3)[1:]...),
		"more behind a leaf":                append(leaf("k", "v"), 1),
		"more far behind a leaf":            append(full(last)[:api.Load-1], 1),
		"more behind an empty leaf":         append(leaf(), 0, 0, 7),
		"one entry too few":                 append([]byte{1, 0}, leaf("k", "v")[2:]...),
		"one entry too many":                append([]byte{1, 2}, leaf("k", "v")[2:]...),
		"255 entries":                       append([]byte{1, 255}, leaf("k", "v")[2:]...),
		"an empty key":                      leaf("", "v", "k", "v"),
		"a key too long":                    leaf(strings.Repeat("k", 13), "v"),
		"a key far too long":                {1, 1, 255, 'k'},
		"a key of another form":             append([]byte{1, 1, 0x81, 0x00, 'k'}, 1, 'v'),
		"a value too long":                  leaf("k", v13),
		"a value far too long":              {1, 1, 1, 'k', 128},
		"the same key twice":                leaf("k", "v", "k", "w"),
		"keys that fall":                    leaf("k", "v", "j", "w"),
		"a last key that falls":             leaf("a", "1", "b", "2", "a\xff", "3"),
		"an inner node with more behind":    append(inner(2, "k", 3), 1),
		"an inner node of two times a key":  inner(2, "k", 3, "k", 4),
		"an inner node whose keys fall":     inner(2, "k", 3, "a", 4),
		"an inner node with an empty key":   inner(2, "", 3),
		"an inner node of a key too long":   inner(2, v13, 3),
		"an inner node of too many entries": append([]byte{2, 2}, inner(2, "k", 3)[2:]...),
		"an inner node of too few entries":  append([]byte{2, 0}, inner(2, "k", 3)[2:]...),
	} {
		b = full(b)
		x := of(t, 9, head(1, 8, 0, 2), b, leaf("a", "1"), leaf("k", "v"))
		x.refused(t, name+" as root", api.ErrNode, call.keyed)
		x = of(t, 9, head(4, 8, 0, 3), b, leaf("a", "1"), leaf("k", "v"), inner(1))
		x.refused(t, name+" as first child", api.ErrNode, call.keyed)
		x = of(t, 9, head(4, 8, 0, 3), b, leaf("a", "1"), leaf("k", "v"), inner(2, "b", 1))
		x.refused(t, name+" as last child", api.ErrNode, call.keyed)
	}
}

func TestAnEntryThatEndsBehindThePage(t *testing.T) {
	v := long("v", 12)
	l := []string{"a", v, "b", v, "c", v, "d", v, "e", v, "f", v, "g", v}
	b := leaf(l...) // of 107 bytes
	for name, rest := range map[string][]byte{
		"a key":            {5, 'k', 'k', 'k', 'k'},
		"a key's value":    {1, 'k', 3, 'v', 'v'},
		"no value":         {4, 'k', 'k', 'k', 'k'},
		"a far longer key": {12, 'k', 'k', 'k', 'k'},
	} {
		p := append(slices.Clone(b), rest...)
		p[1]++
		x := of(t, 5, head(1, 2, 0, 1), p)
		x.refused(t, name, api.ErrNode, call.keyed)
	}
	p := append(slices.Clone(b), 1, 'k', 2, 'v', 'v')
	p[1]++
	x := of(t, 5, head(1, 2, 0, 1), p)
	x.wantValue(t, "k", "vv")
	k := func(s string) string { return long(s, 12) }
	p = append(inner(1, k("b"), 2, k("c"), 2, k("d"), 2, k("e"), 2, k("f"), 2, k("g"), 2, k("h"), 2), 1, 'k', 1) // 112 bytes: half a child
	p[1]++
	x = of(t, 5, head(1, 3, 0, 2), p, leaf("k", "v"))
	x.refused(t, "half a child", api.ErrNode, call.keyed)
}

func TestMoreLevelsThanPage0Says(t *testing.T) {
	x := of(t, 9, head(3, 8, 0, 1), leaf("a", "1"), leaf("k", "v"), inner(1, "b", 2))
	x.refused(t, "two levels, not one", api.ErrNode, call.keyed)
	x = of(t, 9, head(4, 8, 0, 2), leaf("a", "1"), leaf("k", "v"), inner(1, "b", 2), inner(3))
	x.refused(t, "three levels, not two", api.ErrNode, call.keyed)
	for levels := 1; levels <= 20; levels++ {
		x = of(t, 9, head(3, 8, 0, levels), leaf("a", "1"), leaf("k", "v"), inner(3, "b", 3))
		x.refused(t, "a node that is its own child", api.ErrNode, call.keyed)
		x = of(t, 9, head(3, 8, 0, levels), leaf("a", "1"), inner(3), inner(2, "b", 2))
		x.refused(t, "two nodes that are each other's child", api.ErrNode, call.keyed)
	}
}

// TestFewerLevelsThanPage0Says: only more of them are refused.
func TestFewerLevelsThanPage0Says(t *testing.T) {
	x := of(t, 9, head(3, 8, 0, 5), leaf("a", "1"), leaf("k", "v"), inner(1, "b", 2))
	x.wantRange(t, "", 9, "a", "1", "k", "v")
	x.put(t, "c", "2")
	x.wantValue(t, "c", "2")
	x.delete(t, "a")
	x.wantRange(t, "", 9, "c", "2", "k", "v")
	x.wantHeight(t, 4)
}

// TestBytesBehindPage0: they play no part.
func TestBytesBehindPage0(t *testing.T) {
	x := of(t, 9, append(head(1, 2, 0, 1), 7), leaf("a", "1"))
	x.put(t, "k", "v")
	x.wantRange(t, "", 9, "a", "1", "k", "v")
	x.wantIdle(t, 7)
}

func TestAChildThatIsNone(t *testing.T) {
	for _, child := range []int{0, 9, 10, 255, 256, 4096, 65535} {
		x := of(t, 9, head(3, 8, 0, 2), leaf("a", "1"), leaf("k", "v"), inner(1, "b", child))
		x.refused(t, "an entry's child is none", api.ErrNode, call.keyed)
		x = of(t, 9, head(3, 8, 0, 2), leaf("a", "1"), leaf("z", "v"), inner(child, "z", 2))
		x.refused(t, "the first child is none", api.ErrNode, call.keyed)
	}
	// Page 0 may look like a node, but is none.
	x := of(t, 300, append(head(2+256, 259, 0, 2), 0))
	x.lay(t, 2+256, inner(0))
	x.refused(t, "the child is page 0", api.ErrNode, call.keyed)
}

// P7.4

func TestDeleteFromALeaf(t *testing.T) {
	x := of(t, 5, head(1, 2, 0, 1), leaf("a", "1", "k", "2", "z", "3"))
	x.delete(t, "k")
	x.wantPages(t, head(1, 2, 0, 1), leaf("a", "1", "z", "3"))
	x.delete(t, "z")
	x.delete(t, "a")
	x.wantPages(t, head(1, 2, 0, 1), leaf())
	x.wantGone(t, "a")
	if e := btree.Delete(x.m, x.tx, "a"); e != api.ErrGone {
		t.Errorf("a key that is gone: %v", e)
	}
	x.wantHeight(t, 1)
}

func TestALeafGoes(t *testing.T) {
	three := func() *set {
		return of(t, 9, head(4, 6, 5, 2), leaf("a", "1"), leaf("k", "2"), leaf("s", "3"), inner(1, "f", 2, "p", 3), free(0))
	}
	for _, c := range []struct {
		key  string
		page int
		want []byte
	}{
		{"a", 1, inner(2, "p", 3)},
		{"k", 2, inner(1, "p", 3)},
		{"s", 3, inner(1, "f", 2)},
	} {
		x := three()
		before := x.m.Records()
		x.delete(t, c.key)
		x.wantPage(t, 0, head(4, 6, c.page, 2))
		x.wantPage(t, 4, c.want)
		x.wantPage(t, c.page, free(5)) // it was written without its entry ahead of that
		x.wantIdle(t, 5)
		x.wantGone(t, c.key)
		if n := x.m.Records() - before; n != 4 {
			t.Errorf("Delete(%q) wrote %d times, want 4", c.key, n)
		}
	}
}

// TestTheOrderOfWhatIsWritten: the leaf, the node above it, then what is Given.
func TestTheOrderOfWhatIsWritten(t *testing.T) {
	x := of(t, 9, head(4, 6, 5, 2), leaf("a", "1"), leaf("k", "2"), leaf("s", "3"), inner(1, "f", 2, "p", 3), free(0))
	before := len(x.turns(t))
	x.delete(t, "k")
	var pages []int
	for _, u := range x.turns(t)[before:] {
		pages = append(pages, u.page)
	}
	if !slices.Equal(pages, []int{2, 4, 2, 0}) {
		t.Errorf("the pages %v were written", pages)
	}
}

func TestTheRootGoes(t *testing.T) {
	x := of(t, 9, head(3, 4, 0, 2), leaf("a", "1"), leaf("k", "2"), inner(1, "f", 2))
	x.delete(t, "a")
	x.wantPages(t, head(2, 4, 3, 1), free(0), leaf("k", "2"))
	x.wantPage(t, 3, append(free(1), 2)) // of the root's bytes two are what is behind it
	x.wantFree(t, 3, 1)
	x.wantIdle(t, 7)
	x = of(t, 9, head(3, 4, 0, 2), leaf("a", "1"), leaf("k", "2"), inner(1, "f", 2))
	x.delete(t, "k")
	x.wantPages(t, head(1, 4, 3, 1), leaf("a", "1"), free(0))
	x.wantFree(t, 3, 2)
}

// TestTheRootGoesAgain: what becomes the root has only one child, too.
func TestTheRootGoesAgain(t *testing.T) {
	x := of(t, 12, head(7, 8, 0, 4), leaf("a", "1"), leaf("k", "2"), inner(1), inner(2), inner(3), inner(4), inner(5, "f", 6))
	x.delete(t, "k")
	// The leaf 2 goes, then 4 and 6, which had only that child; then the roots 7, 5, 3.
	x.wantPages(t, head(1, 8, 3, 1), leaf("a", "1"))
	for _, l := range [][2]int{{3, 5}, {5, 7}, {7, 6}, {6, 4}, {4, 2}, {2, 0}} {
		x.wantFree(t, l[0], l[1])
	}
	x.wantIdle(t, 10)
	x.wantRange(t, "", 9, "a", "1")
}

// TestAnInnerNodeGoes: it had only its first child; of it nothing is written.
func TestAnInnerNodeGoes(t *testing.T) {
	x := of(t, 12, head(7, 8, 0, 3), leaf("a", "1"), leaf("k", "2"), leaf("s", "3"), inner(1), inner(2), inner(3), inner(4, "f", 5, "p", 6))
	before := x.m.Records()
	x.delete(t, "k")
	x.wantPages(t, head(7, 8, 5, 3), leaf("a", "1"), free(0), leaf("s", "3"), inner(1))
	x.wantPage(t, 5, append(free(2), 2)) // as it was, behind its first two bytes
	x.wantPage(t, 6, inner(3))
	x.wantPage(t, 7, inner(4, "p", 6))
	// The leaf; it is Given, with page 0; the root; the inner node is Given (of whose bytes the second one turns not), with page 0.
	if n := x.m.Records() - before; n != 5 {
		t.Errorf("it wrote %d times", n)
	}
	x = of(t, 12, head(7, 8, 0, 3), leaf("a", "1"), leaf("k", "2"), leaf("s", "3"), inner(1), inner(2), inner(3), inner(4, "f", 5, "p", 6))
	x.delete(t, "a")
	x.wantPage(t, 7, inner(5, "p", 6))
	x.wantFree(t, 4, 1)
	x.wantPage(t, 0, head(7, 8, 4, 3))
	x.delete(t, "s")
	x.wantRange(t, "", 9, "k", "2")
	x.wantHeight(t, 1)
	x.wantPage(t, 0, head(2, 8, 5, 1))
	for _, l := range [][2]int{{5, 7}, {7, 6}, {6, 3}, {3, 4}, {4, 1}, {1, 0}} {
		x.wantFree(t, l[0], l[1])
	}
}

func TestARootWithoutAChild(t *testing.T) {
	for levels := 2; levels <= 20; levels++ {
		x := tower(t, levels, leaf("k", "v"))
		if e := btree.Delete(x.m, x.tx, "k"); e != api.ErrNode {
			t.Errorf("of %d levels: %v", levels, e)
		}
	}
}

// TestWhatBecomesTheRootIsNone: the child that is left was not on the way to the key.
func TestWhatBecomesTheRootIsNone(t *testing.T) {
	for _, child := range []int{0, 9, 65535} {
		x := of(t, 9, head(3, 8, 0, 2), nil, leaf("k", "v"), inner(child, "f", 2))
		if e := btree.Delete(x.m, x.tx, "k"); e != api.ErrNode {
			t.Errorf("child %d: %v", child, e)
		}
	}
	x := of(t, 9, head(4, 8, 0, 3), []byte("no node"), leaf("k", "v"), inner(2), inner(1, "f", 3))
	if e := btree.Delete(x.m, x.tx, "k"); e != api.ErrNode {
		t.Errorf("a child that is no node: %v", e)
	}
}

// TestWhatBecomesTheRootIsLookedAt: it need not be what page 0 says of it.
func TestWhatBecomesTheRootIsLookedAt(t *testing.T) {
	for name, c := range map[string]struct {
		left []byte
		want api.Errno
	}{
		"a leaf":                       {leaf("a", "1"), api.OK},
		"an empty leaf":                {leaf(), api.OK},
		"a page that was never used":   {nil, api.ErrNode},
		"a free one":                   {free(5), api.ErrNode},
		"no node":                      {[]byte("no node"), api.ErrNode},
		"a leaf with a byte behind it": {append(leaf("a", "1"), 1), api.ErrNode},
		"an inner one of one child":    {inner(4), api.ErrNode},
		"an inner one of two":          {inner(4, "b", 5), api.ErrNode},
		"an inner one without a child": {inner(0), api.ErrNode},
		"an inner one that is its own": {inner(1), api.ErrNode},
	} {
		x := of(t, 9, head(3, 6, 0, 2), c.left, leaf("k", "v"), inner(1, "f", 2), leaf("a", "1"), leaf("b", "2"))
		if e := btree.Delete(x.m, x.tx, "k"); e != c.want {
			t.Errorf("%s, by its last key: %v, want %v", name, e, c.want)
		}
		x.wantPage(t, 0, head(1, 6, 3, 1)) // what was written so far stays
		x.wantFree(t, 3, 2)
		x = of(t, 9, head(6, 8, 0, 3), c.left, leaf("k", "v"), inner(1), leaf("a", "1"), leaf("b", "2"), inner(3, "f", 7))
		x.lay(t, 7, inner(2))
		if e := btree.Delete(x.m, x.tx, "k"); e != c.want {
			t.Errorf("%s, two levels below: %v, want %v", name, e, c.want)
		}
	}
}

// TestTheNewRootWasGiven: by the calls alone.
func TestTheNewRootWasGiven(t *testing.T) {
	x := fresh(t, 4)
	for _, key := range []string{"a", "b", "c", "d", "e"} {
		x.put(t, long(key, api.MaxKey), long("v", api.MaxKey))
	}
	x.wantPages(t, head(3, 4, 0, 2))
	done(t, "Give", btree.Give(x.m, x.tx, 1))
	x.delete(t, long("e", api.MaxKey))
	if e := btree.Delete(x.m, x.tx, long("d", api.MaxKey)); e != api.ErrNode {
		t.Errorf("the child that is left was Given: %v", e)
	}
}

// TestARootOfOneChild: hand-made, it goes with the next Delete.
func TestARootOfOneChild(t *testing.T) {
	x := tower(t, 20, leaf("a", "1", "k", "v"))
	x.delete(t, "k")
	x.wantPages(t, head(1, 21, 2, 1), leaf("a", "1"))
	x.wantIdle(t, 58)
	x = of(t, 9, head(2, 3, 0, 2), leaf("a", "1", "k", "v"), inner(1))
	x.delete(t, "a")
	x.wantPages(t, head(1, 3, 2, 1), leaf("k", "v"), append(free(0), 1))
}

// P7.5

func TestRange(t *testing.T) {
	x := of(t, 12, head(7, 8, 0, 3), leaf("a", "1", "b", "2"), leaf("f", "3"), leaf("k", "4", "l", "5"), leaf("s", "6"), inner(1, "f", 2), inner(3, "s", 4), inner(5, "k", 6))
	all := []string{"a", "1", "b", "2", "f", "3", "k", "4", "l", "5", "s", "6"}
	for most := range 8 {
		x.wantRange(t, "", most, all[:2*min(most, 6)]...)
	}
	for _, most := range []int{0, -1, math.MinInt} {
		x.wantRange(t, "", most)
		x.wantRange(t, "zzz", most)
	}
	for from, n := range map[string]int{
		"": 0, "\x00": 0, "a": 0, "a\x00": 1, "b": 1, "b\xff": 2, "c": 2, "f": 2, "f\x00": 3, "j": 3, "k": 3, "kk": 4, "l": 4, "m": 5, "s": 5, "s\x00": 6, "t": 6, "\xff": 6,
		strings.Repeat("a", 1000): 1, strings.Repeat("k", 13): 4, strings.Repeat("\xff", 100): 6,
	} {
		x.wantRange(t, from, math.MaxInt, all[2*n:]...)
		x.wantRange(t, from, 1, all[2*n:min(2*n+2, 12)]...)
	}
}

// TestRangeReadsNoMore: nodes that have no keys from there on, or behind the last pair, may be anything.
func TestRangeReadsNoMore(t *testing.T) {
	laid := func() *set {
		return of(t, 12, head(7, 8, 0, 3), leaf("a", "1", "b", "2"), leaf("f", "3"), leaf("k", "4", "l", "5"), leaf("s", "6"), inner(1, "f", 2), inner(3, "s", 4), inner(5, "k", 6))
	}
	for _, c := range []struct {
		from  string
		most  int
		wrong []int
		want  []string // none: the wrong pages are met
	}{
		{"", 0, []int{7, 5, 6, 1, 2, 3, 4}, []string{}},
		{"", -5, []int{7, 5, 6, 1, 2, 3, 4}, []string{}},
		{"", 1, []int{6, 2, 3, 4}, []string{"a", "1"}},
		{"", 2, []int{6, 2, 3, 4}, []string{"a", "1", "b", "2"}},
		{"", 3, []int{6, 3, 4}, []string{"a", "1", "b", "2", "f", "3"}},
		{"f", 1, []int{1, 6, 3, 4}, []string{"f", "3"}},
		{"k", 9, []int{5, 1, 2}, []string{"k", "4", "l", "5", "s", "6"}},
		{"k", 2, []int{5, 1, 2, 4}, []string{"k", "4", "l", "5"}},
		{"s", 9, []int{5, 1, 2, 3}, []string{"s", "6"}},
		{"z", 9, []int{5, 1, 2, 3}, []string{}},
		{"", 3, []int{2}, nil},
		{"", 4, []int{6}, nil},
		{"", 9, []int{4}, nil},
		{"j", 1, []int{5}, nil}, // that node may have keys from j on
		{"j", 1, []int{2}, nil},
		{"s", 1, []int{7}, nil},
		{"t", 1, []int{4}, nil},
	} {
		x := laid()
		for _, n := range c.wrong {
			x.lay(t, n, []byte("no node"))
		}
		if c.want != nil {
			x.wantRange(t, c.from, c.most, c.want...)
		} else if l, e := btree.Range(x.m, x.tx, c.from, c.most); len(l) > 0 || e != api.ErrNode {
			t.Errorf("Range(%q, %d) with %v wrong: %v, %v", c.from, c.most, c.wrong, l, e)
		}
		x = laid()
		x.spoil(t, 1, c.wrong...)
		if c.want != nil {
			x.wantRange(t, c.from, c.most, c.want...)
		} else if l, e := btree.Range(x.m, x.tx, c.from, c.most); len(l) > 0 || e != api.ErrSum {
			t.Errorf("Range(%q, %d) with %v unreadable: %v, %v", c.from, c.most, c.wrong, l, e)
		}
	}
}

// TestGetReadsNoMore: a key's way goes down by one node a level.
func TestGetReadsNoMore(t *testing.T) {
	x := of(t, 12, head(7, 8, 0, 3), leaf("a", "1", "b", "2"), leaf("f", "3"), leaf("k", "4", "l", "5"), leaf("s", "6"), inner(1, "f", 2), inner(3, "s", 4), inner(5, "k", 6))
	x.spoil(t, 2, 5, 1, 2, 4, 8, 9)
	x.wantValue(t, "l", "5")
	x.wantGone(t, "m")
	x.put(t, "m", "new")
	x.delete(t, "l")
	x.wantRange(t, "k", 2, "k", "4", "m", "new")
	x.wantHeight(t, 3)
	if _, e := btree.Get(x.m, x.tx, "j"); e != api.ErrSum {
		t.Errorf("a page that can't be read: %v", e)
	}
	if _, e := btree.Take(x.m, x.tx); e != api.OK {
		t.Errorf("a page that was never used is taken without a look at it: %v", e)
	}
}

// What holds everywhere

func TestManagersThatNoCallMade(t *testing.T) {
	for _, m := range []*aries.Manager{nil, {}} {
		if e := btree.Init(m, 1); e != api.ErrNil {
			t.Errorf("Init: %v", e)
		}
		for _, c := range calls() {
			for _, tx := range []int{1, 0, -1} {
				if zero, e := c.do(m, tx); !zero || e != api.ErrNil {
					t.Errorf("%s: %v", c.name, e)
				}
			}
		}
		if _, e := btree.Get(m, 1, ""); e != api.ErrNil {
			t.Errorf("Get without a key: %v", e)
		}
		if e := btree.Put(m, 1, "", ""); e != api.ErrNil {
			t.Errorf("Put without a key: %v", e)
		}
		if e := btree.Give(m, 1, -1); e != api.ErrNil {
			t.Errorf("Give of no page: %v", e)
		}
	}
}

func TestTransactionsThatAreNot(t *testing.T) {
	x := of(t, 5, head(1, 3, 0, 1), leaf("k", "v"))
	for _, tx := range []int{0, -1, x.tx + 1, math.MaxInt, math.MinInt} {
		for _, c := range calls() {
			if zero, e := c.do(x.m, tx); !zero || e != api.ErrTx {
				t.Errorf("%s of %d: %v", c.name, tx, e)
			}
		}
	}
	x.begin(t) // another one, while the first one has changed the pages
	for _, c := range calls() {
		if zero, e := c.do(x.m, x.tx); !zero || e != api.ErrLocked {
			t.Errorf("%s: %v", c.name, e)
		}
	}
}

// TestOnlyWhatTurnsIsWritten: each update begins and ends with a byte that turns.
func TestOnlyWhatTurnsIsWritten(t *testing.T) {
	x := fresh(t, 60)
	for i := range 60 {
		x.put(t, long(string([]byte{byte('a' + i*7%26), byte('a' + i*11%23)}), 10), long("v", i%13+1)[:i%13])
	}
	l, e := btree.Range(x.m, x.tx, "", 1000)
	done(t, "Range", e)
	for _, p := range l {
		x.delete(t, p.Key)
	}
	turns := x.turns(t)
	if len(turns) < 200 {
		t.Fatalf("only %d updates", len(turns))
	}
	for _, u := range turns {
		n := len(u.ahead) - 1
		if u.ahead[0] == u.behind[0] || u.ahead[n] == u.behind[n] {
			t.Errorf("%+v", u)
		}
	}
	x = of(t, 5, head(1, 2, 0, 1), leaf("a", "1", "k", "v"))
	before := len(x.turns(t))
	x.put(t, "k", "w")
	if got := x.turns(t)[before:]; !slices.Equal(got, []turn{{1, 9, "v", "w"}}) {
		t.Errorf("one byte turns, but the log has %+v", got)
	}
}

func TestTheExample(t *testing.T) {
	x := fresh(t, 5)
	x.put(t, "b", "1")
	x.put(t, "a", "2")
	x.wantRange(t, "", 9, "a", "2", "b", "1")
}
