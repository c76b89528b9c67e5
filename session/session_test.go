package session_test

import (
	"bytes"
	"encoding/binary"
	"math"
	"strings"
	"testing"

	"rostrum/api"
	"rostrum/session"
	"rostrum/store"
)

// P20.2: Next and Count

func wantNext(t *testing.T, what string, s *store.Store, want int, why api.Errno) {
	t.Helper()
	if n, e := session.Next(s); n != want || e != why {
		t.Errorf("%s: Next is %d, %v, want %d, %v", what, n, e, want, why)
	}
}

func number(n uint64) string { return string(binary.AppendUvarint(nil, n)) }

func TestNext(t *testing.T) {
	wantNext(t, "no key", kept(t), 1, api.OK)
	wantNext(t, "other keys", kept(t, "nn=\x05", "N=\x05", "s000300=\x01", "vn=\x05"), 1, api.OK)
	for _, n := range []int{1, 2, 127, 128, 300, 9999, 10000} {
		wantNext(t, "a number", kept(t, "n="+number(uint64(n))), n, api.OK)
	}
	for what, b := range map[string]string{
		"no bytes":             "",
		"nought":               "\x00",
		"beyond":               number(10001),
		"far beyond":           number(math.MaxInt),
		"a number too great":   number(math.MaxUint64),
		"cut":                  "\x80",
		"not the shortest one": "\x81\x00",
		"a byte behind":        "\x05\x00",
		"two numbers":          "\x05\x05",
		"digits":               "12",
		"long":                 rep(1500),
	} {
		wantNext(t, what, kept(t, "n="+b), 0, api.ErrForm)
	}
	wantNext(t, "a broken key", broken(t, []string{"n"}), 0, api.ErrNode)
	wantNext(t, "headless", headless(t, "n=\x05"), 0, api.ErrNode)
}

func TestCount(t *testing.T) {
	for _, n := range []int{1, 2, 127, 128, 9999, 10000} {
		c, e := session.Count(n)
		if e != api.OK || c.Key != "n" || string(c.Bytes) != number(uint64(n)) || c.Gone {
			t.Errorf("Count(%d) is %v, %v", n, c, e)
		}
		s := kept(t, "n=junk")
		batch(t, s, c)
		wantNext(t, "counted", s, n, api.OK)
	}
	for _, n := range []int{0, -1, 10001, math.MaxInt, math.MinInt} {
		if c, e := session.Count(n); e != api.ErrArg || c.Key != "" || len(c.Bytes) > 0 || c.Gone {
			t.Errorf("Count(%d) is %v, %v", n, c, e)
		}
	}
}

// P20.3

var someReplies = []api.Reply{
	{ID: "a", Status: api.RepDone, Text: "5"},
	{ID: "abcdefgh", Status: api.RepDone, Text: strings.Repeat("\xff", 1000)},
	{ID: "Q9", Status: api.RepFailed, Why: 999},
	{ID: "0", Status: api.RepSession, Session: 9999, Text: "7"},
	{ID: "b", Status: api.RepDone},
}

func wantNoReply(t *testing.T, what string, s *store.Store, id string, why api.Errno) {
	t.Helper()
	if r, there, e := session.Cached(s, id); r != (api.Reply{}) || there || e != why {
		t.Errorf("%s: Cached(%q) is %s, %v, %v, want %v", what, id, short(r), there, e, why)
	}
}

func wantReply(t *testing.T, what string, s *store.Store, want api.Reply) {
	t.Helper()
	if r, there, e := session.Cached(s, want.ID); r != want || !there || e != api.OK {
		t.Errorf("%s: Cached(%q) is %s, %v, %v", what, want.ID, short(r), there, e)
	}
}

func TestCache(t *testing.T) {
	for _, r := range someReplies {
		c, e := session.Cache(r)
		if e != api.OK || c.Key != "r"+r.ID || string(c.Bytes) != line(r) || c.Gone {
			t.Errorf("Cache(%s) is %s, %v", short(r), short(c), e)
		}
	}
	for what, r := range map[string]api.Reply{
		"the zero one":            {},
		"no name":                 {Status: api.RepDone},
		"a long name":             {ID: "abcdefghi", Status: api.RepDone},
		"a wrong name":            {ID: "a b", Status: api.RepDone},
		"no status":               {ID: "a"},
		"done with a why":         {ID: "a", Status: api.RepDone, Why: 1},
		"failed without":          {ID: "a", Status: api.RepFailed},
		"failed with a text":      {ID: "a", Status: api.RepFailed, Why: 1, Text: "x"},
		"a session that can't be": {ID: "a", Status: api.RepSession, Session: 10000},
		"a long text":             {ID: "a", Status: api.RepDone, Text: rep(1001)},
	} {
		if c, e := session.Cache(r); e != api.ErrArg || c.Key != "" || len(c.Bytes) > 0 || c.Gone {
			t.Errorf("%s: Cache is %s, %v", what, short(c), e)
		}
	}
}

func TestCached(t *testing.T) {
	a, b := someReplies[0], someReplies[4]
	good := line(a)
	s := kept(t, "ra="+good, "rb="+line(b), "rc="+good, "rd=", "re=junk", "rf="+good[:len(good)-1], "rg="+line(api.Reply{ID: "g", Status: 9}),
		"rh="+line(api.Reply{ID: "H", Status: api.RepDone}), "ri="+line(api.Reply{ID: "i", Status: api.RepDone})+"\x00", "vj="+line(api.Reply{ID: "j", Status: api.RepDone}), "r=x", "ra-b="+good)
	wantReply(t, "one", s, a)
	wantReply(t, "another one", s, b)
	wantNoReply(t, "another request's", s, "c", api.ErrForm)
	wantNoReply(t, "no bytes", s, "d", api.ErrForm)
	wantNoReply(t, "junk", s, "e", api.ErrForm)
	wantNoReply(t, "cut", s, "f", api.ErrForm)
	wantNoReply(t, "it may not be", s, "g", api.ErrForm)
	wantNoReply(t, "another name's, by a letter's case", s, "h", api.ErrForm)
	wantNoReply(t, "a byte behind", s, "i", api.ErrForm)
	wantNoReply(t, "a root's", s, "j", api.OK)
	for _, id := range []string{"aa", "A", "0", "abcdefgh"} {
		wantNoReply(t, "none", s, id, api.OK)
	}
	for _, id := range []string{"", "abcdefghi", "a-b", "é", rep(5000), "a\x00"} {
		wantNoReply(t, "no name", s, id, api.ErrArg)
	}
}

func TestCachedOfABrokenStore(t *testing.T) {
	s := broken(t, []string{"ra"}, "rb="+line(someReplies[4]))
	wantNoReply(t, "broken", s, "a", api.ErrNode)
	wantNoReply(t, "none", s, "c", api.OK)
	wantNoReply(t, "no name", s, "", api.ErrArg)
	wantReply(t, "another one", s, someReplies[4])
	wantNoReply(t, "headless", headless(t), "a", api.ErrNode)
	wantNoReply(t, "headless, no name", headless(t), "a.", api.ErrArg)
}

// P20.4

// wantRoots: each text is a name, and its bytes behind a =.
func wantRoots(t *testing.T, what string, s *store.Store, want ...string) {
	t.Helper()
	l, e := session.Roots(s)
	if e != api.OK || len(l) != len(want) {
		t.Fatalf("%s: Roots are %s, %v, want %.200q", what, short(l), e, want)
	}
	for i, x := range l {
		if x.Name+"="+string(x.Bytes) != want[i] || x.Version != 0 {
			t.Errorf("%s: root %d is %s, want %.60q", what, i, short(x), want[i])
		}
	}
}

func TestRoots(t *testing.T) {
	wantRoots(t, "none", kept(t))
	wantRoots(t, "no roots", kept(t, "n=\x01", "s000100=\x01", "ra=x", "V=x", "w=x", "u=x", "v="))
	wantRoots(t, "some", kept(t, "vx=1", "vab=2", "va=", "v\x00=zero", "v\xff=high", "vv=v", "vabcdefghijk="+rep(1500), "n=\x02", "rv=x", "wx=1", "v=no name", "s000100=\x01"),
		"\x00=zero", "a=", "ab=2", "abcdefghijk="+rep(1500), "v=v", "x=1", "\xff=high")
}

func TestRootsOfABrokenStore(t *testing.T) {
	for what, s := range map[string]*store.Store{
		"one":      broken(t, []string{"vb"}, "va=1", "vc=1"),
		"the last": broken(t, []string{"vz"}, "va=1"),
		"headless": headless(t, "va=1"),
	} {
		if l, e := session.Roots(s); len(l) > 0 || e != api.ErrNode {
			t.Errorf("%s: %v, %v", what, l, e)
		}
	}
	wantRoots(t, "other keys", broken(t, []string{"n", "ra", "s000100", "v"}, "va=1"), "a=1")
}

func TestRoot(t *testing.T) {
	for _, name := range []string{"x", "abcdefghijk", "\x00", "é", " ", "s000100", "v"} {
		for _, size := range []int{0, 1, 1499, 1500} {
			b := noise(int64(size), size)
			if c, e := session.Root(name, b); e != api.OK || c.Key != "v"+name || !bytes.Equal(c.Bytes, b) || c.Gone {
				t.Errorf("Root(%q) of %d bytes is %s, %v", name, size, short(c), e)
			}
		}
	}
	for _, c := range []struct {
		name string
		size int
		why  api.Errno
	}{
		{"", 0, api.ErrName}, {"", 1501, api.ErrName}, {"abcdefghijkl", 3, api.ErrName}, {rep(100000), 1501, api.ErrName},
		{"x", 1501, api.ErrFull}, {"abcdefghijk", 1501, api.ErrFull}, {"x", 1 << 20, api.ErrFull},
	} {
		if x, e := session.Root(c.name, make([]byte, c.size)); e != c.why || x.Key != "" || len(x.Bytes) > 0 || x.Gone {
			t.Errorf("Root(%.20q) of %d bytes is %s, %v, want %v", c.name, c.size, short(x), e, c.why)
		}
	}
}

// Rules that hold everywhere: Objects, Memory.

func TestStoresThatNoCallMade(t *testing.T) {
	for _, s := range []*store.Store{nil, {}, new(store.Store)} {
		for _, id := range append([]int{1, 5, 9999}, wrongSessions...) {
			wantNone(t, "Unpack", s, id, api.ErrNil)
			if l, e := session.Drop(s, id); len(l) > 0 || e != api.ErrNil {
				t.Errorf("Drop: %v, %v", l, e)
			}
		}
		wantNext(t, "Next", s, 0, api.ErrNil)
		if l, e := session.List(s); len(l) > 0 || e != api.ErrNil {
			t.Errorf("List: %v, %v", l, e)
		}
		for _, id := range []string{"a", "", "a-b"} {
			wantNoReply(t, "Cached", s, id, api.ErrNil)
		}
		if l, e := session.Roots(s); len(l) > 0 || e != api.ErrNil {
			t.Errorf("Roots: %v, %v", l, e)
		}
	}
}

func TestChangesAreNewMemory(t *testing.T) {
	given := roomy([]byte("abc"))
	all := bytes.Clone(given[:cap(given)])
	c, _ := session.Root("x", given)
	again, _ := session.Root("x", given)
	if !bytes.Equal(given[:cap(given)], all) {
		t.Error("Root wrote into what it was given")
	}
	spoil(given)
	spoil(c.Bytes)
	if string(again.Bytes) != "abc" {
		t.Error("Root's answer shares memory")
	}
	for what, do := range map[string]func() api.Change{
		"Count": func() api.Change { c, _ := session.Count(300); return c },
		"Cache": func() api.Change { c, _ := session.Cache(someReplies[0]); return c },
	} {
		c, again := do(), do()
		kept := bytes.Clone(again.Bytes)
		spoil(c.Bytes)
		if !bytes.Equal(again.Bytes, kept) || !bytes.Equal(do().Bytes, kept) {
			t.Errorf("%s: two answers share memory", what)
		}
	}
}

func TestAnswersOfAStoreAreNewMemory(t *testing.T) {
	s := kept(t, "s000500=\x02"+rep(1400), "s000501=abc", "va=1", "vb=22", "s000600=\x01abc")
	before := contents(t, s)
	for _, id := range []int{5, 6} {
		b, _ := session.Unpack(s, id)
		again, _ := session.Unpack(s, id)
		kept := bytes.Clone(again)
		spoil(b)
		if !bytes.Equal(again, kept) {
			t.Error("two answers of Unpack share memory")
		}
	}
	l, _ := session.Roots(s)
	again, _ := session.Roots(s)
	spoil(l[0].Bytes)
	if string(l[1].Bytes) != "22" || string(again[0].Bytes) != "1" {
		t.Error("Roots' answers share memory")
	}
	wantContents(t, "spoilt", s, before)
}
