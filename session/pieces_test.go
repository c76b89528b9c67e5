package session_test

import (
	"bytes"
	"math"
	"slices"
	"testing"

	"rostrum/api"
	"rostrum/session"
	"rostrum/store"
)

var wrongSessions = []int{0, -1, 10000, 10001, math.MinInt, math.MaxInt}

// P20.1

// pieces is what Pack must cut bytes into, worked out byte by byte.
func pieces(b []byte) [][]byte {
	l := [][]byte{{1}}
	for i, x := range b {
		if i > 0 && i%1400 == 0 {
			l = append(l, nil)
			l[0][0]++
		}
		l[len(l)-1] = append(l[len(l)-1], x)
	}
	return l
}

func TestPack(t *testing.T) {
	for _, c := range []struct{ id, size, count int }{
		{3, 0, 1}, {1, 1, 1}, {9999, 1399, 1}, {12, 1400, 1}, {10, 1401, 2}, {100, 2800, 2}, {1000, 2801, 3},
		{999, 14000, 10}, {7, 14001, 11}, {77, 55999, 40}, {8, 54600, 39}, {8, 54601, 40}, {9999, 56000, 40},
	} {
		b := noise(int64(c.size), c.size)
		l, e := session.Pack(c.id, b)
		parts := pieces(b)
		if e != api.OK || len(l) != c.count || len(parts) != c.count {
			t.Fatalf("Pack of %d bytes: %d changes, %v", c.size, len(l), e)
		}
		for i, x := range l {
			if x.Key != numbered(c.id, i) || !bytes.Equal(x.Bytes, parts[i]) || x.Gone {
				t.Errorf("Pack of %d bytes: change %d is of %q with %d bytes, want %q with %d", c.size, i, x.Key, len(x.Bytes), numbered(c.id, i), len(parts[i]))
			}
		}
	}
	// The chapter's example.
	if l, e := session.Pack(3, nil); e != api.OK || len(l) != 1 || l[0].Key != "s000300" || !bytes.Equal(l[0].Bytes, []byte{1}) {
		t.Errorf("Pack of none: %v, %v", l, e)
	}
}

func TestPackRefuses(t *testing.T) {
	for _, id := range wrongSessions {
		for _, size := range []int{0, 5, 56001} {
			if l, e := session.Pack(id, make([]byte, size)); len(l) > 0 || e != api.ErrArg {
				t.Errorf("Pack(%d) of %d bytes: %d changes, %v", id, size, len(l), e)
			}
		}
	}
	for _, size := range []int{56001, 57400, 1 << 22} {
		if l, e := session.Pack(5, make([]byte, size)); len(l) > 0 || e != api.ErrFull {
			t.Errorf("Pack of %d bytes: %d changes, %v", size, len(l), e)
		}
	}
}

func TestPackAnswersNewMemory(t *testing.T) {
	given := roomy(noise(1, 5000))
	all := bytes.Clone(given[:cap(given)])
	l, _ := session.Pack(4, given)
	again, _ := session.Pack(4, given)
	if !bytes.Equal(given[:cap(given)], all) {
		t.Error("Pack wrote into what it was given")
	}
	spoil(given)
	for i := range l {
		spoil(l[i].Bytes)
		for k, part := range pieces(all[:5000]) {
			if !bytes.Equal(again[k].Bytes, part) {
				t.Fatal("the answers of two calls, or an argument, share memory")
			}
			if k > i && !bytes.Equal(l[k].Bytes, part) {
				t.Fatal("two pieces share memory")
			}
		}
	}
}

func wantBytes(t *testing.T, what string, s *store.Store, id int, want []byte) {
	t.Helper()
	if b, e := session.Unpack(s, id); e != api.OK || !bytes.Equal(b, want) {
		t.Errorf("%s: Unpack(%d) is %d bytes, %v, want %d", what, id, len(b), e, len(want))
	}
}

func wantNone(t *testing.T, what string, s *store.Store, id int, why api.Errno) {
	t.Helper()
	if b, e := session.Unpack(s, id); e != why || len(b) > 0 {
		t.Errorf("%s: Unpack(%d) is %d bytes, %v, want %v", what, id, len(b), e, why)
	}
}

func TestUnpack(t *testing.T) {
	s := kept(t, "s000700=\x01", "s000800=\x01abc", "s000900=\x01"+rep(1400), "s999900=\x02"+rep(1400), "s999901=y", "s001000=\x01\x02", "s001001=not its own",
		"s000100=\x03"+rep(1400), "s000101="+rep(1400), "s000102="+rep(1400))
	wantBytes(t, "no bytes", s, 7, nil)
	wantBytes(t, "some", s, 8, []byte("abc"))
	wantBytes(t, "a full piece", s, 9, []byte(rep(1400)))
	wantBytes(t, "two pieces", s, 9999, []byte(rep(1400)+"y"))
	wantBytes(t, "a piece behind all", s, 10, []byte{2})
	wantBytes(t, "full pieces", s, 1, []byte(rep(4200)))
	for _, id := range wrongSessions {
		wantNone(t, "a number that can't be", s, id, api.ErrArg)
	}
	for _, id := range []int{2, 6, 11, 70, 100, 700, 1000, 9998} {
		wantNone(t, "not there", s, id, api.ErrSession)
	}
}

// TestUnpackOfWhatCantBe: each store has the session 5.
func TestUnpackOfWhatCantBe(t *testing.T) {
	full := rep(1400)
	for what, c := range map[string]struct {
		l   []string
		why api.Errno
	}{
		"no first piece":                 {[]string{"s000501=abc", "s000502=abc"}, api.ErrSession},
		"an empty first piece":           {[]string{"s000500="}, api.ErrForm},
		"no pieces":                      {[]string{"s000500=\x00"}, api.ErrForm},
		"no pieces, and bytes":           {[]string{"s000500=\x00abc"}, api.ErrForm},
		"41 pieces":                      {[]string{"s000500=\x29" + full, "s000501=" + full}, api.ErrForm},
		"255 pieces":                     {[]string{"s000500=\xff" + full, "s000501=" + full}, api.ErrForm},
		"a first piece too long":         {[]string{"s000500=\x01" + full + "x"}, api.ErrForm},
		"a longest first piece":          {[]string{"s000500=\x01" + rep(1499)}, api.ErrForm},
		"the second one is missing":      {[]string{"s000500=\x02" + full}, api.ErrForm},
		"the third one is missing":       {[]string{"s000500=\x03" + full, "s000501=" + full}, api.ErrForm},
		"one between is missing":         {[]string{"s000500=\x03" + full, "s000502=abc"}, api.ErrForm},
		"the second one is empty":        {[]string{"s000500=\x02" + full, "s000501="}, api.ErrForm},
		"the second one is too long":     {[]string{"s000500=\x02" + full, "s000501=" + full + "x"}, api.ErrForm},
		"one between is too long":        {[]string{"s000500=\x03" + full, "s000501=" + full + "x", "s000502=abc"}, api.ErrForm},
		"one between is too short":       {[]string{"s000500=\x03" + full, "s000501=" + rep(1399), "s000502=abc"}, api.ErrForm},
		"the first one is too short":     {[]string{"s000500=\x02" + rep(1399), "s000501=abc"}, api.ErrForm},
		"without bytes, and two pieces":  {[]string{"s000500=\x02", "s000501="}, api.ErrForm},
		"the second one is another's":    {[]string{"s000500=\x02" + full, "s000601=abc", "s005001=abc"}, api.ErrForm},
		"the second one is a longer key": {[]string{"s000500=\x02" + full, "s0005001=abc", "s00051=abc"}, api.ErrForm},
	} {
		s := kept(t, c.l...)
		before := contents(t, s)
		wantNone(t, what, s, 5, c.why)
		wantContents(t, what, s, before)
	}
}

func TestUnpackOfABrokenStore(t *testing.T) {
	full := rep(1400)
	first, second := "s000500=\x03"+full, "s000501="+full
	wantNone(t, "the first one", broken(t, []string{"s000500"}), 5, api.ErrNode)
	wantNone(t, "the first one, of many", broken(t, []string{"s000500"}, second), 5, api.ErrNode)
	wantNone(t, "the second one", broken(t, []string{"s000501"}, first, "s000502=abc"), 5, api.ErrNode)
	wantNone(t, "the last one", broken(t, []string{"s000502"}, first, second), 5, api.ErrNode)
	wantNone(t, "both", broken(t, []string{"s000501", "s000502"}, first), 5, api.ErrNode)
	wantNone(t, "one, and another is missing", broken(t, []string{"s000501"}, first), 5, api.ErrForm)
	wantNone(t, "one, and another can't be", broken(t, []string{"s000501"}, first, "s000502="), 5, api.ErrForm)
	wantNone(t, "one that the first one does not name", broken(t, []string{"s000503"}, first, second, "s000502="), 5, api.ErrForm)
	wantNone(t, "not there", broken(t, []string{"s000500"}), 6, api.ErrSession)
	wantNone(t, "a number that can't be", broken(t, []string{"s000500"}), 0, api.ErrArg)
	wantNone(t, "headless", headless(t, "s000500=\x01"), 5, api.ErrNode)
	wantNone(t, "headless, a number that can't be", headless(t), 10000, api.ErrArg)
	wantBytes(t, "others", broken(t, []string{"s000503", "s000600", "n"}, first, second, "s000502=abc"), 5, []byte(full+full+"abc"))
}

// P20.2: List and Drop

func TestList(t *testing.T) {
	wantSessions(t, "none", kept(t))
	wantSessions(t, "some", kept(t, "s001200=\x01", "s000100=", "s999900=junk", "s010000=\x00", "n=\x05", "rs000100=x", "vs000200=x"), 1, 12, 100, 9999)
	wantSessions(t, "without their first pieces", kept(t, "s000101=", "s001299=abc", "s000200=\x02", "s000201=a"), 2)
	wantSessions(t, "keys that are none", kept(t, "s000000=\x01", "s=", "s1=", "s00010=", "s0001000=", "s+00100=", "s-00100=", "s 00100=", "s0x1000=", "sabcd00=",
		"S000100=", "s00a100=", "s0001a0=", "s00010a=", "s000\xff00=", "s000100000=", "t000100=", "s1_0000=", "s.00100="))
	want := []int(nil)
	s := kept(t)
	for id := 9990; id > 0; id -= 333 {
		batch(t, s, api.Change{Key: numbered(id, 0), Bytes: []byte{1}})
		want = append(want, id)
	}
	slices.Sort(want)
	wantSessions(t, "many", s, want...)
}

func wantSessions(t *testing.T, what string, s *store.Store, want ...int) {
	t.Helper()
	if l, e := session.List(s); e != api.OK || !slices.Equal(l, want) {
		t.Errorf("%s: List is %v, %v, want %v", what, l, e, want)
	}
}

func TestListOfABrokenStore(t *testing.T) {
	wantSessions(t, "the bytes play no part", broken(t, []string{"s000500", "s000601"}, "s000400="), 4, 5)
	if l, e := session.List(headless(t, "s000500=\x01")); len(l) > 0 || e != api.ErrNode {
		t.Errorf("headless: %v, %v", l, e)
	}
}

// wantDrop: Drop tells these pieces, each gone.
func wantDrop(t *testing.T, what string, s *store.Store, id int, places ...int) {
	t.Helper()
	l, e := session.Drop(s, id)
	var want []string
	for _, p := range places {
		want = append(want, numbered(id, p))
	}
	var got []string
	for _, c := range l {
		got = append(got, c.Key)
		if !c.Gone || len(c.Bytes) > 0 {
			t.Errorf("%s: the change of %s is %v", what, c.Key, c)
		}
	}
	if e != api.OK || !slices.Equal(got, want) {
		t.Errorf("%s: Drop(%d) is %q, %v, want %q", what, id, got, e, want)
	}
}

func TestDrop(t *testing.T) {
	s := kept(t, "s000100=\x01abc", "s000101=more", "s000200=\x03abc", "s000201=", "s000202="+rep(1500), "s000203=more",
		"s000300=\x04", "s000302=x", "s000304=x", "s000400=\x28", "s000439=x", "s000440=x", "s000500=\xff", "s000540=x", "s000599=x", "s0005100=x", "s0005254=x",
		"s000600=", "s000601=x", "s000700=\x00", "s000701=x", "s000801=x", "s999900=\x02", "s999901=x")
	before := contents(t, s)
	wantDrop(t, "one", s, 1, 0)
	wantDrop(t, "three", s, 2, 0, 1, 2)
	wantDrop(t, "those that are there", s, 3, 0, 2)
	wantDrop(t, "forty", s, 4, 0, 39)
	wantDrop(t, "as many as it says", s, 5, 0, 40, 99)
	wantDrop(t, "it says nothing", s, 6, 0)
	wantDrop(t, "it says none", s, 7, 0)
	wantDrop(t, "the last session", s, 9999, 0, 1)
	for _, id := range []int{8, 9, 10, 9998} {
		if l, e := session.Drop(s, id); len(l) > 0 || e != api.ErrSession {
			t.Errorf("Drop(%d): %v, %v", id, l, e)
		}
	}
	for _, id := range wrongSessions {
		if l, e := session.Drop(s, id); len(l) > 0 || e != api.ErrArg {
			t.Errorf("Drop(%d): %v, %v", id, l, e)
		}
	}
	wantContents(t, "nothing is gone yet", s, before)
}

func TestDropOfABrokenStore(t *testing.T) {
	for what, c := range map[string]struct {
		s   *store.Store
		id  int
		why api.Errno
	}{
		"the first one":          {broken(t, []string{"s000500"}), 5, api.ErrNode},
		"the second one":         {broken(t, []string{"s000501"}, "s000500=\x02"), 5, api.ErrNode},
		"the last one":           {broken(t, []string{"s000502"}, "s000500=\x03", "s000501=x"), 5, api.ErrNode},
		"not there":              {broken(t, []string{"s000501"}), 5, api.ErrSession},
		"a number that can't be": {headless(t), 0, api.ErrArg},
		"headless":               {headless(t, "s000500=\x01"), 5, api.ErrNode},
	} {
		if l, e := session.Drop(c.s, c.id); len(l) > 0 || e != c.why {
			t.Errorf("%s: %v, %v, want %v", what, l, e, c.why)
		}
	}
	wantDrop(t, "one that the first one does not name", broken(t, []string{"s000502", "s000600"}, "s000500=\x02", "s000501=x"), 5, 0, 1)
}
