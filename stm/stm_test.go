package stm_test

import (
	"slices"
	"strings"
	"testing"

	"rostrum/api"
	"rostrum/stm"
)

// P18.1

func TestNew(t *testing.T) {
	wantSlots(t, "none", space(t), 0, "")
	wantSlots(t, "some", space(t, "b=2", "a=1", "abcdefghijk=long", "\x00=zero", "é=two"), 0, "\x00.0=zero a.0=1 abcdefghijk.0=long b.0=2 é.0=two")
	s, e := stm.New([]api.Slot{{Name: "x", Version: 7, Bytes: []byte("1")}, {Name: "y", Version: -3, Bytes: []byte("2")}})
	want(t, "versions", e, api.OK)
	wantSlots(t, "versions", s, 0, "x.0=1 y.0=2")
	s, e = stm.New([]api.Slot{})
	want(t, "an empty list", e, api.OK)
	wantSlots(t, "an empty list", s, 0, "")
}

// TestSlotsOfEmptyBytes: those that New was given, and those that were published, are told, whatever their bytes.
func TestSlotsOfEmptyBytes(t *testing.T) {
	for _, b := range [][]byte{nil, {}} {
		s, e := stm.New([]api.Slot{{Name: "z", Version: 5, Bytes: b}})
		want(t, "New of one", e, api.OK)
		wantSlots(t, "New of one", s, 0, "z.0=")
		s, e = stm.New([]api.Slot{{Name: "z", Bytes: b}, {Name: "a", Bytes: []byte("1")}, {Name: "m", Bytes: b}})
		want(t, "New of three", e, api.OK)
		wantSlots(t, "New of three", s, 0, "a.0=1 m.0= z.0=")
		x := begin(t, s)
		wantGet(t, "New of three", x, "z", "")
		put(t, x, "z=2", "a=")
		commit(t, x)
		wantSlots(t, "changed", s, 1, "a.1= m.0= z.1=2")
		x = begin(t, s)
		if e := x.Put("b", b); e != api.OK {
			t.Fatalf("Put: %v", e)
		}
		commit(t, x)
		wantSlots(t, "published", s, 2, "a.1= b.2= m.0= z.1=2")
	}
}

// TestSlotsThatNeverGotBytes: names that were only read, locked, or written by one that was not published.
func TestSlotsThatNeverGotBytes(t *testing.T) {
	s := space(t, "z=")
	x := begin(t, s)
	wantGet(t, "not there", x, "a", "")
	put(t, x, "b=1", "c=")
	wantSlots(t, "read and written", s, 0, "z.0=")
	want(t, "Lock", x.Lock(), api.OK)
	wantSlots(t, "locked", s, 0, "z.0=")
	want(t, "Check", x.Check(), api.OK)
	wantSlots(t, "checked", s, 0, "z.0=")
	want(t, "Abort", x.Abort(), api.OK)
	wantSlots(t, "given up", s, 0, "z.0=")
	x = begin(t, s)
	put(t, x, "d=1", "e=")
	want(t, "Drop", x.Drop(), api.OK)
	commit(t, x)
	wantSlots(t, "dropped", s, 0, "z.0=")
	x, y := begin(t, s), begin(t, s)
	put(t, x, "f=")
	put(t, y, "f=1", "g=")
	want(t, "Lock", x.Lock(), api.OK)
	want(t, "Lock of another one", y.Lock(), api.ErrClash)
	wantSlots(t, "clashed", s, 0, "z.0=")
	wantGet(t, "only read", begin(t, s), "g", "")
	wantSlots(t, "only read", s, 0, "z.0=")
}

func TestNewRefuses(t *testing.T) {
	long := strings.Repeat("x", 12)
	for what, c := range map[string]struct {
		l   []api.Slot
		why api.Errno
	}{
		"no name":                      {slots("a=1", "=2"), api.ErrName},
		"a long name":                  {slots("a=1", long+"=2"), api.ErrName},
		"a very long name":             {slots(strings.Repeat("x", 100000) + "=2"), api.ErrName},
		"twice":                        {slots("a=1", "b=2", "a=3"), api.ErrArg},
		"twice, without bytes":         {slots("a=", "a="), api.ErrArg},
		"twice, once without bytes":    {slots("a=1", "a="), api.ErrArg},
		"twice, and a name behind it":  {slots("a=1", "a=1", "="), api.ErrName},
		"twice, and a long one behind": {slots("a=1", "a=1", long+"="), api.ErrName},
	} {
		if s, e := stm.New(c.l); s != nil || e != c.why {
			t.Errorf("%s: %v, want %v", what, e, c.why)
		}
	}
}

// P18.2

func TestGet(t *testing.T) {
	s := space(t, "a=1", "b=2")
	x := begin(t, s)
	wantTx(t, "new", x, 0, "", "")
	wantGet(t, "a slot", x, "b", "2")
	wantGet(t, "again", x, "b", "2")
	wantGet(t, "another one", x, "a", "1")
	wantGet(t, "not there", x, "ab", "")
	wantTx(t, "read", x, 0, "a ab b", "")
	for _, name := range []string{"", strings.Repeat("x", 12), strings.Repeat("x", 5000)} {
		wantNoGet(t, "a name", x, name, api.ErrName)
		want(t, "Put of a name", x.Put(name, []byte("1")), api.ErrName)
	}
	wantGet(t, "the longest name", x, "abcdefghijk", "")
	wantTx(t, "names", x, 0, "a ab abcdefghijk b", "")
}

func TestPut(t *testing.T) {
	s := space(t, "a=1", "b=2")
	x := begin(t, s)
	put(t, x, "a=x", "c=y")
	wantGet(t, "its own", x, "a", "x")
	wantGet(t, "its own new one", x, "c", "y")
	wantTx(t, "what it wrote is not read", x, 0, "", "a.0=x c.0=y")
	put(t, x, "a=z", "c=")
	wantGet(t, "written again", x, "a", "z")
	wantGet(t, "written without bytes", x, "c", "")
	wantTx(t, "written again", x, 0, "", "a.0=z c.0=")
	wantSlots(t, "nothing is seen", s, 0, "a.0=1 b.0=2")
	// read, then written
	wantGet(t, "read", x, "b", "2")
	put(t, x, "b=w")
	wantGet(t, "read and written", x, "b", "w")
	wantTx(t, "read and written", x, 0, "b", "a.0=z b.0=w c.0=")
	// another one does not see it
	wantGet(t, "another one", begin(t, s), "a", "1")
}

// TestGetClashes: a slot that is locked, or newer than the transaction.
func TestGetClashes(t *testing.T) {
	s := space(t, "a=1", "b=2")
	x, y, z := begin(t, s), begin(t, s), begin(t, s)
	put(t, x, "a=9", "n=8")
	want(t, "Lock", x.Lock(), api.OK)
	wantGet(t, "not locked", y, "b", "2")
	wantNoGet(t, "locked", y, "a", api.ErrClash)
	wantTx(t, "locked", y, 4, "b", "")
	wantNoGet(t, "given up", y, "b", api.ErrState)
	wantNoGet(t, "locked, not there yet", z, "n", api.ErrClash)
	wantTx(t, "locked, not there yet", z, 4, "", "")

	z, y = begin(t, s), begin(t, s)
	put(t, y, "a=own")
	wantGet(t, "its own bytes, though it is locked", y, "a", "own")
	want(t, "Check", x.Check(), api.OK)
	want(t, "Publish", x.Publish(), api.OK)
	wantGet(t, "its own bytes, though it is newer", y, "a", "own")
	wantGet(t, "an old one", y, "b", "2")
	wantNoGet(t, "newer", y, "n", api.ErrClash)
	wantTx(t, "newer", y, 4, "b", "a.0=own")
	wantNoGet(t, "newer", z, "a", api.ErrClash)
	wantGet(t, "begun behind it", begin(t, s), "a", "9")
}

func TestStates(t *testing.T) {
	s := space(t, "r=1")
	calls := map[string]struct {
		do   func(x *stm.Tx) api.Errno
		may  []int // phases
		then int   // the phase behind it; -1: as it was
	}{
		"Get":     {func(x *stm.Tx) api.Errno { _, e := x.Get("r"); return e }, []int{0}, -1},
		"Put":     {func(x *stm.Tx) api.Errno { return x.Put("q", []byte("1")) }, []int{0}, -1},
		"Lock":    {func(x *stm.Tx) api.Errno { return x.Lock() }, []int{0}, 1},
		"Check":   {func(x *stm.Tx) api.Errno { return x.Check() }, []int{1, 2}, 2},
		"Publish": {func(x *stm.Tx) api.Errno { return x.Publish() }, []int{2}, 3},
		"Abort":   {func(x *stm.Tx) api.Errno { return x.Abort() }, []int{0, 1, 2}, 4},
		"Drop":    {func(x *stm.Tx) api.Errno { return x.Drop() }, []int{0}, -1},
	}
	for what, c := range calls {
		for _, phase := range phases {
			x := at(t, s, phase)
			clock, all := s.Clock(), text(s.Slots())
			if isOneOf(phase, c.may...) {
				want(t, what, c.do(x), api.OK)
				if then := c.then; x.Phase() != then && (then >= 0 || x.Phase() != phase) {
					t.Errorf("%s in phase %d: then it is in %d", what, phase, x.Phase())
				}
			} else {
				want(t, what, c.do(x), api.ErrState)
				wantTx(t, what, x, phase, "r", "w.0=new")
				wantSlots(t, what, s, clock, all)
			}
			x.Abort()
		}
	}
	// ErrState comes ahead of ErrName
	x := at(t, s, 1)
	wantNoGet(t, "a name", x, "", api.ErrState)
	want(t, "a name", x.Put("", nil), api.ErrState)
}

// P18.3

func TestLock(t *testing.T) {
	s := space(t, "a=1", "b=2")
	x, y, z := begin(t, s), begin(t, s), begin(t, s)
	put(t, x, "b=x", "c=x")
	put(t, y, "a=y", "b=y", "d=y")
	put(t, z, "a=z", "d=z")
	want(t, "x", x.Lock(), api.OK)
	want(t, "y", y.Lock(), api.ErrClash)
	wantTx(t, "y", y, 4, "", "a.0=y b.0=y d.0=y")
	want(t, "z: y locked nothing", z.Lock(), api.OK)
	// a new one that there is not, too
	w := begin(t, s)
	put(t, w, "c=w")
	want(t, "w", w.Lock(), api.ErrClash)
	// locks go with who is given up
	want(t, "Abort", x.Abort(), api.OK)
	w = begin(t, s)
	put(t, w, "b=w", "c=w")
	want(t, "w again", w.Lock(), api.OK)
	// those of y, which clashed, are not w's: an Abort takes none away
	want(t, "y is over", y.Abort(), api.ErrState)
	v := begin(t, s)
	put(t, v, "b=v")
	want(t, "v", v.Lock(), api.ErrClash)
	wantSlots(t, "nothing is published", s, 0, "a.0=1 b.0=2")
}

// TestLockAsksNoVersion: who only writes clashes with nobody that has published.
func TestLockAsksNoVersion(t *testing.T) {
	s := space(t, "a=1")
	x, y := begin(t, s), begin(t, s)
	put(t, x, "a=x")
	put(t, y, "a=y")
	commit(t, x)
	commit(t, y)
	wantSlots(t, "both", s, 2, "a.2=y")
}

func TestLockOfNothing(t *testing.T) {
	s := space(t, "a=1")
	x, y := begin(t, s), begin(t, s)
	put(t, x, "a=x")
	want(t, "x", x.Lock(), api.OK)
	wantGet(t, "y", y, "b", "")
	want(t, "y", y.Lock(), api.OK)
	want(t, "y", y.Check(), api.OK)
	want(t, "y", y.Publish(), api.OK)
	wantSlots(t, "the clock stays", s, 0, "a.0=1")
	want(t, "x", x.Check(), api.OK)
	want(t, "x", x.Publish(), api.OK)
	wantSlots(t, "x", s, 1, "a.1=x")
}

func TestCheck(t *testing.T) {
	s := space(t, "a=1", "b=2")
	// locked by another one
	x, y := begin(t, s), begin(t, s)
	wantGet(t, "x", x, "a", "1")
	put(t, x, "c=x")
	put(t, y, "a=y")
	want(t, "x", x.Lock(), api.OK)
	want(t, "x", x.Check(), api.OK)
	want(t, "y", y.Lock(), api.OK)
	want(t, "x again", x.Check(), api.ErrClash)
	wantTx(t, "x", x, 4, "a", "c.0=x")
	z := begin(t, s)
	put(t, z, "c=z")
	want(t, "x's locks are gone", z.Lock(), api.OK)
	want(t, "z", z.Abort(), api.OK)
	// who locked what it read itself
	wantGet(t, "z", begin(t, s), "b", "2")
	z = begin(t, s)
	wantGet(t, "z", z, "b", "2")
	put(t, z, "b=z")
	want(t, "z", z.Lock(), api.OK)
	want(t, "its own lock", z.Check(), api.OK)
	want(t, "its own lock", z.Check(), api.OK)
	want(t, "its own lock", z.Publish(), api.OK)
	wantSlots(t, "z", s, 1, "a.0=1 b.1=z")
	// another one's lock that is gone again
	x = begin(t, s)
	wantGet(t, "x", x, "b", "z")
	want(t, "x", x.Lock(), api.OK)
	w := begin(t, s)
	put(t, w, "b=w")
	want(t, "w", w.Lock(), api.OK)
	want(t, "w", w.Abort(), api.OK)
	want(t, "x", x.Check(), api.OK)
	// published in between
	w = begin(t, s)
	put(t, w, "b=w")
	commit(t, w)
	want(t, "x", x.Publish(), api.ErrClash)
	wantTx(t, "x", x, 4, "b", "")
	wantSlots(t, "w", s, 2, "a.0=1 b.2=w")
}

// TestCheckOfWhatWasNotThere: a name that was read is a read, though there was no slot.
func TestCheckOfWhatWasNotThere(t *testing.T) {
	s := space(t)
	x, y := begin(t, s), begin(t, s)
	wantGet(t, "x", x, "n", "")
	put(t, x, "m=x")
	put(t, y, "n=y")
	commit(t, y)
	want(t, "x", x.Lock(), api.OK)
	want(t, "x", x.Check(), api.ErrClash)
}

func TestPublish(t *testing.T) {
	s := space(t, "a=1", "b=2")
	x := begin(t, s)
	wantGet(t, "x", x, "a", "1")
	put(t, x, "b=x", "c=x")
	commit(t, x)
	wantTx(t, "published", x, 3, "a", "b.0=x c.0=x")
	wantSlots(t, "x", s, 1, "a.0=1 b.1=x c.1=x")
	y := begin(t, s)
	put(t, y, "b=y", "a=y")
	commit(t, y)
	wantSlots(t, "the locks were gone", s, 2, "a.2=y b.2=y c.1=x")
	// Publish looks once more: at locks, too
	x = begin(t, s)
	wantGet(t, "x", x, "a", "y")
	put(t, x, "c=z")
	want(t, "x", x.Lock(), api.OK)
	want(t, "x", x.Check(), api.OK)
	y = begin(t, s)
	put(t, y, "a=q")
	want(t, "y", y.Lock(), api.OK)
	want(t, "x", x.Publish(), api.ErrClash)
	wantTx(t, "x", x, 4, "a", "c.0=z")
	wantSlots(t, "nothing of it is seen", s, 2, "a.2=y b.2=y c.1=x")
	z := begin(t, s)
	put(t, z, "c=z")
	want(t, "x's locks are gone", z.Lock(), api.OK)
}

func TestDrop(t *testing.T) {
	s := space(t, "a=1", "b=2")
	x := begin(t, s)
	wantGet(t, "x", x, "a", "1")
	put(t, x, "b=x", "c=x")
	want(t, "Drop", x.Drop(), api.OK)
	wantTx(t, "dropped", x, 0, "a", "")
	wantGet(t, "the slot's again", x, "b", "2")
	put(t, x, "d=x")
	commit(t, x)
	wantSlots(t, "x", s, 1, "a.0=1 b.0=2 d.1=x")
	// what it read can clash still
	x, y := begin(t, s), begin(t, s)
	wantGet(t, "x", x, "a", "1")
	put(t, x, "a=x")
	want(t, "Drop", x.Drop(), api.OK)
	put(t, y, "a=y")
	commit(t, y)
	want(t, "Lock", x.Lock(), api.OK)
	want(t, "Check", x.Check(), api.ErrClash)
}

// P18.4, and what the document says of objects that no call made

func TestNone(t *testing.T) {
	for _, s := range []*stm.Space{nil, {}} {
		if s.Clock() != 0 || len(s.Slots()) > 0 {
			t.Error("a space that no call made tells something")
		}
		if x, e := s.Begin(); x != nil || e != api.ErrNil {
			t.Errorf("Begin: %v", e)
		}
	}
	for _, x := range []*stm.Tx{nil, {}} {
		wantNoGet(t, "none", x, "a", api.ErrNil)
		wantNoGet(t, "none", x, "", api.ErrNil)
		want(t, "Put", x.Put("a", nil), api.ErrNil)
		for _, f := range []func() api.Errno{x.Lock, x.Check, x.Publish, x.Abort, x.Drop} {
			want(t, "a call", f(), api.ErrNil)
		}
		if len(x.Reads()) > 0 || len(x.Writes()) > 0 || x.Phase() != 4 {
			t.Error("a transaction that no call made tells something")
		}
	}
}

func TestSpacesApart(t *testing.T) {
	s, r := space(t, "a=1"), space(t, "a=2")
	x, y := begin(t, s), begin(t, r)
	put(t, x, "a=x")
	put(t, y, "a=y")
	want(t, "x", x.Lock(), api.OK)
	want(t, "y", y.Lock(), api.OK)
	want(t, "y", y.Check(), api.OK)
	want(t, "y", y.Publish(), api.OK)
	wantSlots(t, "s", s, 0, "a.0=1")
	wantSlots(t, "r", r, 1, "a.1=y")
}

// Memory

// fill overwrites bytes, the room behind them included.
func fill(b []byte) {
	b = b[:cap(b)]
	for i := range b {
		b[i] = '#'
	}
}

func TestMemory(t *testing.T) {
	roomy := func(s string) []byte { return append(make([]byte, 0, 20), s...) }
	b := roomy("123")
	l := append(make([]api.Slot, 0, 3), api.Slot{Name: "a", Bytes: b})
	l[:2][1] = api.Slot{Name: "spare"}
	s, e := stm.New(l)
	want(t, "New", e, api.OK)
	if string(b[:20]) != "123"+strings.Repeat("\x00", 17) || l[:2][1].Name != "spare" || l[0].Name != "a" {
		t.Error("New changed what it was handed")
	}
	fill(b)
	l[0].Name = "z"
	wantSlots(t, "New keeps nothing", s, 0, "a.0=123")
	x := begin(t, s)
	p := roomy("456")
	want(t, "Put", x.Put("c", p), api.OK)
	if string(p[:20]) != "456"+strings.Repeat("\x00", 17) {
		t.Error("Put changed what it was handed")
	}
	fill(p)
	// answers are new memory, each time
	for range 2 {
		for _, name := range []string{"a", "c"} {
			got, _ := x.Get(name)
			fill(got)
		}
		w := x.Writes()
		fill(w[0].Bytes)
		w[0].Name = "z"
		r := x.Reads()
		r[0] = "z"
		all := s.Slots()
		fill(all[0].Bytes)
		all[0] = api.Slot{}
		wantGet(t, "a", x, "a", "123")
		wantGet(t, "c", x, "c", "456")
		wantTx(t, "x", x, 0, "a", "c.0=456")
		wantSlots(t, "s", s, 0, "a.0=123")
	}
	commit(t, x)
	w := x.Writes()
	fill(w[0].Bytes)
	wantSlots(t, "published", s, 1, "a.0=123 c.1=456")
	all := s.Slots()
	fill(all[1].Bytes)
	wantTx(t, "published", x, 3, "a", "c.0=456")
	wantSlots(t, "published", s, 1, "a.0=123 c.1=456")
	// no two lists of one answer share any
	y := begin(t, s)
	put(t, y, "p=1", "q=1", "r=1")
	w = y.Writes()
	fill(w[0].Bytes)
	fill(w[1].Bytes)
	if string(w[2].Bytes) != "1" || !slices.Equal(w[0].Bytes[:1], []byte("#")) {
		t.Error("lists share memory")
	}
}
