package session_test

import (
	"bytes"
	"maps"
	"math/rand"
	"slices"
	"strings"
	"testing"

	"rostrum/api"
	"rostrum/disk"
	"rostrum/session"
	"rostrum/store"
)

// P20.5

func TestThereAndBack(t *testing.T) {
	for _, size := range []int{0, 1, 1399, 1400, 1401, 2799, 2800, 2801, 13999, 14000, 14001, 20000} {
		s := kept(t, "n=\x07", "s000401=junk", "s000600=\x01junk", "va=1")
		for _, id := range []int{1, 9999} {
			b := noise(int64(size+id), size)
			l, e := session.Pack(id, b)
			want(t, "Pack", e, api.OK)
			batch(t, s, l...)
			wantBytes(t, "packed", s, id, b)
		}
		wantSessions(t, "packed", s, 1, 6, 9999)
		l, e := session.Drop(s, 1)
		want(t, "Drop", e, api.OK)
		batch(t, s, l...)
		wantNone(t, "dropped", s, 1, api.ErrSession)
		wantSessions(t, "dropped", s, 6, 9999)
		wantBytes(t, "another one", s, 9999, noise(int64(size+9999), size))
	}
}

// wide is a store on which all bytes of the greatest session have room in one batch.
func wide(t *testing.T) *store.Store {
	t.Helper()
	d, _ := disk.New(api.MaxSectors)
	s, e := store.Open(d, 3200, 800)
	want(t, "store.Open", e, api.OK)
	return s
}

func TestTheGreatestSession(t *testing.T) {
	s := wide(t)
	b := noise(1, 56000)
	l, e := session.Pack(9999, b)
	want(t, "Pack", e, api.OK)
	batch(t, s, l...)
	wantBytes(t, "packed", s, 9999, b)
	l, e = session.Drop(s, 9999)
	if e != api.OK || len(l) != 40 {
		t.Fatalf("Drop: %d changes, %v", len(l), e)
	}
	batch(t, s, l...)
	wantContents(t, "dropped", s, nil)
}

// TestOnePieceTooMany: all of the pieces are there, and each by itself may be.
func TestOnePieceTooMany(t *testing.T) {
	s := wide(t)
	for i := range 42 {
		batch(t, s, api.Change{Key: numbered(7, i), Bytes: []byte(rep(1400))})
	}
	for count, why := range map[byte]api.Errno{40: api.OK, 41: api.ErrForm, 42: api.ErrForm} {
		batch(t, s, api.Change{Key: numbered(7, 0), Bytes: append([]byte{count}, rep(1400)...)})
		if b, e := session.Unpack(s, 7); e != why || e != api.OK && len(b) > 0 {
			t.Errorf("%d pieces: %d bytes, %v, want %v", count, len(b), e, why)
		}
	}
}

// life is a store, and what its sessions, replies and roots must be.
type life struct {
	d        *disk.Disk
	s        *store.Store
	next     int
	sessions map[int]string
	replies  map[string]api.Reply
	roots    map[string]string
}

func newLife(t *testing.T) *life {
	t.Helper()
	d := newDisk(t)
	return &life{d: d, s: open(t, d), next: 1, sessions: map[int]string{}, replies: map[string]api.Reply{}, roots: map[string]string{}}
}

func (x *life) look(t *testing.T) {
	t.Helper()
	wantNext(t, "by chance", x.s, x.next, api.OK)
	wantSessions(t, "by chance", x.s, slices.Sorted(maps.Keys(x.sessions))...)
	for id, b := range x.sessions {
		wantBytes(t, "by chance", x.s, id, []byte(b))
	}
	for _, r := range x.replies {
		wantReply(t, "by chance", x.s, r)
	}
	var roots []string
	for _, name := range slices.Sorted(maps.Keys(x.roots)) {
		roots = append(roots, name+"="+x.roots[name])
	}
	wantRoots(t, "by chance", x.s, roots...)
}

// add is a change of each kind now and then, all together as one batch.
func (x *life) add(t *testing.T, random *rand.Rand) []api.Change {
	t.Helper()
	var l []api.Change
	keep := func(c api.Change, e api.Errno) {
		t.Helper()
		want(t, "a change", e, api.OK)
		l = append(l, c)
	}
	if random.Intn(2) == 0 {
		name := strings.Repeat(string(rune('a'+random.Intn(5))), 1+random.Intn(11))
		b := noise(random.Int63(), random.Intn(300))
		keep(session.Root(name, b))
		x.roots[name] = string(b)
	}
	if random.Intn(2) == 0 {
		r := api.Reply{ID: string(rune('A' + random.Intn(20))), Status: api.RepDone, Text: string(noise(random.Int63(), random.Intn(300)))}
		keep(session.Cache(r))
		x.replies[r.ID] = r
	}
	if random.Intn(2) == 0 {
		x.next = 1 + random.Intn(10000)
		keep(session.Count(x.next))
	}
	id := 1 + random.Intn(6)*1999
	if _, there := x.sessions[id]; there && random.Intn(2) == 0 {
		gone, e := session.Drop(x.s, id)
		want(t, "Drop", e, api.OK)
		delete(x.sessions, id)
		return append(l, gone...)
	}
	b := noise(random.Int63(), random.Intn(6000))
	pieces, e := session.Pack(id, b)
	want(t, "Pack", e, api.OK)
	x.sessions[id] = string(b)
	return append(l, pieces...)
}

// TestAnyLife: what was packed, cached, counted and kept is told, also by a store that is opened again behind a crash.
func TestAnyLife(t *testing.T) {
	for seed := range int64(6) {
		random := rand.New(rand.NewSource(seed))
		x := newLife(t)
		for range 40 {
			batch(t, x.s, x.add(t, random)...)
			x.look(t)
			if random.Intn(6) == 0 {
				want(t, "Crash", x.d.Crash(nil), api.OK)
				x.s = open(t, x.d)
				x.look(t)
			}
		}
	}
}

// TestPiecesTurned: of pieces that were cut, longer, swapped or gone Unpack tells what Pack makes just so, or ErrForm.
func TestPiecesTurned(t *testing.T) {
	random := rand.New(rand.NewSource(1))
	met := map[api.Errno]int{}
	s := kept(t)
	for range 300 {
		l, _ := session.Pack(5, noise(random.Int63(), random.Intn(4300)))
		i := random.Intn(len(l))
		switch c := &l[i]; random.Intn(5) {
		case 0:
			c.Bytes = c.Bytes[:random.Intn(len(c.Bytes)+1)]
		case 1:
			c.Bytes = append(c.Bytes, noise(1, min(random.Intn(40), 1500-len(c.Bytes)))...)
		case 2:
			*c = api.Change{Key: c.Key, Gone: true}
		case 3:
			l[0].Bytes[0] = byte(random.Intn(6))
		}
		batch(t, s, l...)
		b, e := session.Unpack(s, 5)
		met[e]++
		switch e {
		case api.OK:
			again, _ := session.Pack(5, b)
			for _, c := range again {
				if kept, e := s.Get(c.Key); e != api.OK || !bytes.Equal(kept, c.Bytes) {
					t.Fatalf("what is read is %d bytes, which are not cut so", len(b))
				}
			}
		case api.ErrForm, api.ErrSession:
			if first, f := s.Get("s000500"); len(b) > 0 || (f == api.ErrGone) != (e == api.ErrSession) {
				t.Fatalf("Unpack: %v, of a first piece of %d bytes, %v", e, len(first), f)
			}
		default:
			t.Fatalf("Unpack: %v", e)
		}
	}
	if met[api.OK] < 30 || met[api.ErrForm] < 30 || met[api.ErrSession] == 0 {
		t.Errorf("met were %v", met)
	}
}
