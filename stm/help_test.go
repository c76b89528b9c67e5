package stm_test

import (
	"slices"
	"strconv"
	"strings"
	"testing"

	"rostrum/api"
	"rostrum/stm"
)

func slots(l ...string) []api.Slot {
	var s []api.Slot
	for _, x := range l {
		name, b, _ := strings.Cut(x, "=")
		s = append(s, api.Slot{Name: name, Bytes: []byte(b)})
	}
	return s
}

// space is one with slots that texts like a=1 tell.
func space(t *testing.T, l ...string) *stm.Space {
	t.Helper()
	s, e := stm.New(slots(l...))
	if s == nil || e != api.OK {
		t.Fatalf("New(%q): %v", l, e)
	}
	return s
}

func begin(t *testing.T, s *stm.Space) *stm.Tx {
	t.Helper()
	x, e := s.Begin()
	if x == nil || e != api.OK || x.Phase() != 0 {
		t.Fatalf("Begin: %v, phase %d", e, x.Phase())
	}
	return x
}

// text is slots as one text: name, version, bytes.
func text(l []api.Slot) string {
	var s []string
	for _, x := range l {
		s = append(s, x.Name+"."+strconv.Itoa(x.Version)+"="+string(x.Bytes))
	}
	return strings.Join(s, " ")
}

func wantSlots(t *testing.T, what string, s *stm.Space, clock int, want string) {
	t.Helper()
	if got := text(s.Slots()); got != want || s.Clock() != clock {
		t.Errorf("%s: clock %d, %s; want %d, %s", what, s.Clock(), got, clock, want)
	}
}

func want(t *testing.T, what string, e, why api.Errno) {
	t.Helper()
	if e != why {
		t.Errorf("%s: %v, want %v", what, e, why)
	}
}

func wantGet(t *testing.T, what string, x *stm.Tx, name, bytes string) {
	t.Helper()
	if b, e := x.Get(name); e != api.OK || string(b) != bytes {
		t.Errorf("%s: Get(%q) = %q, %v, want %q", what, name, b, e, bytes)
	}
}

func wantNoGet(t *testing.T, what string, x *stm.Tx, name string, why api.Errno) {
	t.Helper()
	if b, e := x.Get(name); e != why || len(b) > 0 {
		t.Errorf("%s: Get(%q) = %q, %v, want %v", what, name, b, e, why)
	}
}

func put(t *testing.T, x *stm.Tx, l ...string) {
	t.Helper()
	for _, s := range slots(l...) {
		if e := x.Put(s.Name, s.Bytes); e != api.OK {
			t.Fatalf("Put(%q): %v", s.Name, e)
		}
	}
}

// wantTx: what it read and wrote, and how far it is.
func wantTx(t *testing.T, what string, x *stm.Tx, phase int, reads, writes string) {
	t.Helper()
	r, w := strings.Join(x.Reads(), " "), text(x.Writes())
	if x.Phase() != phase || r != reads || w != writes {
		t.Errorf("%s: phase %d, read %q, wrote %q; want %d, %q, %q", what, x.Phase(), r, w, phase, reads, writes)
	}
}

// commit is all of a commit's steps.
func commit(t *testing.T, x *stm.Tx) {
	t.Helper()
	for i, f := range []func() api.Errno{x.Lock, x.Check, x.Publish} {
		if e := f(); e != api.OK || x.Phase() != i+1 {
			t.Fatalf("step %d of a commit: %v, phase %d", i, e, x.Phase())
		}
	}
}

// at is a new transaction of a space that was brought to a phase, having read r and written w.
func at(t *testing.T, s *stm.Space, phase int) *stm.Tx {
	t.Helper()
	x := begin(t, s)
	x.Get("r")
	put(t, x, "w=new")
	for i, f := range []func() api.Errno{x.Lock, x.Check, x.Publish} {
		if phase < 4 && i < phase {
			want(t, "on the way", f(), api.OK)
		}
	}
	if phase == 4 {
		want(t, "Abort", x.Abort(), api.OK)
	}
	if x.Phase() != phase {
		t.Fatalf("phase %d, want %d", x.Phase(), phase)
	}
	return x
}

var phases = []int{0, 1, 2, 3, 4}

func isOneOf(phase int, l ...int) bool { return slices.Contains(l, phase) }
