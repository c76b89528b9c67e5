package vm_test

import (
	"fmt"
	"strings"
	"testing"

	"rostrum/api"
	"rostrum/code"
	"rostrum/datum"
	"rostrum/heap"
	"rostrum/prims"
	"rostrum/serial"
	"rostrum/vm"
	"rostrum/wire"
)

// The registers' places among the roots.
const (
	accumulator = iota
	environment
	stack
	frame
	globals
	winds
)

func rep(s string, n int) string { return strings.Repeat(s, n) }

func small(n int) api.Word { return api.Word(2*n + 1) }

func source(t *testing.T, s string) api.Code {
	t.Helper()
	c, err := code.Source(s)
	if err != nil {
		t.Fatalf("%.300s: %v", s, err)
	}
	return c
}

func machine(t *testing.T, c api.Code, young, old int) *vm.Machine {
	t.Helper()
	m, e := vm.New(c, young, old)
	if m == nil || e != api.OK || m.State() != api.Running {
		t.Fatalf("New: %v", e)
	}
	return m
}

// run is a machine that ran a program for so long as it may.
func run(t *testing.T, s string) *vm.Machine {
	t.Helper()
	return runIn(t, s, nil)
}

func runIn(t *testing.T, s string, env vm.Env) *vm.Machine {
	t.Helper()
	m := machine(t, source(t, s), 5000, 200000)
	if n := m.Run(200000, env); n != m.State() {
		t.Fatalf("%.300s: Run is %d, State %d", s, n, m.State())
	}
	return m
}

func told(m *vm.Machine) string {
	return fmt.Sprintf("state %d, why %d, used %d, value %s", m.State(), m.Why(), m.Used(), m.Value())
}

func wantDone(t *testing.T, what string, m *vm.Machine, value string) {
	t.Helper()
	if m.State() != api.Done || m.Why() != api.OK || m.Value() != value {
		t.Errorf("%.300s: %.300s, want done with %.300s", what, told(m), value)
	}
}

func wantFailed(t *testing.T, what string, m *vm.Machine, why api.Errno) {
	t.Helper()
	if m.State() != api.Failed || m.Why() != why || m.Value() != "" {
		t.Errorf("%.300s: %.300s, want failed with %v", what, told(m), why)
	}
}

func wantSuspended(t *testing.T, what string, m *vm.Machine, value string) {
	t.Helper()
	if m.State() != api.Suspended || m.Why() != api.OK || m.Value() != value {
		t.Errorf("%.300s: %.300s, want suspended with %.300s", what, told(m), value)
	}
}

func wantUsed(t *testing.T, what string, m *vm.Machine, used int) {
	t.Helper()
	if m.Used() != used {
		t.Errorf("%.300s: used %d, want %d", what, m.Used(), used)
	}
}

// wantRows: programs, and what they show, or * and the number of their error.
func wantRows(t *testing.T, rows [][2]string) {
	t.Helper()
	for _, x := range rows {
		m := run(t, x[0])
		got := m.Value()
		if m.State() == api.Failed {
			got = fmt.Sprint("*", int(m.Why()))
		}
		if got != x[1] || m.State() != api.Done && m.State() != api.Failed {
			t.Errorf("%.300s: %.300s, want %.300s", x[0], told(m), x[1])
		}
		for _, r := range [][2]int{{1000, 200000}, {200, 100000}} {
			n := machine(t, source(t, x[0]), r[0], r[1])
			n.Run(200000, nil)
			if n.Why() == api.ErrMemory && got != "*140" {
				continue
			}
			if told(n) != told(m) {
				t.Errorf("%.300s: %.300s in a heap of %v, %.300s in a great one", x[0], told(n), r, told(m))
			}
		}
	}
}

func field(t *testing.T, h *heap.Heap, w api.Word, i int) api.Word {
	t.Helper()
	v, e := h.Field(w, i)
	if e != api.OK {
		t.Fatalf("Field(%d, %d): %v", w, i, e)
	}
	return v
}

// shown is what a machine's registers lead to, as a text: objects by the kinds that prims shows none of, too.
func shown(h *heap.Heap, w api.Word) string {
	switch h.Kind(w) {
	case api.KFrame, api.KClosure, api.KCont, api.KVector:
		s := []string{map[int]string{api.KFrame: "frame", api.KClosure: "closure", api.KCont: "cont", api.KVector: "vec"}[h.Kind(w)]}
		for i := range h.Len(w) {
			v, _ := h.Field(w, i)
			s = append(s, shown(h, v))
		}
		return "<" + strings.Join(s, " ") + ">"
	case api.KPair:
		a, _ := h.Field(w, 0)
		b, _ := h.Field(w, 1)
		return "{" + shown(h, a) + " " + shown(h, b) + "}"
	}
	for n := range prims.Count() {
		if w == api.Prim0-2*api.Word(n) {
			return prims.Name(n)
		}
	}
	return prims.Show(h, w)
}

// wantRegister: what a register leads to.
func wantRegister(t *testing.T, what string, m *vm.Machine, at int, want string) {
	t.Helper()
	if got := shown(m.Heap(), m.Heap().Root(at)); got != want {
		t.Errorf("%s: the register %d is %s, want %s", what, at, got, want)
	}
}

// by is code by hand: its constants the data of a text, its names those of another one.
func by(t *testing.T, consts, names string, l ...api.Instr) api.Code {
	t.Helper()
	d, err := datum.Read(consts)
	if err != nil {
		t.Fatal(consts, err)
	}
	c := api.Code{Instrs: l, Consts: d, Names: strings.Fields(names)}
	if e := code.Verify(c); e != api.OK {
		t.Fatalf("code by hand may not be run: %v", l)
	}
	return c
}

func in(op int, l ...int) api.Instr {
	l = append(l, 0, 0)
	return api.Instr{Op: op, A: l[0], B: l[1]}
}

// ran is a machine of code by hand that went so many steps.
func ran(t *testing.T, c api.Code, fuel int) *vm.Machine {
	t.Helper()
	m := machine(t, c, 1000, 1000)
	m.Run(fuel, nil)
	return m
}

func read(t *testing.T, s string) api.Datum {
	t.Helper()
	l, err := datum.Read(s)
	if err != nil || len(l) != 1 {
		t.Fatalf("%.300s: %v", s, err)
	}
	return l[0]
}

func save(t *testing.T, m *vm.Machine) []byte {
	t.Helper()
	b, e := m.Save()
	if e != api.OK {
		t.Fatalf("Save: %v", e)
	}
	return b
}

func load(t *testing.T, b []byte, d string, young, old int) *vm.Machine {
	t.Helper()
	m, e := vm.Load(b, read(t, d), young, old)
	if m == nil || e != api.OK {
		t.Fatalf("Load: %v", e)
	}
	return m
}

// resumed is a machine that was suspended, saved, loaded, and ran on.
func resumed(t *testing.T, m *vm.Machine, d string) *vm.Machine {
	t.Helper()
	n := load(t, save(t, m), d, 5000, 200000)
	n.Run(200000, nil)
	return n
}

// saved is what Save makes of code and a word.
func saved(t *testing.T, c api.Code, h *heap.Heap, w api.Word) []byte {
	t.Helper()
	b, e := code.Encode(c)
	if e != api.OK {
		t.Fatal(e)
	}
	s, e := serial.Encode(h, w)
	if e != api.OK {
		t.Fatal(e)
	}
	return wire.Text(wire.Text(nil, string(b)), string(s))
}

func newHeap(t *testing.T) *heap.Heap {
	t.Helper()
	h, e := heap.New(10000, 100000)
	if e != api.OK {
		t.Fatal(e)
	}
	return h
}

func mk(t *testing.T, h *heap.Heap, kind int, l ...api.Word) api.Word {
	t.Helper()
	w, e := h.Make(kind, l...)
	if e != api.OK {
		t.Fatal(e)
	}
	return w
}

func word(t *testing.T, h *heap.Heap, s string) api.Word {
	t.Helper()
	w, e := prims.Load(h, read(t, s))
	if e != api.OK {
		t.Fatal(e)
	}
	return w
}

func prim(t *testing.T, name string) api.Word {
	t.Helper()
	n, found := prims.Find(name)
	if !found {
		t.Fatalf("no primitive %s", name)
	}
	return api.Prim0 - 2*api.Word(n)
}
