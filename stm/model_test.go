package stm_test

import (
	"fmt"
	"maps"
	"math/rand"
	"slices"
	"testing"

	"rostrum/api"
	"rostrum/stm"
)

// A second space: it keeps all that its slots ever were, and asks that history.

type written struct {
	bytes string
	is    bool // something was written then, which may be empty
}

type model struct {
	past [][]written // at each time: what was published then, by the places of names
	all  []*modelTx
}

type modelTx struct {
	time   int
	phase  int
	reads  map[string]string // with what was read
	writes map[string]string
	tx     *stm.Tx
}

var names = []string{"a", "b", "c", "d", "abcdefghijk"}

// last is the bytes of a name at a time, and the version that it has then.
func (m *model) last(name string, time int) (string, int) {
	at := slices.Index(names, name)
	for v := time; v > 0; v-- {
		if w := m.past[v][at]; w.is {
			return w.bytes, v
		}
	}
	return m.past[0][at].bytes, 0
}

func (m *model) now() int { return len(m.past) - 1 }

// holds tells whether another one that is locked or checked wrote a name.
func (m *model) holds(x *modelTx, name string) bool {
	for _, y := range m.all {
		if _, wrote := y.writes[name]; y != x && wrote && (y.phase == 1 || y.phase == 2) {
			return true
		}
	}
	return false
}

func (m *model) clash(x *modelTx, name string) bool {
	_, v := m.last(name, m.now())
	return m.holds(x, name) || v > x.time
}

func (m *model) anyClash(x *modelTx) bool {
	return slices.ContainsFunc(slices.Collect(maps.Keys(x.reads)), func(name string) bool { return m.clash(x, name) })
}

// do is what a call answers, and changes.
func (m *model) do(x *modelTx, call, name, bytes string) (string, api.Errno) {
	may := map[string][]int{"Get": {0}, "Put": {0}, "Drop": {0}, "Lock": {0}, "Check": {1, 2}, "Publish": {2}, "Abort": {0, 1, 2}}
	if !slices.Contains(may[call], x.phase) {
		return "", api.ErrState
	}
	clash := false
	switch call {
	case "Get":
		if b, wrote := x.writes[name]; wrote {
			return b, api.OK
		}
		if clash = m.clash(x, name); !clash {
			b, _ := m.last(name, x.time) // a moment: what it had when the transaction began
			x.reads[name] = b
			return b, api.OK
		}
	case "Put":
		x.writes[name] = bytes
	case "Drop":
		x.writes = map[string]string{}
	case "Lock":
		for name := range x.writes {
			clash = clash || m.holds(x, name)
		}
		x.phase = 1
	case "Check":
		clash = m.anyClash(x)
		x.phase = 2
	case "Publish":
		if clash = m.anyClash(x); !clash {
			m.publish(x)
		}
	case "Abort":
		x.phase = 4
	}
	if clash {
		x.phase = 4
		return "", api.ErrClash
	}
	return "", api.OK
}

func (m *model) publish(x *modelTx) {
	x.phase = 3
	if len(x.writes) == 0 {
		return
	}
	m.past = append(m.past, make([]written, len(names)))
	for name, b := range x.writes {
		m.past[m.now()][slices.Index(names, name)] = written{b, true}
	}
}

func (m *model) slots() string {
	var l []api.Slot
	for _, name := range slices.Sorted(slices.Values(names)) {
		if b, v := m.last(name, m.now()); m.past[v][slices.Index(names, name)].is {
			l = append(l, api.Slot{Name: name, Version: v, Bytes: []byte(b)})
		}
	}
	return text(l)
}

func call(x *stm.Tx, what, name, bytes string) (string, api.Errno) {
	switch what {
	case "Get":
		b, e := x.Get(name)
		return string(b), e
	case "Put":
		return "", x.Put(name, []byte(bytes))
	case "Drop":
		return "", x.Drop()
	case "Lock":
		return "", x.Lock()
	case "Check":
		return "", x.Check()
	case "Publish":
		return "", x.Publish()
	}
	return "", x.Abort()
}

// P18.5, P18.6, P18.7, and all the others.
func TestAsTheModel(t *testing.T) {
	r := rand.New(rand.NewSource(1))
	times := map[string]int{}
	for range 2000 {
		m := &model{past: [][]written{make([]written, len(names))}}
		var first []string
		for i, name := range names {
			if r.Intn(2) == 0 {
				b := []string{"", "first " + name}[r.Intn(2)]
				m.past[0][i] = written{b, true}
				first = append(first, name+"="+b)
			}
		}
		s := space(t, first...)
		var done []*modelTx
		versions := map[string]int{}
		for i := range 100 {
			if len(m.all) == 0 || r.Intn(10) == 0 {
				m.all = append(m.all, &modelTx{time: m.now(), reads: map[string]string{}, writes: map[string]string{}, tx: begin(t, s)})
			}
			x := m.all[max(0, len(m.all)-1-r.Intn(4))]
			what := []string{"Get", "Get", "Get", "Put", "Put", "Lock", "Check", "Check", "Publish", "Publish", "Drop", "Abort"}[r.Intn(12)]
			if what == "Drop" || what == "Abort" {
				if r.Intn(4) > 0 {
					continue
				}
			}
			name, bytes := names[r.Intn(len(names))], []string{"", fmt.Sprint(i)}[min(1, r.Intn(5))]
			was := x.phase
			b, e := call(x.tx, what, name, bytes)
			c, why := m.do(x, what, name, bytes)
			if b != c || e != why {
				t.Fatalf("%s of %s: %q, %v, want %q, %v", what, name, b, e, c, why)
			}
			times[fmt.Sprint(what, int(e))]++
			if was != 3 && x.phase == 3 {
				done = append(done, x)
			}
			wantSlots(t, what, s, m.now(), m.slots())
			for _, y := range m.all[max(0, len(m.all)-5):] {
				var w []api.Slot
				for _, name := range slices.Sorted(maps.Keys(y.writes)) {
					w = append(w, api.Slot{Name: name, Bytes: []byte(y.writes[name])})
				}
				reads := fmt.Sprint(slices.Sorted(maps.Keys(y.reads)))
				wantTx(t, what, y.tx, y.phase, reads[1:len(reads)-1], text(w))
			}
			for _, x := range s.Slots() {
				if x.Version < versions[x.Name] {
					t.Fatalf("%s: the version falls", x.Name)
				}
				versions[x.Name] = x.Version
			}
			if t.Failed() {
				t.FailNow()
			}
		}
		oneBehindTheOther(t, m, s, done)
	}
	for _, what := range []string{"Get0", "Get3", "Get180", "Put0", "Put3", "Lock0", "Lock3", "Lock180", "Check0", "Check3", "Check180", "Publish0", "Publish3", "Publish180", "Drop0", "Drop3", "Abort0", "Abort3"} {
		if times[what] < 10 {
			t.Errorf("%s: only %d times", what, times[what])
		}
	}
}

// oneBehindTheOther does what was published again, one by one, over plain slots.
func oneBehindTheOther(t *testing.T, m *model, s *stm.Space, done []*modelTx) {
	t.Helper()
	now := map[string]string{}
	for i, name := range names {
		now[name] = m.past[0][i].bytes
	}
	for _, x := range done {
		for name, b := range x.reads {
			if now[name] != b {
				t.Fatalf("%s was read as %q, and is %q", name, b, now[name])
			}
		}
		maps.Copy(now, x.writes)
	}
	for _, x := range s.Slots() {
		if now[x.Name] != string(x.Bytes) {
			t.Fatalf("%s is %q at the end, want %q", x.Name, x.Bytes, now[x.Name])
		}
	}
}

// TestTheSameCallsHaveTheSameAnswers: not even the clash that is told first hangs on the order of a map.
func TestTheSameCallsHaveTheSameAnswers(t *testing.T) {
	run := func() string {
		r := rand.New(rand.NewSource(5))
		s := space(t)
		var all []*stm.Tx
		told := ""
		for i := range 500 {
			if i%5 == 0 {
				all = append(all, begin(t, s))
			}
			x := all[max(0, len(all)-1-r.Intn(4))]
			what := []string{"Get", "Put", "Lock", "Check", "Publish"}[r.Intn(5)]
			b, e := call(x, what, names[r.Intn(len(names))], fmt.Sprint(i))
			told += fmt.Sprint(b, int(e), x.Reads(), text(x.Writes()), text(s.Slots()))
		}
		return told
	}
	if run() != run() {
		t.Error("two runs part")
	}
}
