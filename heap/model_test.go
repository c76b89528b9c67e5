package heap_test

import (
	"math/rand"
	"slices"
	"strings"
	"testing"

	"rostrum/api"
	"rostrum/heap"
)

// A second heap, made in another way: things that lead to one another, of which those that stay are found by going through all of them; and beside it the heap itself, with the words of all things whose words are not void.

type thing struct {
	kind     int
	text     string
	fields   []value
	old, set bool
}

// value is a thing, or a word that leads to none.
type value struct {
	thing *thing
	word  api.Word
}

func (x *thing) cells() int {
	if x.kind == api.KString || x.kind == api.KSymbol || x.kind == api.KBig {
		return 1 + (len(x.text)+7)/8
	}
	return 1 + len(x.fields)
}

type world struct {
	t                    *testing.T
	h                    *heap.Heap
	young, old           int
	all                  map[*thing]int // all things that are there
	roots                []value
	minor, major         int
	youngCells, oldCells int
	spent                bool
	words                map[*thing]api.Word // of those whose words are not void
	things               []*thing            // these, in the order in which they were met: chance takes one of them
	times                map[string]int      // how often something happened
}

func newWorld(t *testing.T, young, old int) *world {
	return &world{t: t, h: newHeap(t, young, old), young: young, old: old, all: map[*thing]int{}, words: map[*thing]api.Word{}, times: map[string]int{}}
}

// reach is all things that values lead to.
func reach(l ...value) map[*thing]int {
	seen := map[*thing]int{}
	l = slices.Clone(l)
	for len(l) > 0 {
		x := l[len(l)-1].thing
		l = l[:len(l)-1]
		if x != nil && seen[x] == 0 {
			seen[x]++
			l = append(l, x.fields...)
		}
	}
	return seen
}

// keep has just some things be there, all of them old.
func (w *world) keep(stays func(x *thing) bool) {
	for x := range w.all {
		if !stays(x) {
			delete(w.all, x)
			continue
		}
		x.old, x.set = true, false
	}
	w.count()
}

func (w *world) count() {
	w.youngCells, w.oldCells = 0, 0
	for x := range w.all {
		if x.old {
			w.oldCells += x.cells()
		} else {
			w.youngCells += x.cells()
		}
	}
}

// collect is a collection, with further values that count as roots; it tells whether the heap is spent.
func (w *world) collect(all bool, more []value) bool {
	roots := slices.Concat(w.roots, more)
	if !all {
		w.minor++
		from := roots
		for x := range w.all {
			if x.set {
				from = append(from, x.fields...)
			}
		}
		seen := reach(from...)
		w.keep(func(x *thing) bool { return x.old || seen[x] > 0 })
	}
	if all || w.oldCells > w.old {
		w.major++
		seen := reach(roots...)
		w.keep(func(x *thing) bool { return seen[x] > 0 })
	}
	w.words = nil
	w.spent = w.oldCells > w.old
	return w.spent
}

// add is a new thing, or nil and ErrMemory.
func (w *world) add(x *thing) api.Errno {
	if w.spent || x.cells() > w.young {
		return api.ErrMemory
	}
	if w.youngCells+x.cells() > w.young && w.collect(false, x.fields) {
		return api.ErrMemory
	}
	w.all[x]++
	w.count()
	return api.OK
}

// word is the word of a value whose word is not void.
func (w *world) word(v value) api.Word {
	if v.thing == nil {
		return v.word
	}
	a, there := w.words[v.thing]
	if !there {
		w.t.Fatal("the model lost a word")
	}
	return a
}

// meet goes through the heap and the model at once, from the roots on, and from other values whose words are known: each thing has one word, and each word one thing.
func (w *world) meet() {
	if w.words == nil {
		w.words, w.things = map[*thing]api.Word{}, nil
	}
	back := map[api.Word]*thing{}
	for x, a := range w.words {
		back[a] = x
	}
	if w.h.Roots() != len(w.roots) {
		w.t.Fatalf("%d roots, want %d", w.h.Roots(), len(w.roots))
	}
	todo := slices.Clone(w.things)
	see := func(a api.Word, v value) {
		if v.thing == nil {
			if a != v.word {
				w.t.Fatalf("the word %d, want %d", a, v.word)
			}
			return
		}
		x, known := back[a]
		b, told := w.words[v.thing]
		if known != told || known && (x != v.thing || b != a) {
			w.t.Fatal("parts that are shared, or are not")
		}
		if !known {
			back[a], w.words[v.thing] = v.thing, a
			w.things = append(w.things, v.thing)
			todo = append(todo, v.thing)
		}
	}
	for i, v := range w.roots {
		see(w.h.Root(i), v)
	}
	for len(todo) > 0 {
		x := todo[0]
		todo = todo[1:]
		a := w.words[x]
		if w.h.Kind(a) != x.kind || w.h.String(a) != x.text || w.h.Len(a) != len(x.fields)+len(x.text) {
			w.t.Fatalf("a %d, %q, want a %d, %q", w.h.Kind(a), w.h.String(a), x.kind, x.text)
		}
		for i, v := range x.fields {
			see(field(w.t, w.h, a, i), v)
		}
	}
	want := api.Counts{Minor: w.minor, Major: w.major, Young: w.youngCells, Old: w.oldCells}
	if c := w.h.Counts(); c != want {
		w.t.Fatalf("%+v, want %+v", c, want)
	}
}

// step does something by chance, in both.
func (w *world) step(r *rand.Rand) {
	value := func() value {
		if n := len(w.things); n > 0 && r.Intn(3) > 0 {
			return value{thing: w.things[n-1-r.Intn(min(n, 1+r.Intn(40)))]}
		}
		return value{word: []api.Word{0, -2, 1, 3, -5, -1 << 21, 1<<62 + 1}[r.Intn(7)]}
	}
	switch r.Intn(20) {
	case 0, 1, 2, 3, 4, 5, 6, 7:
		w.make(r, value)
	case 8, 9:
		kind := []int{api.KString, api.KSymbol, api.KBig}[r.Intn(3)]
		w.text(kind, strings.Repeat("x", r.Intn(1+r.Intn(2*8*w.young/3))))
	case 10, 11, 12:
		w.set(r, value)
	case 13, 14, 15:
		if v := value(); len(w.roots) < 10 {
			w.want("Push", w.h.Push(w.word(v)), api.OK)
			w.roots = append(w.roots, v)
		}
	case 16:
		n := r.Intn(1 + len(w.roots))
		w.want("Pop", w.h.Pop(n), api.OK)
		w.roots = w.roots[:len(w.roots)-n]
	case 17, 18:
		if n := len(w.roots); n > 0 {
			i, v := r.Intn(n), value()
			w.want("SetRoot", w.h.SetRoot(i, w.word(v)), api.OK)
			w.roots[i] = v
		}
	case 19:
		if r.Intn(4) == 0 {
			all := r.Intn(2) == 0
			why := api.ErrMemory
			if !w.spent && !w.collect(all, nil) {
				why = api.OK
			}
			w.want("Collect", w.h.Collect(all), why)
		}
	}
}

func (w *world) want(what string, e, why api.Errno) {
	w.t.Helper()
	if e != why {
		w.t.Fatalf("%s: %v, want %v", what, e, why)
	}
	if e != api.OK {
		w.times[what+" refused"]++
	}
}

func (w *world) make(r *rand.Rand, chance func() value) {
	kind := []int{api.KPair, api.KPair, api.KVector, api.KClosure, api.KCont, api.KFrame}[r.Intn(6)]
	n := map[int]int{api.KPair: 2, api.KVector: r.Intn(1 + r.Intn(w.young+3)), api.KClosure: 3, api.KCont: 2, api.KFrame: 4}[kind]
	x := &thing{kind: kind}
	var fields []api.Word
	for range min(n, 1000) {
		v := chance()
		x.fields = append(x.fields, v)
		fields = append(fields, w.word(v))
	}
	why := w.add(x)
	a, e := w.h.Make(kind, fields...)
	w.want("Make", e, why)
	w.made(x, a, e)
}

func (w *world) text(kind int, s string) {
	s = s[:min(len(s), 4000)]
	x := &thing{kind: kind, text: s}
	why := w.add(x)
	a, e := w.h.Text(kind, s)
	w.want("Text", e, why)
	w.made(x, a, e)
}

func (w *world) made(x *thing, a api.Word, e api.Errno) {
	if e != api.OK {
		if a != 0 {
			w.t.Fatalf("%d with an error", a)
		}
		return
	}
	if w.words == nil {
		w.words, w.things = map[*thing]api.Word{}, nil
	}
	w.words[x] = a
	w.things = append(w.things, x)
}

func (w *world) set(r *rand.Rand, chance func() value) {
	to := chance()
	if to.thing == nil || len(to.thing.fields) == 0 {
		return
	}
	i, v := r.Intn(len(to.thing.fields)), chance()
	w.want("Set", w.h.Set(w.word(to), i, w.word(v)), api.OK)
	to.thing.fields[i] = v
	if to.thing.old && v.thing != nil && !v.thing.old {
		to.thing.set = true
		w.times["old set"]++
	}
}

// P14.6, P14.7, P14.8
func TestHeapAsTheModel(t *testing.T) {
	r := rand.New(rand.NewSource(1))
	times := map[string]int{}
	for range 1500 {
		young, old := 16+r.Intn(1+r.Intn(100)), 16+r.Intn(1+r.Intn(300))
		w := newWorld(t, young, old)
		for range 100 + r.Intn(300) {
			w.step(r)
			w.meet()
			if w.spent && r.Intn(20) == 0 {
				break
			}
		}
		for k, n := range w.times {
			times[k] += n
		}
		times["minor"] += w.minor
		times["major"] += w.major
		if w.spent {
			times["spent"]++
		}
	}
	for _, k := range []string{"old set", "minor", "major", "spent", "Make refused", "Text refused", "Collect refused"} {
		if times[k] < 100 {
			t.Errorf("%s: only %d times", k, times[k])
		}
	}
}
