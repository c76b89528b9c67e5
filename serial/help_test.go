package serial_test

import (
	"encoding/binary"
	"hash/crc32"
	"math/rand"
	"testing"

	"rostrum/api"
	"rostrum/heap"
	"rostrum/serial"
)

const mostRoots = 10000

func newHeap(t *testing.T, young, old int) *heap.Heap {
	t.Helper()
	h, e := heap.New(young, old)
	if e != api.OK {
		t.Fatal(e)
	}
	return h
}

func ok(t *testing.T, e api.Errno) {
	t.Helper()
	if e != api.OK {
		t.Fatal(e)
	}
}

func mk(t *testing.T, h *heap.Heap, kind int, fields ...api.Word) api.Word {
	t.Helper()
	w, e := h.Make(kind, fields...)
	ok(t, e)
	return w
}

func text(t *testing.T, h *heap.Heap, kind int, s string) api.Word {
	t.Helper()
	w, e := h.Text(kind, s)
	ok(t, e)
	return w
}

// summed is bytes with their sum behind them.
func summed(b []byte) []byte {
	return binary.LittleEndian.AppendUint32(append([]byte{}, b...), crc32.ChecksumIEEE(b))
}

// put is the bytes of numbers and texts, one behind the other.
func put(l ...any) []byte {
	var b []byte
	for _, x := range l {
		switch x := x.(type) {
		case int:
			b = binary.AppendUvarint(b, uint64(x))
		case string:
			b = append(binary.AppendUvarint(b, uint64(len(x))), x...)
		}
	}
	return b
}

func encode(t *testing.T, h *heap.Heap, w api.Word) []byte {
	t.Helper()
	b, e := serial.Encode(h, w)
	if e != api.OK {
		t.Fatalf("Encode: %v", e)
	}
	return b
}

// wantRefused: the bytes are refused, and nothing has changed.
func wantRefused(t *testing.T, what string, h *heap.Heap, b []byte, why api.Errno) {
	t.Helper()
	before, roots := h.Counts(), h.Roots()
	if w, e := serial.Decode(h, b); w != 0 || e != why {
		t.Errorf("%s: %d, %v, want %v", what, w, e, why)
	}
	if h.Counts() != before || h.Roots() != roots {
		t.Errorf("%s: %+v and %d roots, there were %+v and %d", what, h.Counts(), h.Roots(), before, roots)
	}
}

// A second form of values: things that lead to one another by pointers.

type thing struct {
	kind   int
	text   string
	fields []value
}

// value is a thing, or a word that leads to none.
type value struct {
	thing *thing
	word  api.Word
}

func isText(kind int) bool {
	return kind == api.KString || kind == api.KSymbol || kind == api.KBig
}

// order is the things that a value leads to, breadth first.
func order(v value) []*thing {
	var l []*thing
	seen := map[*thing]int{}
	see := func(v value) {
		if v.thing == nil {
			return
		}
		if seen[v.thing]++; seen[v.thing] == 1 {
			l = append(l, v.thing)
		}
	}
	see(v)
	for i := 0; i < len(l); i++ {
		for _, f := range l[i].fields {
			see(f)
		}
	}
	return l
}

// encoded is the bytes of a value, without their sum.
func encoded(v value) []byte {
	l := order(v)
	at := map[*thing]int{}
	for i, x := range l {
		at[x] = i
	}
	word := func(v value) []byte {
		n := (int(v.word) - 1) / 2
		switch {
		case v.thing != nil:
			return put(0, at[v.thing])
		case v.word%2 == 0:
			return put(3, int(-v.word)/2)
		case v.word > 0:
			return put(1, n)
		}
		return put(2, -1-n)
	}
	b := put(1, len(l))
	for _, x := range l {
		if isText(x.kind) {
			b = append(b, put(x.kind, x.text)...)
			continue
		}
		b = append(b, put(x.kind, len(x.fields))...)
		for _, f := range x.fields {
			b = append(b, word(f)...)
		}
	}
	return append(b, word(v)...)
}

// random is a value of up to so many things.
func random(r *rand.Rand, n int) value {
	things := make([]*thing, r.Intn(n+1))
	for i := range things {
		things[i] = &thing{kind: 1 + r.Intn(api.NumKinds-1)}
		if isText(things[i].kind) && r.Intn(3) > 0 { // these lead to nothing: there would be few else
			things[i].kind = api.KFrame
		}
	}
	chance := func() value {
		if len(things) > 0 && r.Intn(3) > 0 {
			return value{thing: things[r.Intn(len(things))]}
		}
		return value{word: []api.Word{api.Nil, api.False, api.True, -1 << 21, 1, -1, 3, -3, 255, -255, 1<<63 - 1, -1<<63 + 1, 1<<41 + 1, api.Word(r.Int63() | 1), api.Word(-r.Int63() | 1)}[r.Intn(15)]}
	}
	for _, x := range things {
		if isText(x.kind) {
			b := make([]byte, r.Intn(1+r.Intn(80)))
			r.Read(b)
			x.text = string(b)
			continue
		}
		count := map[int]int{api.KPair: 2, api.KVector: r.Intn(1 + r.Intn(12)), api.KClosure: 3, api.KCont: 2, api.KFrame: 4}[x.kind]
		for range count {
			x.fields = append(x.fields, chance())
		}
	}
	return chance()
}

// build puts a value into a heap: its word. Its things are made in an order by chance, all of them being roots for as long.
func build(t *testing.T, r *rand.Rand, h *heap.Heap, v value) api.Word {
	t.Helper()
	things := order(v)
	first := h.Roots()
	at := map[*thing]int{}
	for i, n := range r.Perm(len(things)) {
		x := things[n]
		at[x] = first + i
		if isText(x.kind) {
			ok(t, h.Push(text(t, h, x.kind, x.text)))
			continue
		}
		ok(t, h.Push(mk(t, h, x.kind, make([]api.Word, len(x.fields))...)))
	}
	word := func(v value) api.Word {
		if v.thing != nil {
			return h.Root(at[v.thing])
		}
		return v.word
	}
	for _, x := range things {
		for i, f := range x.fields {
			ok(t, h.Set(h.Root(at[x]), i, word(f)))
		}
	}
	w := word(v)
	ok(t, h.Pop(len(things)))
	return w
}

// wantValue: a word leads to what a value does, and what is shared in one is so in the other.
func wantValue(t *testing.T, what string, h *heap.Heap, w api.Word, v value) {
	t.Helper()
	words, things := map[*thing]api.Word{}, map[api.Word]*thing{}
	var todo []*thing
	see := func(w api.Word, v value) {
		if v.thing == nil {
			if w != v.word {
				t.Fatalf("%s: the word %d, want %d", what, w, v.word)
			}
			return
		}
		a, met := words[v.thing]
		x, known := things[w]
		if met != known || met && (a != w || x != v.thing) {
			t.Fatalf("%s: what is shared, or is not", what)
		}
		if !met {
			words[v.thing], things[w] = w, v.thing
			todo = append(todo, v.thing)
		}
	}
	see(w, v)
	for len(todo) > 0 {
		x := todo[0]
		todo = todo[1:]
		a := words[x]
		if h.Kind(a) != x.kind || h.String(a) != x.text || h.Len(a) != len(x.fields)+len(x.text) {
			t.Fatalf("%s: a %d of %d, %q, want a %d of %d, %q", what, h.Kind(a), h.Len(a), h.String(a), x.kind, len(x.fields), x.text)
		}
		for i, f := range x.fields {
			b, e := h.Field(a, i)
			ok(t, e)
			see(b, f)
		}
	}
}

// parsed is the value that bytes without their sum say, though they may not be its bytes.
func parsed(b []byte) (value, bool) {
	bad := false
	next := func() int {
		n, size := binary.Uvarint(b)
		if size <= 0 || n > 1<<63-1 {
			bad, b = true, nil
			return 0
		}
		b = b[size:]
		return int(n)
	}
	if next() != 1 || bad {
		return value{}, false
	}
	count := next()
	if bad || count > 20000 {
		return value{}, false
	}
	things := make([]*thing, count)
	for i := range things {
		things[i] = &thing{}
	}
	word := func() value {
		switch kind, n := next(), next(); {
		case kind == 0 && n < count:
			return value{thing: things[n]}
		case kind == 1 && n < 1<<62:
			return value{word: api.Word(2*n + 1)}
		case kind == 2 && n < 1<<62:
			return value{word: api.Word(-2*n - 1)}
		case kind == 3 && n <= 1<<20:
			return value{word: api.Word(-2 * n)}
		}
		bad = true
		return value{}
	}
	for _, x := range things {
		x.kind = next()
		n := next()
		width, fixed := map[int]int{api.KPair: 2, api.KClosure: 3, api.KCont: 2, api.KFrame: 4}[x.kind]
		switch {
		case isText(x.kind):
			if n > 4000 || n > len(b) {
				return value{}, false
			}
			x.text, b = string(b[:n]), b[n:]
		case x.kind == api.KVector && n <= 1000 || fixed && n == width:
			for range n {
				x.fields = append(x.fields, word())
			}
		default:
			return value{}, false
		}
		if bad {
			return value{}, false
		}
	}
	v := word()
	return v, !bad && len(b) == 0
}
