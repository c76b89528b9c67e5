package prims_test

import (
	"math/big"
	"math/rand"
	"regexp"
	"slices"
	"strings"
	"testing"

	"rostrum/api"
	"rostrum/heap"
	"rostrum/prims"
)

// A second world of values, made in another way: they lead to one another by pointers, numbers are big.Ints, lists are gone through as slices. Beside it stands the heap, with a root for each value.

const (
	aNumber = iota
	aString
	aSymbol
	aPair
	aVector
	aTruth
	anEmpty
	aVoid
	aProcedure
)

// names is those that can be made of the few bytes that strings are made of here.
var names = regexp.MustCompile("^([a-z][a-z0-9-]*|-([a-z-][a-z0-9-]*)?)$")

type value struct {
	kind  int
	n     *big.Int
	text  string
	truth bool
	parts []*value
}

func number64(n int64) *value   { return &value{kind: aNumber, n: big.NewInt(n)} }
func text(s string) *value      { return &value{kind: aString, text: s} }
func symbol(s string) *value    { return &value{kind: aSymbol, text: s} }
func truth(b bool) *value       { return &value{kind: aTruth, truth: b} }
func pair(a, b *value) *value   { return &value{kind: aPair, parts: []*value{a, b}} }
func vector(l ...*value) *value { return &value{kind: aVector, parts: l} }
func empty() *value             { return &value{kind: anEmpty} }
func isTrue(v *value) bool      { return v.kind != aTruth || v.truth }
func digits(n *big.Int) int     { return len(strings.TrimPrefix(n.String(), "-")) }

func listOf(l []*value) *value {
	v := empty()
	for _, x := range slices.Backward(l) {
		v = pair(x, v)
	}
	return v
}

// asList is the items of a list.
func asList(v *value) ([]*value, bool) {
	var l []*value
	for v.kind == aPair {
		if l = append(l, v.parts[0]); len(l) > 10000 {
			return nil, false
		}
		v = v.parts[1]
	}
	return l, v.kind == anEmpty
}

// alike is eq?.
func alike(a, b *value) bool {
	if a == b {
		return true
	}
	if a.kind != b.kind {
		return false
	}
	switch a.kind {
	case aNumber:
		return a.n.Cmp(b.n) == 0
	case aSymbol, aProcedure:
		return a.text == b.text
	case aTruth:
		return a.truth == b.truth
	case anEmpty, aVoid:
		return true
	}
	return false
}

// equal goes through all parts one behind the other.
func equal(a, b *value) bool {
	todo := [][2]*value{{a, b}}
	parts := 0
	for len(todo) > 0 {
		x, y := todo[0][0], todo[0][1]
		todo = todo[1:]
		if alike(x, y) {
			continue
		}
		if x.kind != y.kind || x.kind != aString && x.kind != aPair && x.kind != aVector || x.text != y.text || len(x.parts) != len(y.parts) {
			return false
		}
		for i := range x.parts {
			todo = append(todo, [2]*value{x.parts[i], y.parts[i]})
		}
		if parts += len(x.parts); parts > api.MaxShow {
			return false
		}
	}
	return true
}

// show is the text of a value; left is how many may be begun.
func show(v *value, left *int) string {
	if *left == 0 {
		return "..."
	}
	*left--
	switch v.kind {
	case aNumber:
		return v.n.String()
	case aString:
		return `"` + strings.NewReplacer(`\`, `\\`, `"`, `\"`, "\n", `\n`, "\t", `\t`).Replace(v.text) + `"`
	case aSymbol:
		return v.text
	case aTruth:
		return map[bool]string{true: "#t", false: "#f"}[v.truth]
	case aVoid:
		return "#!void"
	case aProcedure:
		return "#!procedure"
	case anEmpty:
		return "()"
	case aVector:
		var l []string
		for _, x := range v.parts {
			l = append(l, show(x, left))
		}
		return "#(" + strings.Join(l, " ") + ")"
	}
	l := []string{show(v.parts[0], left)}
	for v = v.parts[1]; v.kind == aPair; v = v.parts[1] {
		if *left == 0 {
			return "(" + strings.Join(append(l, "..."), " ") + ")"
		}
		*left--
		l = append(l, show(v.parts[0], left))
	}
	if v.kind != anEmpty {
		l = append(l, ".", show(v, left))
	}
	return "(" + strings.Join(l, " ") + ")"
}

// reckon does something with numbers, one by one.
func reckon(start *big.Int, l []*value, do func(a, b *big.Int) *big.Int) (*value, api.Errno) {
	n := start
	for _, x := range l {
		if n = do(n, x.n); digits(n) > api.MaxDigits {
			return nil, api.ErrBig
		}
	}
	return &value{kind: aNumber, n: n}, api.OK
}

func plus(a, b *big.Int) *big.Int  { return new(big.Int).Add(a, b) }
func minus(a, b *big.Int) *big.Int { return new(big.Int).Sub(a, b) }
func times(a, b *big.Int) *big.Int { return new(big.Int).Mul(a, b) }

func divided(do func(z, a, b *big.Int) *big.Int) func(l []*value) (*value, api.Errno) {
	return func(l []*value) (*value, api.Errno) {
		if l[1].n.Sign() == 0 {
			return nil, api.ErrZero
		}
		return &value{kind: aNumber, n: do(new(big.Int), l[0].n, l[1].n)}, api.OK
	}
}

func asks(is func(l []*value) bool) func(l []*value) (*value, api.Errno) {
	return func(l []*value) (*value, api.Errno) { return truth(is(l)), api.OK }
}

func tells(f func(l []*value) *value) func(l []*value) (*value, api.Errno) {
	return func(l []*value) (*value, api.Errno) { return f(l), api.OK }
}

func isKind(kind int) func(l []*value) (*value, api.Errno) {
	return asks(func(l []*value) bool { return l[0].kind == kind })
}

// within is the number of a value, if it is below most.
func within(v *value, most int) (int, bool) {
	if v.n.Sign() < 0 || v.n.Cmp(big.NewInt(int64(most))) >= 0 {
		return 0, false
	}
	return int(v.n.Int64()), true
}

func void() *value { return &value{kind: aVoid} }

// does is a primitive of the model: its arguments, all that follow being of the last type, if there may be more; and what it does.
type does struct {
	least, most int
	types       string
	do          func(l []*value) (*value, api.Errno)
}

func model() map[string]does {
	return map[string]does{
		"+": {0, 99, "N", func(l []*value) (*value, api.Errno) { return reckon(big.NewInt(0), l, plus) }},
		"-": {1, 99, "N", func(l []*value) (*value, api.Errno) {
			if len(l) == 1 {
				return reckon(big.NewInt(0), l, minus)
			}
			return reckon(l[0].n, l[1:], minus)
		}},
		"*":         {0, 99, "N", func(l []*value) (*value, api.Errno) { return reckon(big.NewInt(1), l, times) }},
		"quotient":  {2, 2, "N", divided((*big.Int).Quo)},
		"remainder": {2, 2, "N", divided((*big.Int).Rem)},
		"=":         {2, 2, "N", asks(func(l []*value) bool { return l[0].n.Cmp(l[1].n) == 0 })},
		"<":         {2, 2, "N", asks(func(l []*value) bool { return l[0].n.Cmp(l[1].n) < 0 })},
		">":         {2, 2, "N", asks(func(l []*value) bool { return l[0].n.Cmp(l[1].n) > 0 })},
		"eq?":       {2, 2, "X", asks(func(l []*value) bool { return alike(l[0], l[1]) })},
		"equal?":    {2, 2, "X", asks(func(l []*value) bool { return equal(l[0], l[1]) })},
		"cons":      {2, 2, "X", tells(func(l []*value) *value { return pair(l[0], l[1]) })},
		"car":       {1, 1, "P", tells(func(l []*value) *value { return l[0].parts[0] })},
		"cdr":       {1, 1, "P", tells(func(l []*value) *value { return l[0].parts[1] })},
		"set-car!":  {2, 2, "PX", tells(func(l []*value) *value { l[0].parts[0] = l[1]; return void() })},
		"set-cdr!":  {2, 2, "PX", tells(func(l []*value) *value { l[0].parts[1] = l[1]; return void() })},
		"null?":     {1, 1, "X", isKind(anEmpty)}, "pair?": {1, 1, "X", isKind(aPair)}, "number?": {1, 1, "X", isKind(aNumber)}, "symbol?": {1, 1, "X", isKind(aSymbol)}, "string?": {1, 1, "X", isKind(aString)}, "vector?": {1, 1, "X", isKind(aVector)}, "procedure?": {1, 1, "X", isKind(aProcedure)}, "boolean?": {1, 1, "X", isKind(aTruth)},
		"list?":   {1, 1, "X", asks(func(l []*value) bool { _, is := asList(l[0]); return is })},
		"not":     {1, 1, "X", asks(func(l []*value) bool { return !isTrue(l[0]) })},
		"list":    {0, 99, "X", tells(listOf)},
		"vector":  {0, 99, "X", tells(func(l []*value) *value { return vector(slices.Clone(l)...) })},
		"length":  {1, 1, "L", tells(func(l []*value) *value { x, _ := asList(l[0]); return number64(int64(len(x))) })},
		"reverse": {1, 1, "L", tells(func(l []*value) *value { x, _ := asList(l[0]); slices.Reverse(x); return listOf(x) })},
		"append": {0, 99, "L", tells(func(l []*value) *value {
			var all []*value
			for _, v := range l {
				x, _ := asList(v)
				all = append(all, x...)
			}
			return listOf(all)
		})},
		"vector-ref": {2, 2, "VN", func(l []*value) (*value, api.Errno) {
			i, is := within(l[1], len(l[0].parts))
			if !is {
				return nil, api.ErrIndex
			}
			return l[0].parts[i], api.OK
		}},
		"vector-set!": {3, 3, "VNX", func(l []*value) (*value, api.Errno) {
			i, is := within(l[1], len(l[0].parts))
			if !is {
				return nil, api.ErrIndex
			}
			l[0].parts[i] = l[2]
			return void(), api.OK
		}},
		"vector-length": {1, 1, "V", tells(func(l []*value) *value { return number64(int64(len(l[0].parts))) })},
		"make-vector": {2, 2, "NX", func(l []*value) (*value, api.Errno) {
			n, is := within(l[0], 1001)
			if !is {
				return nil, api.ErrIndex
			}
			return vector(slices.Repeat(l[1:], n)...), api.OK
		}},
		"string-append": {0, 99, "S", func(l []*value) (*value, api.Errno) {
			s := ""
			for _, v := range l {
				s += v.text
			}
			if len(s) > 4000 {
				return nil, api.ErrFull
			}
			return text(s), api.OK
		}},
		"string-length":  {1, 1, "S", tells(func(l []*value) *value { return number64(int64(len(l[0].text))) })},
		"symbol->string": {1, 1, "Y", tells(func(l []*value) *value { return text(l[0].text) })},
		"number->string": {1, 1, "N", tells(func(l []*value) *value { return text(l[0].n.String()) })},
		"string->symbol": {1, 1, "S", func(l []*value) (*value, api.Errno) {
			if s := l[0].text; len(s) > 64 || !names.MatchString(s) {
				return nil, api.ErrType
			}
			return symbol(l[0].text), api.OK
		}},
		"string->number": {1, 1, "S", tells(func(l []*value) *value {
			n, is := new(big.Int).SetString(l[0].text, 10)
			if !is || n.String() != l[0].text || digits(n) > api.MaxDigits {
				return truth(false)
			}
			return &value{kind: aNumber, n: n}
		})},
		"error": {1, 99, "SX", func(l []*value) (*value, api.Errno) { return nil, api.ErrUser }},
		"apply": {0, 99, "X", func(l []*value) (*value, api.Errno) { return nil, api.ErrProc }},
	}
}

func hasType(v *value, c byte) bool {
	switch c {
	case 'L':
		_, is := asList(v)
		return is
	case 'X':
		return true
	}
	return strings.IndexByte("NSYPV", c) == v.kind
}

// answer is what the model says of a primitive.
func (d does) answer(l []*value) (*value, api.Errno) {
	if len(l) < d.least || len(l) > d.most {
		return nil, api.ErrCount
	}
	for i, v := range l {
		if !hasType(v, d.types[min(i, len(d.types)-1)]) {
			return nil, api.ErrType
		}
	}
	return d.do(l)
}

// world is values, each with the heap's root at its place.
type world struct {
	t      *testing.T
	h      *heap.Heap
	young  int
	values []*value
	times  map[string]int
}

// tooGreat tells whether a new value is greater than all young objects may be.
func (w *world) tooGreat(v *value) bool {
	switch v.kind {
	case aNumber:
		small := new(big.Int).Abs(v.n).Cmp(big.NewInt(1<<40)) <= 0
		return !small && 1+(len(v.n.String())+7)/8 > w.young
	case aString, aSymbol:
		return 1+(len(v.text)+7)/8 > w.young
	case aVector:
		return 1+len(v.parts) > w.young
	}
	return false
}

// meet goes through both at once: the same kinds, the same parts, and what is shared in one is so in the other.
func (w *world) meet(more api.Word, v *value) {
	there, back := map[*value]api.Word{}, map[api.Word]*value{}
	todo := []*value{}
	words := []api.Word{}
	for i, v := range w.values {
		todo, words = append(todo, v), append(words, w.h.Root(i))
	}
	if v != nil {
		todo, words = append(todo, v), append(words, more)
	}
	for i := 0; i < len(todo); i++ {
		v, a := todo[i], words[i]
		if v.kind != aPair && v.kind != aVector && v.kind != aString {
			left := 1
			if got, want := prims.Show(w.h, a), show(v, &left); got != want {
				w.t.Fatalf("%s, want %s", got, want)
			}
			continue
		}
		b, met := there[v]
		x, known := back[a]
		if met != known || met && (b != a || x != v) {
			w.t.Fatal("what is shared, or is not")
		}
		if met {
			continue
		}
		there[v], back[a] = a, v
		if kind := map[int]int{aPair: api.KPair, aVector: api.KVector, aString: api.KString}[v.kind]; w.h.Kind(a) != kind || w.h.String(a) != v.text || w.h.Len(a) != len(v.parts)+len(v.text) {
			w.t.Fatalf("a %d of %d, want a %d", w.h.Kind(a), w.h.Len(a), kind)
		}
		for j, p := range v.parts {
			todo, words = append(todo, p), append(words, field(w.t, w.h, a, j))
		}
	}
}

// push puts a value that was there, or a new one, behind the others.
func (w *world) push(r *rand.Rand, c byte) {
	for range 8 {
		if i := r.Intn(len(w.values)); hasType(w.values[i], c) {
			w.values = append(w.values, w.values[i])
			ok(w.t, w.h.Push(w.h.Root(i)))
			return
		}
	}
	var v *value
	switch r.Intn(4) {
	case 0:
		v = number64(int64(r.Intn(5) - 1))
	case 1:
		v = &value{kind: aNumber, n: new(big.Int).Exp(big.NewInt(-10), big.NewInt(int64(r.Intn(110))), nil)}
	case 2:
		v = text(rep([]string{"a", "b", "7", "-"}[r.Intn(4)], r.Intn(1+r.Intn(1+r.Intn(60)))))
	default:
		v = symbol(rep("x", 1+r.Intn(3)))
	}
	if w.tooGreat(v) {
		v = number64(1)
	}
	left := 1
	s := show(v, &left)
	load(w.t, w.h, s)
	w.values = append(w.values, v)
}

func (w *world) pop(n int) {
	ok(w.t, w.h.Pop(n))
	w.values = w.values[:len(w.values)-n]
}

// keep has a value be one of those that are there.
func (w *world) keep(r *rand.Rand, v *value, a api.Word) {
	if len(w.values) < 12 {
		w.values = append(w.values, v)
		ok(w.t, w.h.Push(a))
		return
	}
	i := r.Intn(len(w.values))
	w.values[i] = v
	ok(w.t, w.h.SetRoot(i, a))
}

func (w *world) step(r *rand.Rand, names []string, all map[string]does) {
	name := names[r.Intn(len(names))]
	d := all[name]
	args := d.least
	if d.most > args {
		args += r.Intn(4)
	}
	if r.Intn(20) == 0 {
		args = r.Intn(4)
	}
	for i := range args {
		c := d.types[min(i, len(d.types)-1)]
		if r.Intn(10) == 0 {
			c = 'X'
		}
		w.push(r, c)
	}
	if r.Intn(10) == 0 {
		ok(w.t, w.h.Collect(r.Intn(2) == 0))
	}
	want, why := d.answer(w.values[len(w.values)-args:])
	if why == api.OK && w.tooGreat(want) && !slices.Contains([]string{"car", "cdr", "vector-ref"}, name) {
		want, why = nil, api.ErrMemory
	}
	n, _ := prims.Find(name)
	a, e := prims.Apply(w.h, n, args)
	if e != why || e != api.OK && a != 0 {
		w.t.Fatalf("%s of %d: %d, %v, want %v", name, args, a, e, why)
	}
	if w.h.Roots() != len(w.values) {
		w.t.Fatalf("%s: %d roots, want %d", name, w.h.Roots(), len(w.values))
	}
	w.times[name+" "+e.Error()]++
	w.meet(a, want)
	if e == api.OK {
		left := api.MaxShow
		if got, s := prims.Show(w.h, a), show(want, &left); got != s {
			w.t.Fatalf("%s: %s, want %s", name, got, s)
		}
	}
	if e != api.OK {
		w.pop(args)
		return
	}
	ok(w.t, w.h.Push(a))
	a = w.h.Root(w.h.Roots() - 1)
	ok(w.t, w.h.Pop(1))
	w.pop(args)
	w.keep(r, want, a)
}

// P15.2, P15.6, P15.7: whatever is done, and wherever it is collected.
func TestPrimitivesAsTheModel(t *testing.T) {
	all := model()
	var names []string
	for n := range prims.Count() {
		if name := prims.Name(n); all[name].do != nil {
			names = append(names, name)
		}
	}
	if len(names) != 42 || len(all) != 42 {
		t.Fatal(len(names), len(all))
	}
	r := rand.New(rand.NewSource(2))
	times := map[string]int{}
	collected := 0
	for range 400 {
		young := 16 + r.Intn(1+r.Intn(200))
		w := &world{t: t, h: newHeap(t, young, api.MaxHeap), young: young, times: times}
		for _, v := range []api.Word{api.Nil, 3, api.True, api.False, api.Prim0} {
			ok(t, w.h.Push(v))
		}
		w.values = []*value{empty(), number64(1), truth(true), truth(false), {kind: aProcedure, text: "+"}}
		for range 300 {
			w.step(r, names, all)
			if grown(w.values) {
				break
			}
		}
		collected += w.h.Counts().Minor
	}
	for _, name := range names {
		if n := times[name+" "+api.OK.Error()]; n < 100 && name != "error" && name != "apply" {
			t.Errorf("%s: only %d times", name, n)
		}
	}
	for name := range all {
		times["all "+api.ErrMemory.Error()] += times[name+" "+api.ErrMemory.Error()]
	}
	for _, k := range []string{"all " + api.ErrMemory.Error(), "* " + api.ErrBig.Error(), "quotient " + api.ErrZero.Error(), "vector-ref " + api.ErrIndex.Error(), "append " + api.ErrType.Error(), "cons " + api.ErrCount.Error()} {
		if times[k] < 10 {
			t.Errorf("%s: only %d times", k, times[k])
		}
	}
	if collected < 5000 {
		t.Errorf("only %d collections", collected)
	}
}

// grown tells whether values lead to so many that going through them takes too long.
func grown(l []*value) bool {
	seen := map[*value]int{}
	todo := slices.Clone(l)
	for len(todo) > 0 {
		v := todo[0]
		todo = todo[1:]
		if seen[v]++; seen[v] == 1 {
			todo = append(todo, v.parts...)
		}
	}
	return len(seen) > 3000
}
