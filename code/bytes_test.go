package code_test

import (
	"bytes"
	"math/rand"
	"slices"
	"testing"

	"rostrum/api"
	"rostrum/code"
	"rostrum/datum"
	"rostrum/wire"
)

// P13.4

// written is what Encode should answer, made by wire's calls one behind the other; of constants it is told their texts.
func written(instrs []api.Instr, consts, names []string) []byte {
	b := wire.Put(nil, len(instrs))
	for _, in := range instrs {
		b = append(b, wire.Put(wire.Put(wire.Put(nil, in.Op), in.A), in.B)...)
	}
	for _, l := range [][]string{consts, names} {
		b = wire.Put(b, len(l))
		for _, s := range l {
			b = wire.Text(b, s)
		}
	}
	return b
}

func TestEncode(t *testing.T) {
	want := []byte{8, 10, 7, 0, 1, 0, 0, 11, 0, 0, 1, 1, 0, 11, 0, 0, 3, 0, 0, 12, 2, 0, 14, 0, 0, 2, 1, '1', 1, '2', 1, 1, '+'}
	if b := encode(t, source(t, "(+ 1 2)")); !bytes.Equal(b, want) {
		t.Errorf("(+ 1 2) is % x, want % x", b, want)
	}
	if b := encode(t, source(t, "")); !bytes.Equal(b, []byte{1, 14, 0, 0, 0, 0}) {
		t.Errorf("a program without forms is % x", b)
	}
	for _, s := range []string{"'(a . #(\"x\\n\" #t)) 'quote ''x", many("(f "+many("(lambda () 1)", 100)+")", 10), "\"" + rep("x", 300) + "\" (lambda (a b c . d) (set! d a))", "(define " + rep("z", 64) + " -" + rep("9", 200) + ")"} {
		c := source(t, s)
		var consts []string
		for _, d := range c.Consts {
			consts = append(consts, datum.Print(d))
		}
		if b := encode(t, c); !bytes.Equal(b, written(c.Instrs, consts, c.Names)) {
			t.Errorf("%.80s is % x", s, b)
		}
	}
}

func wantDecoded(t *testing.T, what string, b []byte, c api.Code) {
	t.Helper()
	before := bytes.Clone(b)
	d, e := code.Decode(b)
	if e != api.OK || text(d) != text(c) || !slices.EqualFunc(c.Consts, d.Consts, datum.Same) || !slices.Equal(c.Instrs, d.Instrs) || !slices.Equal(c.Names, d.Names) {
		t.Errorf("%s: %.300s, %v, want %.300s", what, text(d), e, text(c))
	}
	if !bytes.Equal(b, before) {
		t.Errorf("%s: the bytes have changed", what)
	}
}

func wantRefused(t *testing.T, what string, b []byte) {
	t.Helper()
	if c, e := code.Decode(b); e != api.ErrCode || !empty(c) {
		t.Errorf("%s: %.300s, %v, want ErrCode", what, text(c), e)
	}
}

var programs = []string{
	"", "5", "(+ 1 2)", "(define (f x . r) (if x (f r 'a) '())) (f 1 2 \"three\")", "'(a (b . c) #(d \"e\\\\\\\"\\n\\t\xff\" -7) #t #f () #())", "(let loop ((i 0)) (if (= i 10) i (loop (+ i 1))))", "(set! x (lambda () (begin 1 2 (set! y x))))", "'\"\"", "(f " + rep("x ", 255) + ")",
}

func TestDecode(t *testing.T) {
	for _, s := range programs {
		c := source(t, s)
		b := encode(t, c)
		wantDecoded(t, s, b, c)
		for i := range b {
			wantRefused(t, s+", a beginning", b[:i])
		}
		for _, more := range [][]byte{{0}, {1}, {0x80}, b} {
			wantRefused(t, s+", with more behind", append(bytes.Clone(b), more...))
		}
	}
	wantRefused(t, "nothing", nil)
	wantRefused(t, "nothing", []byte{})
}

func TestDecodeOfWrongBytes(t *testing.T) {
	halt := []api.Instr{{Op: api.OpHalt}}
	for _, s := range []string{"+5", "05", "-0", " 5", "5 ", "'x", "(a . (b))", "(a  b)", "( a)", "(a )", "#( a)", "", " ", ";", "1 2", "()()", "(", ")", ".", "#x", "\"", "\"\n\"", "\"\t\"", "\"\\q\"", "(quote x) ", "(a . ())", rep("(", 65) + rep(")", 65), rep("9", 201), "5;", "#true"} {
		wantRefused(t, "the constant "+s, written(halt, []string{s}, nil))
		wantRefused(t, "the constant "+s, written(halt, []string{"1", s, "2"}, []string{"x"}))
	}
	for _, s := range []string{"5", "-5", "(quote x)", "(a . b)", "\"\\n\"", "\"\\t\\\\\\\"\"", "\"\xff\x00\r\"", "#()", "()", "#t", rep("(", 64) + rep(")", 64), rep("9", 200), "quote"} {
		d, err := datum.Read(s)
		if err != nil {
			t.Fatal(err)
		}
		wantDecoded(t, "the constant "+s, written(halt, []string{s}, nil), api.Code{Instrs: halt, Consts: d})
	}
	for _, s := range []string{"", ".", "5", "a b", "#t", "'a", rep("a", 65), "a\x00"} {
		wantRefused(t, "the name "+s, written(halt, nil, []string{s}))
		wantRefused(t, "the name "+s, written(halt, []string{"1"}, []string{"x", s, "y"}))
	}
	wantDecoded(t, "a name", written(halt, nil, []string{"x", "x"}), api.Code{Instrs: halt, Names: []string{"x", "x"}})
	for _, l := range [][]api.Instr{nil, {{Op: api.OpPush}}, {{Op: 0}}, {{Op: 15}, {Op: 14}}, {{Op: api.OpConst}, {Op: 14}}, {{Op: api.OpJump, A: 1}}, {{Op: api.OpHalt, A: 1}}, {{Op: api.OpHalt, B: 1}}, {{Op: api.OpCall, A: 256}}, {{Op: api.OpCall, A: 1 << 62}}, {{Op: 1 << 62}, {Op: 14}}, slices.Repeat(halt, api.MaxCode+1)} {
		wantRefused(t, "instructions that may not be run", written(l, nil, nil))
	}
	wantDecoded(t, "MaxCode", written(slices.Repeat(halt, api.MaxCode), nil, nil), api.Code{Instrs: slices.Repeat(halt, api.MaxCode)})
}

// TestDecodeOfWrongNumbers: counts that are not those of what follows, or numbers that have not the shortest form, or are too great.
func TestDecodeOfWrongNumbers(t *testing.T) {
	for what, b := range map[string][]byte{
		"more instructions":          {2, 14, 0, 0, 0, 0},
		"fewer instructions":         {1, 14, 0, 0, 14, 0, 0, 0, 0},
		"no instructions":            {0, 0, 0},
		"more constants":             {1, 14, 0, 0, 1, 0},
		"fewer constants":            {1, 14, 0, 0, 0, 1, '5', 0},
		"more names":                 {1, 14, 0, 0, 0, 1},
		"fewer names":                {1, 14, 0, 0, 0, 0, 1, 'x'},
		"a text too long":            {1, 14, 0, 0, 0, 1, 2, 'x'},
		"a long count":               {0x81, 0, 14, 0, 0, 0, 0},
		"a long Op":                  {1, 0x8e, 0, 0, 0, 0, 0},
		"a long A":                   {1, 14, 0x80, 0, 0, 0, 0},
		"a long B":                   {1, 14, 0, 0x80, 0, 0, 0},
		"a long count of constants":  {1, 14, 0, 0, 0x80, 0, 0},
		"a long count of names":      {1, 14, 0, 0, 0, 0x80, 0},
		"a long length":              {1, 14, 0, 0, 0, 1, 0x81, 0, 'x'},
		"a huge count":               append(wire.Put(nil, 1<<62), 14, 0, 0, 0, 0),
		"a huge count of constants":  append([]byte{1, 14, 0, 0}, wire.Put(nil, 1<<62)...),
		"a huge count of names":      append([]byte{1, 14, 0, 0, 0}, wire.Put(nil, 1<<62)...),
		"a huge length":              append([]byte{1, 14, 0, 0, 0, 1}, wire.Put(nil, 1<<62)...),
		"a number without an end":    {0xff, 0xff, 0xff, 0xff, 0xff, 0xff, 0xff, 0xff, 0xff, 0xff, 1},
		"nothing but that":           bytes.Repeat([]byte{0xff}, 1000),
		"noughts":                    make([]byte, 1000),
		"many names that are none":   append([]byte{1, 14, 0, 0, 0, 0xff, 0x7f}, make([]byte, 1<<14-1)...),
		"a constant and a byte more": {1, 14, 0, 0, 1, 1, '5', 0, 0},
	} {
		wantRefused(t, what, b)
	}
	wantDecoded(t, "the plain one", []byte{1, 14, 0, 0, 1, 1, '5', 1, 1, 'x'}, api.Code{Instrs: []api.Instr{{Op: 14}}, Consts: []api.Datum{num(5)}, Names: []string{"x"}})
}

// P13.6

// wantOneForm: bytes are refused, or are those of what they are taken for; it tells whether they are taken.
func wantOneForm(t *testing.T, b []byte) bool {
	t.Helper()
	c, e := code.Decode(b)
	if e != api.OK {
		if e != api.ErrCode || !empty(c) {
			t.Fatalf("% x: %s, %v", b, text(c), e)
		}
		return false
	}
	if again, e := code.Encode(c); e != api.OK || !bytes.Equal(again, b) {
		t.Fatalf("% x is taken for %s, whose bytes are % x", b, text(c), again)
	}
	return true
}

func TestOneForm(t *testing.T) {
	taken := 0
	for _, s := range programs {
		b := encode(t, source(t, s))
		for i := range b[:min(len(b), 100)] {
			for v := range 256 {
				c := bytes.Clone(b)
				c[i] = byte(v)
				if wantOneForm(t, c) {
					taken++
				}
			}
			wantOneForm(t, slices.Delete(bytes.Clone(b), i, i+1))
			wantOneForm(t, slices.Insert(bytes.Clone(b), i, b[i]))
			wantOneForm(t, slices.Insert(bytes.Clone(b), i, 0))
		}
	}
	if taken < 1000 {
		t.Errorf("only %d were taken", taken)
	}
	r := rand.New(rand.NewSource(1))
	for range 100000 {
		b := make([]byte, r.Intn(30))
		for i := range b {
			b[i] = byte(r.Intn([]int{4, 16, 256}[r.Intn(3)]))
		}
		wantOneForm(t, b)
	}
}

func TestHash(t *testing.T) {
	seen := map[uint32]string{}
	for _, s := range programs {
		c := source(t, s)
		h := code.Hash(c)
		if h != wire.Sum(encode(t, c)) || h != code.Hash(copied(c)) {
			t.Errorf("Hash of %s is %x", s, h)
		}
		if other, ok := seen[h]; ok {
			t.Errorf("%s and %s have one Hash", s, other)
		}
		seen[h] = s
	}
	if h := code.Hash(source(t, "(+ 1 2)")); h != wire.Sum([]byte{8, 10, 7, 0, 1, 0, 0, 11, 0, 0, 1, 1, 0, 11, 0, 0, 3, 0, 0, 12, 2, 0, 14, 0, 0, 2, 1, '1', 1, '2', 1, 1, '+'}) {
		t.Errorf("Hash of (+ 1 2) is %x", h)
	}
	if h := code.Hash(api.Code{}); h != 0 {
		t.Errorf("Hash of no code is %x", h)
	}
}

func TestDecodeAnswersNewMemory(t *testing.T) {
	c := source(t, "'(1 (2) #(3) \"four\") (f '((5) . x) y) \"five\" (lambda (x) '(6))")
	b := encode(t, c)
	one, _ := code.Decode(b)
	two, e := code.Decode(b)
	places := map[any]int{}
	codePlaces(c, places)
	codePlaces(one, places)
	codePlaces(two, places)
	for _, n := range places {
		if n > 1 {
			t.Fatal("memory is shared")
		}
	}
	clear(b[:cap(b)])
	if e != api.OK || text(one) != text(c) || text(two) != text(c) {
		t.Error("what was decoded hangs on the bytes")
	}
}
