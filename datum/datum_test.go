package datum_test

import (
	"slices"
	"strings"
	"testing"

	"rostrum/api"
	"rostrum/datum"
)

func rep(s string, n int) string { return strings.Repeat(s, n) }

// P10.1

func TestRead(t *testing.T) {
	a, b, c, quote := sym("a"), sym("b"), sym("c"), sym("quote")
	for s, want := range map[string][]api.Datum{
		"":                        nil,
		" \t\n\r;x":               nil,
		";(\n;\n":                 nil,
		"()":                      {list()},
		"( ;)\n )":                {list()},
		"#()":                     {vector()},
		"a":                       {a},
		"a b\n;c\nc":              {a, b, c},
		"a;b":                     {a},
		"(a . (b c))":             {list(a, b, c)},
		"(a . (b . c))":           {dotted(c, a, b)},
		"(a . (b . (c . ())))":    {list(a, b, c)},
		"(a . ())":                {list(a)},
		"(a . #(b))":              {dotted(vector(b), a)},
		"(a . 'b)":                {list(a, quote, b)},
		"(a .'b)":                 {list(a, quote, b)},
		"(a .(b))":                {list(a, b)},
		"(a .;x\nb)":              {dotted(b, a)},
		"((a). b)":                {dotted(b, list(a))},
		"(a b . \"\")":            {dotted(str(""), a, b)},
		"(a .b)":                  {list(a, sym(".b"))},
		"(a ..)":                  {list(a, sym(".."))},
		"(...)":                   {list(sym("..."))},
		"'x":                      {list(quote, sym("x"))},
		"' ;c\n x":                {list(quote, sym("x"))},
		"''()":                    {list(quote, list(quote, list()))},
		"'#(a)":                   {list(quote, vector(a))},
		"(a'b)":                   {list(a, list(quote, b))},
		"(a(b)c)":                 {list(a, list(b), c)},
		"a#(b)":                   {a, vector(b)},
		"#(a#(b))":                {vector(a, vector(b))},
		"\"a\"b\"c\"":             {str("a"), b, str("c")},
		"#t #f":                   {truth("#t"), truth("#f")},
		"#t#(a)":                  {truth("#t"), vector(a)},
		"\"\"":                    {str("")},
		`"\\ \" \n \t"`:           {str("\\ \" \n \t")},
		"\"\n\t\r\x00\xff;(')#\"": {str("\n\t\r\x00\xff;(')#")},
		"0 00 +0 -0 -00":          {num("0"), num("0"), num("0"), num("0"), num("0")},
		"7 007 +7 +007":           {num("7"), num("7"), num("7"), num("7")},
		"-7 -007 10 0100":         {num("-7"), num("-7"), num("10"), num("100")},
		"+ - -- -a +- +-5 -+5 .5": {sym("+"), sym("-"), sym("--"), sym("-a"), sym("+-"), sym("+-5"), sym("-+5"), sym(".5")},
		"!$%&*/:<=>?^_~+-.@ aZ9":  {sym("!$%&*/:<=>?^_~+-.@"), sym("aZ9")},
	} {
		got, err := datum.Read(s)
		if err != nil || !sameData(got, want) {
			t.Errorf("Read(%q) = %v, %v, want %v", s, got, err, want)
		}
	}
}

func TestReadTellsTheFirstFault(t *testing.T) {
	for _, c := range []struct {
		text string
		at   int
	}{
		{")", 0}, {"a )", 2}, {"())", 2}, {"')", 1}, {"(')", 2}, {"(a . )", 5}, {"(a .)", 4}, {"#(')", 3}, {"(a . ')", 6},
		{".", 0}, {"a . b", 2}, {"(. a)", 1}, {"(.)", 1}, {"'.", 1}, {"(a '. b)", 4}, {"#(a . b)", 4}, {"#(. b)", 2}, {"(a #(. b))", 5}, {"((. a))", 2},
		{"(a . b c)", 7}, {"(a . b . c)", 7}, {"(a . . b)", 5}, {"(a . b (c))", 7}, {"(a . b 'c)", 7}, {"(a . b \"c\")", 7}, {"(a . b #(c))", 7}, {"(a . b #x)", 7}, {"(a . b \"c", 7}, {"(a . (b) c)", 9}, {"(a . b " + rep("9", 201) + ")", 7},
		{"#x", 0}, {"a #x", 2}, {"#", 0}, {"##(a)", 0}, {"#t#", 0}, {"#true", 0}, {"#T", 0}, {"#\\a", 0}, {"a#b", 0}, {"a#", 0},
		{"1a", 0}, {"+1a", 0}, {"-1-", 0}, {"1.5", 0}, {"1/2", 0}, {"a,b", 0}, {",a", 0}, {"`a", 0}, {"[a]", 0}, {"{", 0}, {"a|b", 0}, {"a\\b", 0}, {"(a b\x0bc)", 3}, {"\x00", 0}, {"\x0c", 0}, {"\x7f", 0}, {"é", 0}, {"\xff", 0}, {"(a \xc1)", 3},
		{rep("a", 65), 0}, {"a " + rep("a", 65) + " b", 2}, {rep("9", 300) + "a", 0},
		{"\"", 0}, {"\"a", 0}, {"a \"b", 2}, {"(\"a)", 1}, {"\"a\\", 0}, {"\"a\\\"", 0}, {"\"a\\\\\\\"", 0}, {"\"a;\n", 0},
		{"\"a\\q\"", 2}, {"\"\\N\"", 1}, {"\"\\n\\\n\"", 3}, {"\"\\r\"", 1}, {"\"\\'\"", 1}, {"\"\\\x00\"", 1}, {"\"a\\q", 2}, {"(\"\\x41;\")", 2},
		{"(", 1}, {"(a", 2}, {"(a ", 3}, {"#(", 2}, {"#(a ;)", 6}, {"'", 1}, {"a ' ", 4}, {"'';x\n", 5}, {"(a .", 4}, {"(a . ", 5}, {"(a . b", 6}, {"(a . b ", 7}, {"((a)", 4}, {"('", 2}, {"('a", 3},
	} {
		wantFault(t, c.text, c.at, api.ErrRead)
		wantFault(t, "b (c) "+c.text, c.at+6, api.ErrRead)
	}
	wantFault(t, ") #x", 0, api.ErrRead)
	wantFault(t, "#x )", 0, api.ErrRead)
	wantFault(t, "(a #x", 3, api.ErrRead)
	wantFault(t, "(\"\\q\" )) #x", 2, api.ErrRead)
}

func TestReadOfNamesAndNumbersAtTheLimits(t *testing.T) {
	if l := read(t, rep("a", 64)); !sameData(l, []api.Datum{sym(rep("a", 64))}) {
		t.Errorf("a name of 64 bytes is read %v", l)
	}
	most := rep("9", api.MaxDigits)
	for s, want := range map[string]string{
		most: most, "-" + most: "-" + most, "+" + most: most, "000" + most: most, "-000" + most: "-" + most, "+0" + most: most,
		rep("0", 1000): "0", "-" + rep("0", 1000): "0", rep("0", 1000) + "5": "5",
	} {
		if l := read(t, s); !sameData(l, []api.Datum{num(want)}) {
			t.Errorf("%.20s .. (%d bytes) is read %v", s, len(s), l)
		}
	}
	for _, sign := range []string{"", "-", "+", "0", "-00", "+0"} {
		wantFault(t, sign+"1"+most, 0, api.ErrBig)
		wantFault(t, "(a "+sign+"1"+most, 3, api.ErrBig)
		wantFault(t, "(a "+sign+"1"+most+"#", 3, api.ErrRead)
	}
	wantFault(t, "1"+most+" )", 0, api.ErrBig)
	wantFault(t, ") 1"+most, 0, api.ErrRead)
	wantFault(t, rep("1", 100000), 0, api.ErrBig)
}

func TestReadOfDepthsAtTheLimit(t *testing.T) {
	for _, o := range []struct{ open, inside, close string }{{"(", "a", ")"}, {"#(", "a", ")"}, {"'", "a", ""}, {"(", "()", ")"}, {"(a . ", "b", ")"}, {"(", "", ")"}, {"'(#(", "a", "))"}} {
		one := strings.Count(o.open, "(") + strings.Count(o.open, "'")
		inner := strings.Count(o.inside, "(")
		fit := (api.MaxDepth - inner) / one
		s := rep(o.open, fit) + o.inside + rep(o.close, fit)
		l := read(t, s)
		if len(l) != 1 || !datum.Can(l[0]) {
			t.Errorf("%s %d times: %v", o.open, fit, l)
		}
		if d := datum.Depth(l[0]); o.open != "(a . " && d != fit*one+inner {
			t.Errorf("%s %d times: the depth is %d", o.open, fit, d)
		}
	}
	for _, open := range []string{"(", "#(", "'", "(a . ", "(a ", "()#() 'a ("} {
		s := rep(open, api.MaxDepth)
		for _, last := range []string{"(", "#(", "'", "()", "'a", "#()", "(#x", "(" + rep(")", 70)} {
			wantFault(t, s+last, len(s), api.ErrDeep)
		}
		wantFault(t, s+")))", map[bool]int{true: len(s), false: len(s) + 3}[open == "'" || open == "(a . "], api.ErrRead)
		wantFault(t, s, len(s), api.ErrRead)
		wantFault(t, s+"#x", len(s), api.ErrRead)
	}
	wantFault(t, rep("(", 64)+"(((", 64, api.ErrDeep)
	wantFault(t, rep("(", 100000), 64, api.ErrDeep)
	wantFault(t, rep("(", 63)+"(a . b (c)", 70, api.ErrRead)
	if l := read(t, rep(rep("(", 64)+rep(")", 64), 3)); len(l) != 3 {
		t.Errorf("what was closed counts: %d", len(l))
	}
	if l := read(t, rep("'a", 100)); len(l) != 100 {
		t.Errorf("quotes that have their datum count: %d", len(l))
	}
}

func TestReadOfLongTexts(t *testing.T) {
	const n = 100000
	if l := read(t, "("+rep("a ", n)+")"); len(l) != 1 || len(l[0].List) != n {
		t.Error("a long list")
	}
	if l := read(t, rep("1 ", n)); len(l) != n {
		t.Error("many data")
	}
	if l := read(t, "\""+rep("a", n)+"\""); len(l) != 1 || len(l[0].Text) != n {
		t.Error("a long string")
	}
	if l := read(t, rep(";\n ", n)); len(l) != 0 {
		t.Error("many comments")
	}
}

// TestReadAnswersNewMemory: writing into the lists of an answer, and into the room behind them, changes no other one.
func TestReadAnswersNewMemory(t *testing.T) {
	const s = "(a . (b c . d)) (a b c d e) (a . (b)) '(x . #(y z w)) #(1 #(2) 3) (a b c . (d e . (f . g)))"
	want := read(t, s)
	got := read(t, s)
	var lists [][]api.Datum
	var gather func(l []api.Datum)
	gather = func(l []api.Datum) {
		lists = append(lists, l)
		for _, d := range l {
			gather(d.List)
			gather(d.Tail)
		}
	}
	gather(got)
	junk := sym("junk")
	for i, l := range lists {
		before := make([][]api.Datum, len(lists))
		for j, m := range lists {
			before[j] = slices.Clone(m[:cap(m)])
		}
		all := l[:cap(l)]
		for k := range all {
			all[k] = junk
		}
		for j, m := range lists {
			if j != i && !sameData(m[:cap(m)], before[j]) {
				t.Fatalf("lists %d and %d share memory", i, j)
			}
		}
		copy(all, before[i])
	}
	if !sameData(want, got) || !sameData(want, read(t, s)) {
		t.Error("answers share memory")
	}
}

// P10.2

func TestPrint(t *testing.T) {
	a, b := sym("a"), sym("b")
	for want, d := range map[string]api.Datum{
		"0":                         num("0"),
		"-12":                       num("-12"),
		rep("9", 200):               num(rep("9", 200)),
		"#t":                        truth("#t"),
		"#f":                        truth("#f"),
		`""`:                        str(""),
		`"\\\"\n\t"`:                str("\\\"\n\t"),
		"\"n\\\\n\r\x00\xff'\"":     str("n\\n\r\x00\xff'"),
		"a":                         a,
		"...":                       sym("..."),
		rep("z", 64):                sym(rep("z", 64)),
		"()":                        list(),
		"#()":                       vector(),
		"(a)":                       list(a),
		"(a b)":                     list(a, b),
		"(quote a)":                 list(sym("quote"), a),
		"(a . b)":                   dotted(b, a),
		"(a b . #(a b))":            dotted(vector(a, b), a, b),
		"#(a () #t)":                vector(a, list(), truth("#t")),
		"((a . 1) (#()) \"\")":      list(dotted(num("1"), a), list(vector()), str("")),
		rep("(", 64) + rep(")", 64): nest(63, list()),
	} {
		if got := datum.Print(d); got != want {
			t.Errorf("Print(%v) = %q, want %q", d, got, want)
		}
	}
	for _, d := range wrong() {
		if got := datum.Print(d); got != "" {
			t.Errorf("Print(%v) = %q", d, got)
		}
	}
}

// P10.3

// wrong is data that may not be, each wrong in one way; and lists that have it in them.
func wrong() []api.Datum {
	a, some := sym("a"), []api.Datum{sym("a")}
	l := []api.Datum{
		{}, {Kind: -1, Text: "a"}, {Kind: 7, List: some}, {Kind: 1 << 62},
		num(""), num("-0"), num("01"), num("+1"), num("-"), num("a"), num("1 "), num(rep("9", 201)),
		truth(""), truth("t"), truth("#T"), truth("#true"), truth("#t "),
		sym(""), sym("."), sym("1"), sym("-1"), sym("+1"), sym("1a"), sym("+1a"), sym("-0"), sym("a b"), sym("a,b"), sym(","), sym("#t"), sym("a#"), sym("'"), sym("a;"), sym("a\n"), sym("é"), sym("\xe1"), sym("a\x00"), sym("["), sym("`"), sym("{"), sym("|"), sym("\\"), sym("\""), sym("("), sym(rep("a", 65)),
		{Kind: api.DList, Text: "a"}, {Kind: api.DList, Tail: some}, {Kind: api.DList, List: some, Tail: []api.Datum{a, a}},
		dotted(list(), a), dotted(list(a), a), dotted(dotted(a, a), a), dotted(api.Datum{}, a), dotted(nest(1, a), a),
		{Kind: api.DVector, Text: "a"}, {Kind: api.DVector, List: some, Tail: some}, {Kind: api.DVector, Tail: some},
		nest(65, a), nest(64, list()), nest(63, dotted(vector(), a)), nest(64, vector()), nest(1000, a),
	}
	for _, kind := range []int{api.DNumber, api.DBool, api.DString, api.DSymbol} {
		text := map[int]string{api.DNumber: "1", api.DBool: "#t", api.DString: "s", api.DSymbol: "a"}[kind]
		l = append(l, api.Datum{Kind: kind, Text: text, List: some}, api.Datum{Kind: kind, Text: text, Tail: some})
	}
	for _, d := range slices.Clone(l) {
		l = append(l, list(a, d), vector(d, a), dotted(d, a), dotted(a, a, list(d)))
	}
	return l
}

func TestDataThatMayNotBe(t *testing.T) {
	for _, d := range wrong() {
		if datum.Can(d) || datum.Depth(d) != 0 || datum.Size(d) != 0 {
			t.Errorf("%v: %v, %d, %d", d, datum.Can(d), datum.Depth(d), datum.Size(d))
		}
		if !datum.Same(d, d) || datum.Same(d, list(d)) {
			t.Errorf("%v is not the same as itself", d)
		}
	}
}

func TestDepthAndSize(t *testing.T) {
	a := sym("a")
	empty := []api.Datum{}
	for _, c := range []struct {
		d           api.Datum
		depth, size int
	}{
		{num("5"), 0, 1}, {truth("#f"), 0, 1}, {str(""), 0, 1}, {str(rep("(", 100)), 0, 1}, {a, 0, 1}, {sym("+"), 0, 1}, {sym("-"), 0, 1}, {sym(".."), 0, 1}, {sym("-a"), 0, 1}, {sym("+-1"), 0, 1}, {sym("@"), 0, 1},
		{list(), 1, 1}, {vector(), 1, 1}, {list(a), 1, 2}, {vector(a, a), 1, 3},
		{dotted(a, a), 1, 3}, {dotted(vector(), a), 2, 3}, {dotted(vector(list(a)), a, a), 3, 6}, {dotted(a, list(list())), 3, 4},
		{list(a, list(), list(list(a))), 3, 6}, {list(list(list(a)), a), 3, 5},
		{nest(64, a), 64, 65}, {nest(63, vector()), 64, 64}, {nest(62, dotted(vector(), a)), 64, 65},
		{api.Datum{Kind: api.DSymbol, Text: "a", List: empty, Tail: empty}, 0, 1}, {api.Datum{Kind: api.DList, List: empty, Tail: empty}, 1, 1}, {api.Datum{Kind: api.DVector, Tail: empty}, 1, 1},
	} {
		if !datum.Can(c.d) || datum.Depth(c.d) != c.depth || datum.Size(c.d) != c.size {
			t.Errorf("%v: %v, %d, %d, want %d, %d", c.d, datum.Can(c.d), datum.Depth(c.d), datum.Size(c.d), c.depth, c.size)
		}
	}
}

func TestCanOfAllBytesOfNames(t *testing.T) {
	const marks = "!$%&*/:<=>?^_~+-.@"
	for c := range 256 {
		b := byte(c)
		letter := b >= 'a' && b <= 'z' || b >= 'A' && b <= 'Z'
		digit := b >= '0' && b <= '9'
		mark := strings.IndexByte(marks, b) >= 0
		for s, want := range map[string]bool{
			string([]byte{b}):           letter || mark && b != '.',
			string([]byte{'a', b}):      letter || mark || digit,
			string([]byte{'-', b, 'a'}): letter || mark,
			string([]byte{'+', b}):      letter || mark,
			string([]byte{b, '1'}):      letter || mark && b != '+' && b != '-',
			string([]byte{'.', b}):      letter || mark || digit,
		} {
			if datum.Can(sym(s)) != want {
				t.Errorf("is %q a name: %v", s, !want)
			}
		}
	}
}

func TestSame(t *testing.T) {
	a, b := sym("a"), sym("b")
	unlike := []api.Datum{
		{}, num("1"), num("2"), str("1"), sym("1"), str(""), str("a"), a, b, truth("#t"), truth("#f"), str("#t"),
		list(), vector(), list(a), vector(a), list(b), list(a, a), list(a, b), list(b, a), list(list(a)), list(list()), list(vector()), vector(list()),
		dotted(a, a), dotted(b, a), dotted(a, b), dotted(a, a, a), dotted(list(), a), dotted(vector(), a),
		list(a, dotted(a, b)), list(a, dotted(b, b)), {Kind: api.DList, Text: "a"}, {Kind: api.DList, Tail: []api.Datum{a}}, {Kind: 9, List: []api.Datum{a}},
	}
	again := slices.Clone(unlike)
	for i, x := range unlike {
		for j, y := range again {
			if datum.Same(x, y) != (i == j) {
				t.Errorf("Same(%v, %v) = %v", x, y, i != j)
			}
		}
	}
	empty := []api.Datum{}
	for _, p := range [][2]api.Datum{
		{list(), {Kind: api.DList, List: empty, Tail: empty}},
		{a, {Kind: api.DSymbol, Text: "a", List: empty, Tail: empty}},
		{list(a, vector()), {Kind: api.DList, List: []api.Datum{a, {Kind: api.DVector, List: empty}}, Tail: empty}},
	} {
		if !datum.Same(p[0], p[1]) || !datum.Same(p[1], p[0]) {
			t.Errorf("%v and %v are the same", p[0], p[1])
		}
	}
}

func TestDataOfAnyDepth(t *testing.T) {
	x, y, z := nest(1<<16, sym("a")), nest(1<<16, sym("a")), nest(1<<16, sym("b"))
	if !datum.Same(x, y) || datum.Same(x, z) || datum.Can(x) || datum.Print(x) != "" {
		t.Error("a datum of 2^16 lists")
	}
}

// TestDataThatHoldThemselves: every call ends.
func TestDataThatHoldThemselves(t *testing.T) {
	l := make([]api.Datum, 3)
	l[0] = sym("a")
	l[1] = api.Datum{Kind: api.DVector, List: l}
	l[2] = api.Datum{Kind: api.DList, List: l, Tail: l[1:2]}
	for _, d := range l[1:] {
		if datum.Can(d) || datum.Depth(d) != 0 || datum.Size(d) != 0 || datum.Print(d) != "" {
			t.Errorf("it may be")
		}
		datum.Same(d, d)
		if datum.Same(d, list()) || datum.Same(list(), d) {
			t.Errorf("it is the same as ()")
		}
	}
}

// TestArgumentsStay: no call changes what it is given, or the room behind it.
func TestArgumentsStay(t *testing.T) {
	room := make([]api.Datum, 4, 8)
	for i := range 8 {
		room[:8][i] = dotted(str("x"), num("1"), list())
	}
	want := slices.Clone(room[:8])
	d := api.Datum{Kind: api.DList, List: room[:2], Tail: []api.Datum{vector(room[:4]...)}}
	datum.Print(d)
	datum.Same(d, d)
	datum.Can(d)
	datum.Depth(d)
	datum.Size(d)
	if !sameData(room[:8], want) {
		t.Error("an argument has changed")
	}
}
