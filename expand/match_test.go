package expand_test

import (
	"strings"
	"testing"

	"rostrum/api"
	"rostrum/expand"
)

// P11.3

// match is Match of texts; the literals are parted by blanks.
func match(t *testing.T, pattern, template, form, literals string) (api.Datum, bool, api.Errno) {
	t.Helper()
	return expand.Match(readOne(t, pattern), readOne(t, template), readOne(t, form), strings.Fields(literals))
}

func TestMatch(t *testing.T) {
	for _, c := range []struct{ pattern, template, form, literals, want string }{
		{"(_ a b ...)", "(b ... a)", "(m 1 2 3)", "", "(2 3 1)"},
		// the first parts play no part
		{"(_)", "x", "(m)", "", "x"}, {"(m)", "m", "(n)", "", "m"}, {"(5)", "(5 m)", "((a . b))", "", "(5 m)"}, {"((a a ... . b) c)", "(a b c)", "(1 2)", "", "(a b 2)"}, {"(... a)", "a", "(m 1)", "", "1"}, {"(a b)", "(a b)", "(1 2)", "", "(a 2)"}, {"(else a)", "a", "(m 1)", "else", "1"}, {"(a a)", "a", "(1 2)", "", "2"},
		// symbols
		{"(_ a)", "a", "(m ())", "", "()"}, {"(_ a)", "a", "(m #(1 (2 . 3)))", "", "#(1 (2 . 3))"}, {"(_ a)", "(a a b)", "(m (x))", "", "((x) (x) b)"}, {"(_ if)", "(if if)", "(m 1)", "", "(1 1)"}, {"(_ a b)", "(b . a)", "(m 1 2)", "", "(2 . 1)"},
		{"(_ _ a _)", "(_ a)", "(m 1 2 3)", "", "(_ 2)"}, {"(_ a)", "a", "(m else)", "", "else"}, {"(_ a)", "a", "(m ...)", "", "..."},
		// literals
		{"(_ else)", "(1 else)", "(m else)", "else", "(1 else)"}, {"(_ else a)", "(else a)", "(m else 1)", "else x", "(else 1)"}, {"(_ => =>)", "1", "(m => =>)", "=>", "1"}, {"(_ _)", "1", "(m _)", "_", "1"}, {"(_ => ...)", "1", "(m => =>)", "=>", "1"}, {"(_ a . =>)", "a", "(m 1 . =>)", "=>", "1"},
		// other data
		{"(_ 5 \"a\" #t)", "1", "(m 5 \"a\" #t)", "", "1"}, {"(_ ())", "1", "(m ())", "", "1"}, {"(_ #())", "1", "(m #())", "", "1"},
		// lists and vectors
		{"(_ (a b) c)", "(c b a)", "(m (1 2) 3)", "", "(3 2 1)"}, {"(_ (a (b)))", "(b a)", "(m (1 ((2))))", "", "((2) 1)"}, {"(_ #(a b))", "(b a)", "(m #(1 2))", "", "(2 1)"}, {"(_ #(a #(b)) (#(c)))", "#(c #(b) (a))", "(m #(1 #(2)) (#(3)))", "", "#(3 #(2) (1))"},
		// behind the dot
		{"(_ . r)", "r", "(m)", "", "()"}, {"(_ . r)", "r", "(m 1 2)", "", "(1 2)"}, {"(_ . r)", "r", "(m 1 . 2)", "", "(1 . 2)"}, {"(_ . r)", "r", "(m . 2)", "", "2"}, {"(_ a . r)", "(r a)", "(m 1)", "", "(() 1)"}, {"(_ a . r)", "(r a)", "(m 1 2 3)", "", "((2 3) 1)"}, {"(_ a . r)", "r", "(m 1 . #(2))", "", "#(2)"},
		{"(_ (a . b))", "(b a)", "(m (1 . 2))", "", "(2 1)"}, {"(_ (a . b))", "(b a)", "(m (1 2))", "", "((2) 1)"}, {"(_ (a . b))", "(b a)", "(m (1 2 . 3))", "", "((2 . 3) 1)"}, {"(_ . _)", "1", "(m 1 2 . 3)", "", "1"}, {"(_ (a . _))", "a", "(m (1))", "", "1"},
		{"(_ a)", "(1 . a)", "(m 2)", "", "(1 . 2)"}, {"(_ a)", "(1 . a)", "(m (2 3))", "", "(1 2 3)"}, {"(_ a)", "(1 . a)", "(m (2 . 3))", "", "(1 2 . 3)"}, {"(_ a)", "(1 . a)", "(m ())", "", "(1)"}, {"(_ a)", "(1 . a)", "(m #(2))", "", "(1 . #(2))"}, {"(_ a)", "(1 2 . b)", "(m 3)", "", "(1 2 . b)"}, {"(_ a)", "(1 . #(a (a)))", "(m 3)", "", "(1 . #(3 (3)))"},
		// repeated parts
		{"(_ a ...)", "(a ...)", "(m)", "", "()"}, {"(_ a ...)", "(a ...)", "(m 1)", "", "(1)"}, {"(_ a ...)", "#(a ...)", "(m 1 (2))", "", "#(1 (2))"}, {"(_ a b ...)", "(b ...)", "(m 1)", "", "()"}, {"(_ (a b ...) c ...)", "((b ...) (c ...) a)", "(m (1 2 3) 4)", "", "((2 3) (4) 1)"},
		{"(_ (a b) ...)", "((a ...) (b ...))", "(m (1 2) (3 4))", "", "((1 3) (2 4))"}, {"(_ (a b) ...)", "((b a) ...)", "(m (1 2) (3 4))", "", "((2 1) (4 3))"}, {"(_ (a b) ...)", "((a ...) (b ...))", "(m)", "", "(() ())"}, {"(_ #(a b ...))", "(b ... a)", "(m #(1 2 3))", "", "(2 3 1)"}, {"(_ #(a) ...)", "(a ...)", "(m #(1) #(2))", "", "(1 2)"}, {"(_ (a . b) ...)", "((b . a) ...)", "(m (1 . 2) (3 4))", "", "((2 . 1) ((4) . 3))"},
		{"(_ c a ...)", "((c a) ...)", "(m 0 1 2)", "", "((0 1) (0 2))"}, {"(_ c a ...)", "((c (a 7) #(a)) ... c)", "(m 0 1 2)", "", "((0 (1 7) #(1)) (0 (2 7) #(2)) 0)"}, {"(_ a ...)", "(a ... 0 a ... (x a) ...)", "(m 1 2)", "", "(1 2 0 1 2 (x 1) (x 2))"}, {"(_ a ...)", "(x (a ...) #(y a ...))", "(m 1 2)", "", "(x (1 2) #(y 1 2))"},
		{"(_ (a ...) (b ...))", "((a b) ...)", "(m (1 2) (3 4))", "", "((1 3) (2 4))"}, {"(_ (a ...) (b ...))", "((a b) ...)", "(m () ())", "", "()"}, {"(_ (a ...) (b ...))", "(a ... b ...)", "(m (1 2) (3))", "", "(1 2 3)"}, {"(_ (a ...) (b ...))", "((a) ... (b) ...)", "(m () (3))", "", "((3))"},
		{"(_ a ...)", "(a ... . x)", "(m 1 2)", "", "(1 2 . x)"}, {"(_ r a ...)", "(a ... . r)", "(m (8 9) 1 2)", "", "(1 2 8 9)"}, {"(_ r a ...)", "(a ... . r)", "(m (8 9))", "", "(8 9)"}, {"(_ r a ...)", "(a ... . r)", "(m 8)", "", "8"}, {"(_ r a ...)", "((x . a) ... . r)", "(m 8 (1) 2)", "", "((x 1) (x . 2) . 8)"}, {"(_ _ ...)", "1", "(m 1 2)", "", "1"}, {"(_ (_ a) ...)", "(a ...)", "(m (1 2) (3 4))", "", "(2 4)"}, {"(_ 5 ...)", "1", "(m 5 5)", "", "1"},
		// dots of the template stand for many, those of the form for themselves
		{"(_ a)", "(a)", "(m (x ...))", "", "((x ...))"}, {"(_ a ...)", "(a ...)", "(m ... ...)", "", "(... ...)"},
	} {
		d, ok, why := match(t, c.pattern, c.template, c.form, c.literals)
		if !ok || why != api.OK || text(d) != c.want {
			t.Errorf("Match(%s, %s, %s, %s) = %s, %v, %v, want %s", c.pattern, c.template, c.form, c.literals, text(d), ok, why, c.want)
		}
	}
}

func wantNothing(t *testing.T, what string, d api.Datum, ok bool, why, want api.Errno) {
	t.Helper()
	if ok || why != want || d.Kind != 0 || d.Text != "" || len(d.List)+len(d.Tail) > 0 {
		t.Errorf("Match(%.200s) = %.200s, %v, %v, want %v", what, text(d), ok, why, want)
	}
}

func TestWhatDoesNotFit(t *testing.T) {
	for _, c := range [][3]string{
		{"(_)", "(m 1)", ""}, {"(_)", "(m . 1)", ""}, {"(_ a)", "(m)", ""}, {"(_ a)", "(m 1 2)", ""}, {"(_ a)", "(m 1 . 2)", ""}, {"(_ a)", "(m . 1)", ""},
		{"(_ a . r)", "(m)", ""}, {"(_ a . r)", "(m . 1)", ""}, {"(_ a b . r)", "(m 1)", ""},
		{"(_ (a))", "(m a)", ""}, {"(_ (a))", "(m ())", ""}, {"(_ (a))", "(m (1 2))", ""}, {"(_ (a))", "(m #(1))", ""}, {"(_ (a))", "(m (1 . 2))", ""}, {"(_ (a . b))", "(m ())", ""}, {"(_ (a . b))", "(m 1)", ""}, {"(_ (a . b))", "(m #(1))", ""}, {"(_ (a . _))", "(m ())", ""},
		{"(_ #(a))", "(m (1))", ""}, {"(_ #(a))", "(m #())", ""}, {"(_ #(a))", "(m #(1 2))", ""}, {"(_ #())", "(m ())", ""}, {"(_ ())", "(m #())", ""}, {"(_ ())", "(m (1))", ""}, {"(_ ())", "(m 1)", ""},
		{"(_ 5)", "(m 6)", ""}, {"(_ 5)", "(m \"5\")", ""}, {"(_ \"...\")", "(m 5)", ""}, {"(_ \"a\")", "(m a)", ""}, {"(_ #t)", "(m #f)", ""}, {"(_ 5)", "(m (5))", ""},
		{"(_ =>)", "(m 1)", "=>"}, {"(_ =>)", "(m x)", "=> x"}, {"(_ =>)", "(m \"=>\")", "=>"}, {"(_ =>)", "(m (=>))", "=>"}, {"(_ _)", "(m 1)", "_"}, {"(_ a . =>)", "(m 1)", "=>"}, {"(_ a . =>)", "(m 1 =>)", "=>"},
		{"(_ a b ...)", "(m)", ""}, {"(_ a ...)", "(m 1 . 2)", ""}, {"(_ a ...)", "(m . 2)", ""}, {"(_ (a) ...)", "(m (1) 2)", ""}, {"(_ (a) ...)", "(m 1 (2))", ""}, {"(_ (a b ...))", "(m (1 . 2))", ""}, {"(_ (a b ...))", "(m ())", ""}, {"(_ => ...)", "(m => 1)", "=>"}, {"(_ 5 ...)", "(m 5 6)", ""}, {"(_ #(a ...))", "(m (1))", ""}, {"(_ a 5)", "(m 1 6)", ""}, {"(_ (5) b)", "(m (6) 1)", ""},
	} {
		d, ok, why := match(t, c[0], "1", c[1], c[2])
		wantNothing(t, c[0]+" "+c[1], d, ok, why, api.OK)
	}
}

func TestWrongPatternsAndTemplates(t *testing.T) {
	for _, p := range []string{
		"a", "5", "\"a\"", "#t", "()", "#(_ a)", "_", "...",
		"(_ a a)", "(_ a (a))", "(_ (a b) #(b))", "(_ a . a)", "(_ (a . a))", "(_ a (b a ...))", "(_ (a ...) a ...)", "(_ (a a) ...)",
		"(_ a . 5)", "(_ . 5)", "(_ . \"a\")", "(_ . #(a))", "(_ (a . 5))", "(_ #((a . #t)))", "(_ (a . 5) ...)",
		"(_ ...)", "(_ ... a)", "(_ a ... b)", "(_ a ... . b)", "(_ a ... ...)", "(_ . ...)", "(_ a . ...)", "(_ (...))", "(_ (... a))", "(_ (a ... b))", "(_ (a ... . b))", "(_ (a . ...))", "(_ #(...))", "(_ #(a ... b))", "(_ #(... a))", "(_ ... ...)", "(_ a ... b ...)", "(_ (a ... b ...))",
		"(_ (a ...) ...)", "(_ (b (a ...)) ...)", "(_ #(a ...) ...)", "(_ (#(a ...)) ...)", "(_ ((a) ...) ...)", "(_ (b . ...) ...)", "(_ (...) ...)",
	} {
		d, ok, why := match(t, p, "1", "(m)", "")
		wantNothing(t, p, d, ok, why, api.ErrSyntax)
		if p == "(_ ...)" || p == "(_ . ...)" {
			d, ok, why = match(t, p, "1", "(m)", "...") // dots are no literal
			wantNothing(t, p, d, ok, why, api.ErrSyntax)
		}
	}
	for _, c := range [][2]string{
		{"(_ a)", "..."}, {"(_ a)", "(...)"}, {"(_ a)", "(... a)"}, {"(_ a)", "(... ...)"}, {"(_ a ...)", "(... a ...)"}, {"(_ a)", "(1 . ...)"}, {"(_ a ...)", "(a ... . ...)"}, {"(_ a ...)", "(a ... ...)"}, {"(_ a ...)", "#(...)"}, {"(_ a ...)", "(x (...))"},
		{"(_ a ...)", "((a ...) ...)"}, {"(_ (a ...) (b ...))", "((a b ...) ...)"}, {"(_ a ...)", "(#(x (a ...)) ...)"}, {"(_ a ...)", "((a ... . x) ...)"}, {"(_ a ...)", "((x . #(a ...)) ...)"},
		{"(_ a)", "(a ...)"}, {"(_ a)", "(x ...)"}, {"(_ a)", "(5 ...)"}, {"(_ a b ...)", "((a x) ... b ...)"}, {"(_ a ...)", "(() ... a ...)"}, {"(_ => ...)", "(=> ...)"}, {"(_ _ ...)", "(_ ...)"}, {"(b a)", "(b ...)"}, {"(a b ...)", "(a ...)"},
		{"(_ a ...)", "a"}, {"(_ a ...)", "(a)"}, {"(_ a ...)", "(x a)"}, {"(_ a ...)", "(a ... a)"}, {"(_ a ...)", "(x . a)"}, {"(_ a ...)", "(a ... . a)"}, {"(_ a ...)", "#(a)"}, {"(_ (a b) ...)", "((a ...) b)"}, {"(_ a ...)", "(x (y . #(a)))"},
	} {
		d, ok, why := match(t, c[0], c[1], "(m)", "=>")
		wantNothing(t, c[0]+" "+c[1], d, ok, why, api.ErrSyntax)
		if _, ok, why := match(t, c[0], "1", "(m 1 2 3 4)", "=>"); why != api.OK {
			t.Errorf("%s: %v, %v", c[0], ok, why)
		}
	}
	// whether it fits plays no part
	d, ok, why := match(t, "(_ a ...)", "a", "(m . 1)", "")
	wantNothing(t, "a form that does not fit", d, ok, why, api.ErrSyntax)
}

func TestManyThatAreUnlike(t *testing.T) {
	for _, template := range []string{"((a b) ...)", "(x (a b) ...)", "#((x a (b)) ...)", "(1 (2 ((a . b) ...)))", "(1 . #((a b) ...))", "(a ... b ... (a b) ...)", "((b c a) ...)"} {
		for _, form := range []string{"(m (1) () (1))", "(m () (1) ())", "(m (1 2 3) (4 5) (6 7))", "(m (1 2) (3 4 5) (6 7))"} {
			d, ok, why := match(t, "(_ (a ...) (b ...) (c ...))", template, form, "")
			wantNothing(t, template+" "+form, d, ok, why, api.ErrSyntax)
		}
		if d, ok, why := match(t, "(_ (a ...) (b ...) (c ...))", template, "(m (1 2) (3 4) (5 6))", ""); !ok || why != api.OK || text(d) == "" {
			t.Errorf("%s: %v, %v", template, ok, why)
		}
	}
	// what is too much, or does not fit, is asked behind it, or ahead of it
	d, ok, why := match(t, "(_ (a ...) (b ...))", "(a ... a ... (a b) ...)", "(m ("+rep("1 ", 9000)+") (1))", "")
	wantNothing(t, "unlike and too much", d, ok, why, api.ErrSyntax)
	d, ok, why = match(t, "(_ (a ...) (b ...) 5)", "((a b) ...)", "(m (1) () 6)", "")
	wantNothing(t, "unlike, and it does not fit", d, ok, why, api.OK)
}

func TestMatchMakesTooMuch(t *testing.T) {
	for _, c := range []struct {
		pattern, template, form, part string
		most                          int // so many parts make MaxForms data
	}{
		{"(_ a ...)", "(a ...)", "(m @)", "1 ", api.MaxForms - 1},
		{"(_ a ...)", "(x . #(y a ...))", "(m @)", "1 ", api.MaxForms - 4},
		{"(_ a ...)", "((a) ...)", "(m @ )", "1 1 ", (api.MaxForms - 2) / 4},
		{"(_ a)", "(a a)", "(m (1 @))", "1 1 1 ", (api.MaxForms - 1 - 4) / 6},
		{"(_ a)", "(x . a)", "(m (@))", "1 ", api.MaxForms - 2},
		{"(_ r a ...)", "(a ... . r)", "(m 5 @)", "1 ", api.MaxForms - 2},
		{"(_ r a ...)", "(a ... . r)", "(m (5) @)", "1 ", api.MaxForms - 2},
		{"(_ r a ...)", "(a ... . r)", "(m (@))", "1 ", api.MaxForms - 1},
		{"(_ r a ...)", "#(x (a ... . r))", "(m #(@))", "1 ", api.MaxForms - 3},
		{"(_ a ...)", "((x . a) ...)", "(m () () () () () () () @)", "() ", api.MaxForms/2 - 8},
	} {
		at := func(n int) string { return strings.Replace(c.form, "@", rep(c.part, n), 1) }
		if d, ok, why := match(t, c.pattern, c.template, at(c.most), ""); !ok || why != api.OK || d.Kind == 0 {
			t.Errorf("%s %s of %d: %v, %v", c.pattern, c.template, c.most, ok, why)
		}
		d, ok, why := match(t, c.pattern, c.template, at(c.most+1), "")
		wantNothing(t, c.pattern+" "+c.template, d, ok, why, api.ErrFull)
	}
	// far too much ends soon, and is told ahead of too deep
	long := rep("1 ", 30000)
	for _, template := range []string{"(" + rep("a ", 30000) + ")", "(" + rep("b ... ", 30000) + ")", "((" + rep("b ", 30000) + ") ...)", "(" + rep("() ", 30000) + ")", "(" + rep("(", 63) + rep(")", 63) + rep("a ", 30000) + ")", "(" + rep("(x . a) ", 30000) + ")"} {
		d, ok, why := match(t, "(_ a b ...)", template, "(m ("+long+") "+long+")", "")
		wantNothing(t, "30000 times 30000", d, ok, why, api.ErrFull)
	}
}

func TestMatchMakesTooDeep(t *testing.T) {
	deep := func(n int) string { return rep("(", n) + rep(")", n) }
	for _, c := range []struct {
		pattern, template, form string
		most                    int // so deep a datum makes one of MaxDepth
	}{
		{"(_ a)", "((a))", "(m @)", 62}, {"(_ a)", "(x . a)", "(m @)", 63}, {"(_ a)", "#((a))", "(m @)", 62}, {"(_ a ...)", "((a) ...)", "(m 1 @)", 62}, {"(_ a)", "((x . #(a)))", "(m @)", 61}, {"(_ (a))", rep("(", 40) + "a" + rep(")", 40), "(m (@))", 24}, {"(_ a)", "((x . a))", "(m @)", 63},
	} {
		at := func(n int) string { return strings.Replace(c.form, "@", deep(n), 1) }
		if d, ok, why := match(t, c.pattern, c.template, at(c.most), ""); !ok || why != api.OK || d.Kind == 0 {
			t.Errorf("%s %s of %d: %v, %v", c.pattern, c.template, c.most, ok, why)
		}
		if c.most+1 > 63 {
			continue // a form that is so deep can't be
		}
		d, ok, why := match(t, c.pattern, c.template, at(c.most+1), "")
		wantNothing(t, c.pattern+" "+c.template, d, ok, why, api.ErrDeep)
	}
	d, ok, why := match(t, "(_ a b ...)", "((a) b ... b ...)", "(m "+deep(63)+rep(" 1", 6000)+")", "")
	wantNothing(t, "too much and too deep", d, ok, why, api.ErrFull)
}

func TestMatchOfDataThatMayNotBe(t *testing.T) {
	good := list(sym("m"))
	for _, w := range wrongData() {
		for _, c := range [][3]api.Datum{{w, good, good}, {good, w, good}, {good, good, w}, {sym("a"), w, good}, {list(), good, w}, {good, sym("..."), w}} {
			d, ok, why := expand.Match(c[0], c[1], c[2], nil)
			if ok || why != api.ErrArg || d.Kind != 0 {
				t.Errorf("%v of kind %d: %v, %v", w.Text, w.Kind, ok, why)
			}
		}
	}
	for _, form := range []string{"()", "m", "5", "#(m)", "#()", "\"m\"", "#t"} {
		for _, pattern := range []string{"(_)", "(_ . a)", "()", "a"} {
			d, ok, why := match(t, pattern, "1", form, "")
			wantNothing(t, form, d, ok, why, api.ErrArg)
		}
	}
}

func TestMatchOfLiteralsThatAreNoNames(t *testing.T) {
	p, f := readOne(t, "(_ a)"), readOne(t, "(m 1)")
	for _, literals := range [][]string{nil, {}, {""}, {"1", "a b", "(", "\xff", "m"}, {"_a", "A", ""}} {
		d, ok, why := expand.Match(p, sym("a"), f, literals)
		if !ok || why != api.OK || text(d) != "1" {
			t.Errorf("%q: %s, %v, %v", literals, text(d), ok, why)
		}
	}
}

func TestMatchAnswersNewMemory(t *testing.T) {
	for _, c := range [][3]string{
		{"(_ a b ...)", "(a a (x . a) #(a) (b ...) (b a) ... . a)", "(m (1 (2) . 3) (4) #(5 (6)))"},
		{"(_ . r)", "(r r . r)", "(m (1 2) (3 . 4))"}, {"(_ . r)", "r", "(m (1 2) (3 . 4))"}, {"(_ a . r)", "(a . r)", "(m 1 (2) . #(3 4))"}, {"(_ r a ...)", "(a ... . r)", "(m ((1) 2 . #(3)))"}, {"(_ a)", "a", "(m (1 (2)))"}, {"(_)", "(1 (2 . #(3)))", "(m)"},
	} {
		given := roomy([]api.Datum{readOne(t, c[0]), readOne(t, c[1]), readOne(t, c[2])})
		before := noted(given)
		literals := append(make([]string, 0, 4), "x", "y")
		d, ok, why := expand.Match(given[0], given[1], given[2], literals)
		if !ok || why != api.OK {
			t.Fatalf("%v: %v", c, why)
		}
		again, _, _ := expand.Match(given[0], given[1], given[2], literals)
		wantNewMemory(t, c[1], []api.Datum{d}, given)
		wantNewMemory(t, c[1], []api.Datum{again}, given, []api.Datum{d})
		if noted(given) != before || strings.Join(literals[:4], " ") != "x y  " {
			t.Errorf("%v: what was handed in has changed", c)
		}
	}
}
