package code_test

import (
	"slices"
	"strconv"
	"testing"

	"rostrum/api"
	"rostrum/code"
)

// P13.3

// some is code with an instruction, or several, ahead of the OpHalt at the place 9; it has three constants and two names.
func some(l ...api.Instr) api.Code {
	for len(l) < 9 {
		l = append(l, api.Instr{Op: api.OpPush})
	}
	return api.Code{Instrs: append(l, api.Instr{Op: api.OpHalt}), Consts: []api.Datum{num(1), list(), sym("a")}, Names: []string{"x", "y"}}
}

func wantVerify(t *testing.T, what string, c api.Code, why api.Errno) {
	t.Helper()
	if e := code.Verify(c); e != why {
		t.Errorf("%s: Verify is %v, want %v", what, e, why)
	}
	b, e := code.Encode(c)
	if e != why || (len(b) == 0) != (why != api.OK) {
		t.Errorf("%s: Encode has %d bytes, %v", what, len(b), e)
	}
	if why != api.OK && code.Hash(c) != 0 {
		t.Errorf("%s: a Hash of code that may not be run", what)
	}
}

// mosts is the greatest A and B of each instruction of some.
var mosts = []api.Instr{
	{Op: api.OpConst, A: 2}, {Op: api.OpLocal, A: 100, B: 16}, {Op: api.OpGlobal, A: 1}, {Op: api.OpSet, A: 100, B: 16}, {Op: api.OpSetG, A: 1}, {Op: api.OpDefine, A: 1},
	{Op: api.OpJump, A: 9}, {Op: api.OpJumpF, A: 9}, {Op: api.OpClosure, A: 9, B: 33}, {Op: api.OpFrame, A: 9}, {Op: api.OpPush}, {Op: api.OpCall, A: 255}, {Op: api.OpReturn}, {Op: api.OpHalt},
}

func TestVerifyEachInstruction(t *testing.T) {
	for _, m := range mosts {
		for _, a := range []int{-1 << 63, -1, 0, 1, m.A - 1, m.A, m.A + 1, 1 << 40, 1<<63 - 1} {
			for _, b := range []int{-1 << 63, -1, 0, 1, m.B - 1, m.B, m.B + 1, 1 << 40, 1<<63 - 1} {
				why := api.ErrCode
				if a >= 0 && a <= m.A && b >= 0 && b <= m.B {
					why = api.OK
				}
				in := api.Instr{Op: m.Op, A: a, B: b}
				wantVerify(t, line(in), some(in), why)
				wantVerify(t, line(in)+" behind others", some(api.Instr{Op: api.OpPush}, api.Instr{Op: api.OpPush}, in), why)
			}
		}
	}
	for _, op := range []int{-1 << 63, -1, 0, api.NumOps, api.NumOps + 1, 1<<63 - 1} {
		wantVerify(t, "Op "+strconv.Itoa(op), some(api.Instr{Op: op}), api.ErrCode)
		wantVerify(t, "the last Op "+strconv.Itoa(op), api.Code{Instrs: []api.Instr{{Op: op}}}, api.ErrCode)
	}
}

func TestVerifyTheLastInstruction(t *testing.T) {
	for _, m := range mosts {
		c := some()
		m.A, m.B = 0, 0
		c.Instrs[9] = m
		why := api.ErrCode
		if slices.Contains([]int{api.OpHalt, api.OpReturn, api.OpJump, api.OpCall}, m.Op) {
			why = api.OK
		}
		wantVerify(t, line(m)+" at the end", c, why)
	}
}

func TestVerifyHowMany(t *testing.T) {
	push := api.Instr{Op: api.OpPush}
	wantVerify(t, "no code", api.Code{}, api.ErrCode)
	wantVerify(t, "no instructions", api.Code{Instrs: []api.Instr{}, Consts: []api.Datum{num(1)}, Names: []string{"x"}}, api.ErrCode)
	wantVerify(t, "OpHalt", api.Code{Instrs: []api.Instr{{Op: api.OpHalt}}}, api.OK)
	wantVerify(t, "OpReturn", api.Code{Instrs: []api.Instr{{Op: api.OpReturn}}}, api.OK)
	wantVerify(t, "a jump to itself", api.Code{Instrs: []api.Instr{{Op: api.OpJump}}}, api.OK)
	l := slices.Repeat([]api.Instr{push}, api.MaxCode)
	l[api.MaxCode-1] = api.Instr{Op: api.OpJump, A: api.MaxCode - 1}
	wantVerify(t, "MaxCode", api.Code{Instrs: l}, api.OK)
	wantVerify(t, "one more", api.Code{Instrs: append(l, api.Instr{Op: api.OpHalt})}, api.ErrCode)
	l[api.MaxCode-1].A++
	wantVerify(t, "a jump behind the end", api.Code{Instrs: l}, api.ErrCode)
	// nothing is there to be named
	for _, op := range []int{api.OpConst, api.OpGlobal, api.OpSetG, api.OpDefine} {
		for _, a := range []int{-1, 0, 1} {
			wantVerify(t, line(api.Instr{Op: op, A: a})+" of none", api.Code{Instrs: []api.Instr{{Op: op, A: a}, {Op: api.OpHalt}}}, api.ErrCode)
		}
	}
	// constants and names that nobody asks for, or that stand twice
	wantVerify(t, "more than is used", api.Code{Instrs: []api.Instr{{Op: api.OpHalt}}, Consts: []api.Datum{num(1), num(1)}, Names: []string{"x", "x", "if"}}, api.OK)
	names := slices.Repeat([]string{"x"}, 30000)
	wantVerify(t, "many names", api.Code{Instrs: []api.Instr{{Op: api.OpGlobal, A: 29999}, {Op: api.OpHalt}}, Names: names}, api.OK)
	wantVerify(t, "a name too far", api.Code{Instrs: []api.Instr{{Op: api.OpGlobal, A: 30000}, {Op: api.OpHalt}}, Names: names}, api.ErrCode)
}

func TestVerifyConstsAndNames(t *testing.T) {
	self := []api.Datum{num(1), {Kind: api.DVector}}
	self[1].List = self
	for what, d := range map[string]api.Datum{
		"none": {}, "a number that is none": {Kind: api.DNumber, Text: "01"}, "a symbol that is none": sym("a b"), "a list with a Text": {Kind: api.DList, Text: "a"}, "a list with an empty symbol": list(sym("")), "too deep": deepDatum(65), "in itself": self[1], "a truth that is none": {Kind: api.DBool, Text: "#true"},
	} {
		for i := range 3 {
			c := some()
			c.Consts[i] = d
			wantVerify(t, what, c, api.ErrCode)
		}
	}
	for _, d := range []api.Datum{deepDatum(64), {Kind: api.DString, Text: "\x00\xff\n\t\\\""}, {Kind: api.DVector}, {Kind: api.DList, List: []api.Datum{num(1)}, Tail: []api.Datum{num(2)}}} {
		c := some()
		c.Consts[1] = d
		wantVerify(t, "a constant", c, api.OK)
	}
	for _, s := range []string{"", ".", "1", "-1", "+1a", "a b", "a#", "#t", "é", "a\n", rep("a", 65)} {
		for i := range 2 {
			c := some()
			c.Names[i] = s
			wantVerify(t, "the name "+s, c, api.ErrCode)
		}
	}
	for _, s := range []string{"a", "+", "-", "...", "if", "_", rep("a", 64), "!$%&*/:<=>?^_~+-.@"} {
		c := some()
		c.Names[1] = s
		wantVerify(t, "the name "+s, c, api.OK)
	}
}

// TestOthersStay: Verify, Encode and Hash change nothing of the code, nor the room behind its lists.
func TestOthersStay(t *testing.T) {
	c := source(t, "(f '(1 (2 . 3)) x) (define y \"s\")")
	c.Instrs = append(make([]api.Instr, 0, 100), c.Instrs...)
	c.Names = append(make([]string, 0, 100), c.Names...)
	c.Consts = roomyData(c.Consts)
	for i := len(c.Instrs); i < 100; i++ {
		c.Instrs[:100][i] = api.Instr{Op: i}
	}
	for i := len(c.Names); i < 100; i++ {
		c.Names[:100][i] = "spare"
	}
	before := text(api.Code{Instrs: c.Instrs[:100], Names: c.Names[:100]}) + notedData(c.Consts)
	code.Verify(c)
	code.Hash(c)
	b := encode(t, c)
	if text(api.Code{Instrs: c.Instrs[:100], Names: c.Names[:100]})+notedData(c.Consts) != before {
		t.Error("the code has changed")
	}
	for i := range b[:cap(b)] {
		b[:cap(b)][i] = 0
	}
	if again := encode(t, c); slices.Equal(again, b) {
		t.Error("two answers share memory")
	}
}
