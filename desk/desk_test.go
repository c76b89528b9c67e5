package desk_test

import (
	"fmt"
	"slices"
	"testing"

	"rostrum/api"
	"rostrum/desk"
)

// P23.1

// TestExample is the chapter's.
func TestExample(t *testing.T) {
	wantTold(t,
		"make 500 1", "made",
		"run a (+ 1 2)", "sent",
		"all a", "reply a done 3",
	)
}

// TestTheWhole is the examples of the document.
func TestTheWhole(t *testing.T) {
	wantTold(t,
		"make 700 2", "made",
		"run a (root-set! (quote x) 5)", "sent", "all a", "reply a done #!void",
		"run b (root-ref (quote x))", "sent", "all b", "reply b done 5",
		"run c (+ 1 (suspend 7))", "sent", "all c", "reply c session 1 7",
		"resume d 1 4", "sent", "all d", "reply d done 5",
		"resume e 1 10", "sent", "all e", "reply e done 11",
		"run f (root-set! 'x (+ 1 (root-ref 'x)))", "sent",
		"run g (root-set! 'x (+ 1 (root-ref 'x)))", "sent",
		"give 0", "ok", "give 0", "ok", "go 0 1000", "ok", "go 1 1000", "ok",
		"all f", "reply f done #!void", "all g", "reply g done #!void",
		"run h (root-ref 'x)", "sent", "all h", "reply h done 7",
		"run h (root-set! 'x 9)", "sent", "all h", "reply h done 7",
		"run i (car 5)", "sent", "all i", "reply i failed 150",
		"run j (define (f) (f)) (f)", "sent", "all j", "reply j failed 172",
		"run k (root-set! 'x 8)", "sent", "give 0", "ok",
		"go 0 1000", "ok", "go 0 1000", "ok", "go 0 1000", "ok", "crash 0", "crashed",
		"run l (root-ref 'x)", "sent", "all l", "reply l done 7",
		"run k (root-set! 'x 8)", "sent", "all k", "reply k done #!void", "crash 0", "crashed",
		"run k (root-set! 'x 8)", "sent", "give 0", "reply k done #!void",
		"raw 00ff", "sent", "give 0", "error 5", "give 0", "error 190",
		"run m (call/cc (lambda (k) (+ 1 (k 5))))", "sent", "all m", "reply m done 5",
	)
}

// TestLines: one answer for each line with words; the last line may be ended or not.
func TestLines(t *testing.T) {
	for _, x := range []struct {
		script  string
		answers []string
	}{
		{"", nil},
		{"\n", nil},
		{"\n\n\n", nil},
		{"make 500 1", []string{"made"}},
		{"make 500 1\n", []string{"made"}},
		{"\n\nmake 500 1\n\n\nbusy\n\n", []string{"made", "busy -"}},
	} {
		got, err := desk.Run(x.script)
		if err != nil || !slices.Equal(got, x.answers) {
			t.Errorf("%q: %q, %v; want %q", x.script, got, err, x.answers)
		}
	}
}

// good is a line of each command.
func good() []string {
	return []string{
		"make 500 2", "run a 5", "run a ", "resume a 1 5", "resume a 1 ", "raw 00", "lose 0", "twice 0", "give 0", "go 0 5",
		"collect 0", "flush", "check", "crash 0", "all a", "roots", "sessions", "busy",
	}
}

// wrong is lines that can't be.
func wrong() []string {
	return []string{
		" ", "  ", "\t", "\r", "jump", "jump 1", "Make 500 1", "MAKE 500 1", "makes 500 1", "mak 500 1", " make 500 1", "make\t500\t1", "make 500 1\r",
		"make", "make ", "make 500", "make 500 ", "make 500 1 ", "make 500 1 1", "make  500 1", "make 500  1", "make x 1", "make 500 x",
		"make -1 1", "make 500 -1", "make +500 1", "make 0500 1", "make 500 01", "make 00 1", "make 5e2 1", "make 5_0 1", "make 0x1f4 1", "make 500.0 1",
		"make 1000000000 1", "make 500 1000000000", "make 99999999999999999999 1", "make \xd9\xa5 1",
		"run", "run ", "run a", "run  ", "run  a 5", "run a-b 5", "run \xc3\xa4 5", "run 123456789 5", "run a\t5", "run a " + rep(" ", 1201),
		"resume", "resume ", "resume a", "resume a 1", "resume  1 5", "resume a-b 1 5", "resume a 0 5", "resume a 01 5", "resume a x 5", "resume a -1 5",
		"resume a 10000 5", "resume a  5", "resume a +1 5", "resume a 1000000000 5", "resume 123456789 1 5", "resume a 1 " + rep("1", 1201), "resume 1 a 5",
		"raw", "raw 0", "raw 000", "raw 0G", "raw g0", "raw AB", "raw aB", "raw 00 00", "raw 00 ", "raw  00", "raw 0x", "raw -1", "raw \xff\xff", "raw +0",
		"lose", "lose ", "lose x", "lose 00", "lose -1", "lose 0 0", "lose  0", "lose 0 ", "lose 1000000000",
		"twice", "twice ", "twice x", "twice 00", "twice -1", "twice 0 0", "twice 1000000000",
		"give", "give ", "give x", "give 01", "give -1", "give 0 0", "give 0 ", "give 1000000000",
		"go", "go ", "go 0", "go 0 ", "go x 1", "go 0 x", "go 0 01", "go 00 1", "go -1 1", "go 0 -1", "go 0 1 1", "go  0 1", "go 0 1000000000",
		"collect", "collect ", "collect x", "collect 00", "collect -1", "collect 0 0", "collect 1000000000",
		"flush ", "flush 0", "flushes", "check ", "check 0", "checks", "crash", "crash ", "crash x", "crash 00", "crash -1", "crash 0 0", "crash 0x1", "crash 1000000000",
		"all", "all ", "all a-b", "all 123456789", "all a a", "all a ", "all  a", "all \xff",
		"roots ", "roots x", "sessions ", "sessions 1", "busy ", "busy 0", "reply a done 3", "made", "ok", "none",
	}
}

// TestWrongLines: the first of them is told, whether there is a server or not; nothing behind it plays a part.
func TestWrongLines(t *testing.T) {
	for _, line := range wrong() {
		wantFault(t, line, 1, api.ErrCommand)
		wantFault(t, script("", line, "busy", "jump"), 2, api.ErrCommand)
		wantFault(t, script("make 500 1", line), 2, api.ErrCommand)
		wantFault(t, script("make 500 1", "busy", "", "run a 5", "", line+"\n", "jump"), 6, api.ErrCommand)
		wantFault(t, script("make 5 1", line, "flush"), 2, api.ErrCommand)
	}
}

// TestAheadOfMake: each command that is one needs a make that told made.
func TestAheadOfMake(t *testing.T) {
	for _, line := range good() {
		plays(t, "make 500 1", line)
		if line == "make 500 2" {
			continue
		}
		wantFault(t, line, 1, api.ErrState)
		wantFault(t, script("", "", line, "jump"), 3, api.ErrState)
		wantFault(t, script("make 5 1", "make 500 9", line, "make 500 1", "jump"), 3, api.ErrState)
		wantFault(t, script(line, "make 500 1"), 1, api.ErrState)
	}
}

func TestMake(t *testing.T) {
	for _, x := range []struct{ line, answer string }{
		{"make 310 1", "made"},
		{"make 309 1", "error 1"},
		{"make 4096 4", "made"},
		{"make 4097 4", "error 1"},
		{"make 0 1", "error 1"},
		{"make 1 1", "error 1"},
		{"make 500 0", "error 1"},
		{"make 500 5", "error 1"},
		{"make 999999999 1", "error 1"},
		{"make 500 999999999", "error 1"},
	} {
		wantTold(t, x.line, x.answer)
		busy := "busy -"
		if x.answer != "made" {
			busy = "busy a -"
		} else if x.line == "make 4096 4" {
			busy = "busy - - - -"
		}
		wantTold(t, "make 500 2", "made", "run a 5", "sent", "give 0", "ok", x.line, x.answer, "busy", busy)
	}
}

// TestMakeAnew: nothing is left of the server that was.
func TestMakeAnew(t *testing.T) {
	wantTold(t,
		"make 500 1", "made",
		"run a (root-set! 'x 1) (suspend 2)", "sent", "all a", "reply a session 1 2",
		"run b 5", "sent",
		"roots", "roots "+rootOf(t, "x", "1"), "sessions", "sessions 1",
		"make 500 1", "made",
		"roots", "roots", "sessions", "sessions", "busy", "busy -", "give 0", "error 190",
		"run a 7", "sent", "all a", "reply a done 7",
	)
}

// TestRun: the text is all that stands behind one blank.
func TestRun(t *testing.T) {
	for _, x := range []struct{ line, answer string }{
		{"run a 5", "done 5"},
		{"run a  5 ", "done 5"},
		{"run a  (list  1   2) ", "done (1 2)"},
		{"run a \"  b \"", `done "  b "`},
		{"run a ", "done ()"},
		{"run a  ", "done ()"},
		{"run a 1 2 3", "done 3"},
		{"run a 5 ; and more", "done 5"},
		{"run a (list\t1\r2)", "done (1 2)"},
		{"run a " + rep(" ", 1199) + "5", "done 5"},
		{"run a (", "failed 100"},
		{"run a (if)", "failed 110"},
		{"run a (suspend 'z)", "session 1 z"},
	} {
		wantTold(t, "make 500 1", "made", x.line, "sent", "all a", "reply a "+x.answer)
	}
	for _, id := range []string{"a", "Z", "0", "12345678", "aZ09bY18"} {
		wantTold(t, "make 500 1", "made", "run "+id+" 5", "sent", "all "+id, "reply "+id+" done 5")
	}
}

func TestResume(t *testing.T) {
	for _, x := range []struct{ line, answer string }{
		{"resume b 1 5", "done (5 1)"},
		{"resume b 1  5 ", "done (5 1)"},
		{"resume b 1 (1 \"z\")", `done ((1 "z") 1)`},
		{"resume b 1 ", "failed 100"},
		{"resume b 1 5 6", "failed 100"},
		{"resume b 1 )", "failed 100"},
		{"resume b 2 5", "failed 200"},
		{"resume b 9999 5", "failed 200"},
		{"resume b 1 " + rep(" ", 1199) + "5", "done (5 1)"},
	} {
		wantTold(t,
			"make 500 1", "made",
			"run a (list (suspend 7) 1)", "sent", "all a", "reply a session 1 7",
			x.line, "sent", "all b", "reply b "+x.answer)
	}
}

func TestRaw(t *testing.T) {
	wantTold(t,
		"make 500 1", "made",
		"raw 0123456789abcdef", "sent",
		"raw "+rep("00", 4096), "sent",
		"raw "+rep("00", 4097), "error 12",
		"give 0", "error 5", "give 0", "error 5", "give 0", "error 190",
	)
	const asked = "0c01010001610628" + "2b20312032" // without its end it is no request
	wantTold(t, "make 500 1", "made", "raw "+asked, "sent", "give 0", "error 5", "busy", "busy -")
}

// TestRawRequest: the bytes are those of a request; big and small bytes come as they are.
func TestRawRequest(t *testing.T) {
	b := message(t, api.Request{ID: "a", Kind: api.AskRun, Text: "(quote \"\xff\x00\x7f\")"})
	wantTold(t,
		"make 500 1", "made",
		fmt.Sprintf("raw %x", b), "sent",
		"all a", `reply a done "\ff\00\7f"`,
	)
}

// TestTooMany: what a server refuses is no fault of the script.
func TestTooMany(t *testing.T) {
	wantTold(t, join(
		[]string{"make 500 1", "made"},
		times(64, "run a 5", "sent"),
		[]string{"run a 5", "error 4", "resume a 1 5", "error 4", "raw 00", "error 4", "twice 0", "error 4"},
		[]string{"lose 63", "ok", "lose 63", "error 190", "twice 63", "error 190", "give 63", "error 190", "twice 62", "ok", "raw 00", "error 4"},
		[]string{"lose 999999999", "error 190"},
	)...)
}

func TestMessages(t *testing.T) {
	wantTold(t,
		"make 500 2", "made",
		"lose 0", "error 190", "twice 0", "error 190", "give 0", "error 190",
		"run a 1", "sent", "run b 2", "sent", "run c 3", "sent",
		"twice 0", "ok", // a b c a
		"lose 1", "ok", // a c a
		"give 1", "ok", "busy", "busy c -", // a a
		"give 1", "ok", "busy", "busy c a", // a
		"run d 4", "sent", "give 1", "error 210", "give 0", "ok", "busy", "busy c a", // d
		"give 1", "error 190",
		"go 0 1000", "ok", "go 0 1000", "ok", "go 0 1000", "ok", "go 0 1000", "reply c done 3",
		"busy", "busy - a",
		"give 0", "ok", "busy", "busy d a",
		"give 0", "error 190",
	)
}

// TestGo: so many instructions, or a step of the commit.
func TestGo(t *testing.T) {
	n := used(t, "(+ 1 2)")
	if n != 8 {
		t.Fatalf("(+ 1 2) takes %d", n)
	}
	wantTold(t, join(
		[]string{"make 500 2", "made", "go 0 5", "error 210", "go 1 5", "error 210", "go 2 5", "error 1", "go 999999999 5", "error 1"},
		[]string{"run a (+ 1 2)", "sent", "give 0", "ok"},
		times(5, "go 0 0", "ok"),
		[]string{"go 0 7", "ok", "go 0 0", "ok", "go 0 0", "ok", "go 0 1", "ok"},
		[]string{"go 0 0", "ok", "go 0 0", "ok", "go 0 0", "reply a done 3", "go 0 0", "error 210"},
		[]string{"run b (+ 1 2)", "sent", "give 0", "ok", "go 1 9", "error 210"},
		[]string{"go 0 999999999", "ok", "go 0 999999999", "ok", "go 0 1", "ok", "go 0 1", "reply b done 3"},
	)...)
}

func TestCollect(t *testing.T) {
	wantTold(t,
		"make 500 2", "made",
		"collect 0", "error 210", "collect 2", "error 1", "collect 999999999", "error 1",
		"run a (define (f n) (if (= n 0) '() (cons n (f (- n 1))))) (f 5)", "sent",
		"give 0", "ok", "collect 1", "error 210",
		"go 0 3", "ok", "collect 0", "ok", "go 0 50", "ok", "collect 0", "ok", "collect 0", "ok", "go 0 60", "ok", "collect 0", "ok",
		"go 0 1000", "ok", "collect 0", "ok", "go 0 0", "ok", "collect 0", "ok", "go 0 0", "ok", "go 0 0", "reply a done (5 4 3 2 1)",
		"collect 0", "error 210",
	)
}

func TestFlushAndCheck(t *testing.T) {
	wantTold(t,
		"make 500 1", "made", "flush", "ok", "check", "ok",
		"run a (root-set! 'x 5)", "sent", "give 0", "ok", "flush", "ok", "go 0 1000", "ok", "check", "ok", "go 0 1", "ok", "flush", "ok",
		"go 0 1", "ok", "check", "ok", "go 0 1", "reply a done #!void", "check", "ok", "flush", "ok", "crash 0", "crashed",
		"roots", "roots "+rootOf(t, "x", "5"),
	)
}

// TestCrash: jobs are gone, messages and what was committed stay, whatever writes do.
func TestCrash(t *testing.T) {
	for _, mask := range []int{0, 1, 2, 3, 5, 6, 7, 255, 341, 682, 1<<29 - 1, 999999999} {
		wantTold(t,
			"make 500 2", "made",
			"run a (root-set! 'x 5) (suspend 1)", "sent", "all a", "reply a session 1 1",
			"run b (root-set! 'x 6)", "sent", "give 0", "ok", "go 0 1000", "ok", "go 0 1", "ok", "go 0 1", "ok",
			"check", "ok",
			"run c 7", "sent", "busy", "busy b -",
			fmt.Sprint("crash ", mask), "crashed",
			"busy", "busy - -", "roots", "roots "+rootOf(t, "x", "5"), "sessions", "sessions 1",
			"resume d 1 8", "sent", "all d", "reply d done 8",
			"all c", "reply c done 7",
			fmt.Sprint("crash ", mask), "crashed",
			"run a 1", "sent", "give 0", "reply a session 1 1",
		)
	}
}

// TestTold: roots by their names with how many bytes, sessions by their numbers, workers with what they have.
func TestTold(t *testing.T) {
	wantTold(t,
		"make 600 3", "made",
		"roots", "roots", "sessions", "sessions", "busy", "busy - - -",
		"run a (root-set! 'zz 1) (root-set! 'a '(1 \"b\")) (root-set! 'Z 'c) (root-set! '<=:.@ #f)", "sent", "all a", "reply a done #!void",
		"roots", "roots "+rootOf(t, "<=:.@", "#f")+" "+rootOf(t, "Z", "c")+" "+rootOf(t, "a", "(1 \"b\")")+" "+rootOf(t, "zz", "1"),
		"run b (suspend 1)", "sent", "all b", "reply b session 1 1",
		"run c (suspend (suspend 2))", "sent", "all c", "reply c session 2 2",
		"resume d 2 5", "sent", "all d", "reply d session 3 5",
		"sessions", "sessions 1 2 3",
		"run e 1", "sent", "run f 2", "sent", "give 0", "ok", "busy", "busy e - -",
		"give 0", "ok", "busy", "busy e f -",
		"all e", "reply e done 1", "busy", "busy - f -",
	)
	if a, b := rootOf(t, "x", "5"), rootOf(t, "x", "50000"); a != "x:8" || b == a {
		t.Errorf("roots of %s and %s", a, b)
	}
}

// TestTexts: of a reply's text the bytes that can't be seen, and \, are told by their numbers.
func TestTexts(t *testing.T) {
	for c := range 256 {
		if c == '\n' { // it would end the line
			continue
		}
		asked, shown := string([]byte{byte(c)}), fmt.Sprintf("\\%02x", c)
		switch {
		case c == '"' || c == '\\':
			asked, shown = `\`+asked, `\5c"`
			if c == '\\' {
				shown = `\5c\5c`
			}
		case c == '\t': // datum writes it so
			shown = `\5ct`
		case c >= 32 && c < 127:
			shown = asked
		}
		wantTold(t,
			"make 400 1", "made",
			"run a \"<"+asked+asked+">\"", "sent", "all a", `reply a done "<`+shown+shown+`>"`,
			"run b (suspend \"<"+asked+">\")", "sent", "all b", `reply b session 1 "<`+shown+`>"`,
		)
	}
	wantTold(t, "make 400 1", "made", `run a "x\ny"`, "sent", "all a", `reply a done "x\5cny"`)
}

// TestLongTexts: the first 1000 bytes are told, and only then written for the eye.
func TestLongTexts(t *testing.T) {
	for _, x := range []struct{ c, shown string }{{"z", "z"}, {"\x7f", `\7f`}, {" ", " "}} {
		for _, n := range []int{997, 998, 999, 1100} {
			end := rep(x.shown, min(n, 999)) + rep(`"`, max(0, min(1, 999-n)))
			wantTold(t, "make 500 1", "made", "run a \""+rep(x.c, n)+"\"", "sent", "all a", `reply a done "`+end)
		}
	}
}
