package desk_test

import (
	"fmt"
	"math/rand"
	"regexp"
	"slices"
	"strconv"
	"strings"
	"testing"

	"rostrum/api"
	"rostrum/desk"
	"rostrum/disk"
	"rostrum/net"
	"rostrum/server"
)

// second is the desk written once more: lines are known by patterns, and steps are done on a server that the test has.
type second struct {
	t *testing.T
	s *server.Server
}

const aNumber = `(0|[1-9][0-9]{0,8})`

// pattern is that of a whole line; a dot is any byte.
func pattern(s string) *regexp.Regexp { return regexp.MustCompile(`(?s)^` + s + `$`) }

var (
	aMake   = pattern(`make ` + aNumber + ` ` + aNumber)
	aRun    = pattern(`run ([A-Za-z0-9]{1,8}) (.*)`)
	aResume = pattern(`resume ([A-Za-z0-9]{1,8}) ([1-9][0-9]{0,3}) (.*)`)
	aRaw    = pattern(`raw ((?:[0-9a-f]{2})*)`)
	anAll   = pattern(`all ([A-Za-z0-9]{1,8})`)
	aStep   = pattern(`(lose|twice|give|collect|crash) ` + aNumber)
	aGo     = pattern(`go ` + aNumber + ` ` + aNumber)
	aWord   = pattern(`(flush|check|roots|sessions|busy)`)
)

func (x *second) run(script string) ([]string, error) {
	var l []string
	for i, line := range regexp.MustCompile(`\n`).Split(script, -1) {
		if line == "" {
			continue
		}
		s, e := x.line(line)
		if e != api.OK {
			return nil, api.Fault{At: i + 1, Why: e}
		}
		l = append(l, s)
	}
	return l, nil
}

func (x *second) number(s string) int {
	n, err := strconv.Atoi(s)
	if err != nil {
		x.t.Fatal(err)
	}
	return n
}

func (x *second) line(line string) (string, api.Errno) {
	if m := aMake.FindStringSubmatch(line); m != nil {
		return x.makes(x.number(m[1]), x.number(m[2])), api.OK
	}
	known := aWord.MatchString(line) || aStep.MatchString(line) || aGo.MatchString(line) || anAll.MatchString(line)
	if !known && !aRun.MatchString(line) && !aResume.MatchString(line) && !aRaw.MatchString(line) {
		return "", api.ErrCommand
	}
	if x.s == nil {
		return "", api.ErrState
	}
	if aWord.MatchString(line) {
		return x.word(line), api.OK
	}
	if m := anAll.FindStringSubmatch(line); m != nil {
		return x.all(m[1]), api.OK
	}
	told, step := x.step(line)
	return x.does(told, step), api.OK
}

func (x *second) makes(sectors, workers int) string {
	d, e := disk.New(sectors)
	if e != api.OK {
		return fmt.Sprint("error ", int(e))
	}
	s, e := server.New(d, workers)
	if e != api.OK {
		return fmt.Sprint("error ", int(e))
	}
	x.s = s
	return "made"
}

func (x *second) word(line string) string {
	l := []any{line}
	switch line {
	case "flush":
		return x.does("ok", api.Step{Kind: api.StepFlush})
	case "check":
		return x.does("ok", api.Step{Kind: api.StepCheck})
	case "roots":
		for _, r := range x.s.Roots() {
			l = append(l, fmt.Sprintf("%s:%d", r.Name, len(r.Bytes)))
		}
	case "sessions":
		for _, n := range x.s.Sessions() {
			l = append(l, n)
		}
	case "busy":
		for _, id := range x.s.Busy() {
			l = append(l, map[bool]string{true: "-", false: id}[id == ""])
		}
	}
	return strings.TrimSpace(fmt.Sprintln(l...))
}

func (x *second) step(line string) (string, api.Step) {
	ask := func(r api.Request) (string, api.Step) {
		return "sent", api.Step{Kind: api.StepSend, Bytes: message(x.t, r)}
	}
	if m := aRun.FindStringSubmatch(line); m != nil {
		return ask(api.Request{ID: m[1], Kind: api.AskRun, Text: m[2]})
	}
	if m := aResume.FindStringSubmatch(line); m != nil {
		return ask(api.Request{ID: m[1], Kind: api.AskResume, Session: x.number(m[2]), Text: m[3]})
	}
	if m := aRaw.FindStringSubmatch(line); m != nil {
		var b []byte
		fmt.Sscanf(m[1], "%x", &b)
		return "sent", api.Step{Kind: api.StepSend, Bytes: b}
	}
	if m := aGo.FindStringSubmatch(line); m != nil {
		return "ok", api.Step{Kind: api.StepRun, N: x.number(m[1]), M: x.number(m[2])}
	}
	m := aStep.FindStringSubmatch(line)
	n := x.number(m[2])
	switch m[1] {
	case "lose":
		return "ok", api.Step{Kind: api.StepDrop, N: n}
	case "twice":
		return "ok", api.Step{Kind: api.StepTwice, N: n}
	case "give":
		return "ok", api.Step{Kind: api.StepDeliver, N: n}
	case "collect":
		return "ok", api.Step{Kind: api.StepCollect, N: n}
	}
	return "crashed", api.Step{Kind: api.StepCrash, Mask: uint64(n)}
}

func (x *second) does(told string, step api.Step) string {
	r, sent, e := x.s.Do(step)
	switch {
	case e != api.OK:
		return fmt.Sprint("error ", int(e))
	case sent:
		return reply(r)
	}
	return told
}

func reply(r api.Reply) string {
	var text strings.Builder
	for _, c := range []byte(r.Text) {
		if c < 32 || c > 126 || c == 92 {
			fmt.Fprintf(&text, "\\%02x", c)
		} else {
			text.WriteByte(c)
		}
	}
	switch r.Status {
	case api.RepDone:
		return fmt.Sprintf("reply %s done %s", r.ID, text.String())
	case api.RepFailed:
		return fmt.Sprintf("reply %s failed %d", r.ID, r.Why)
	}
	return fmt.Sprintf("reply %s session %d %s", r.ID, r.Session, text.String())
}

// all looks at the whole queue anew behind each message that is given.
func (x *second) all(id string) string {
	for range 60 {
		for i := 0; i < len(x.s.Queue()); {
			if q, e := net.ReadAsk(x.s.Queue()[i]); e == api.OK && q.ID == id {
				was := len(x.s.Queue())
				if r, sent, _ := x.s.Do(api.Step{Kind: api.StepDeliver, N: i}); sent && r.ID == id {
					return reply(r)
				}
				if len(x.s.Queue()) < was {
					continue
				}
			}
			i++
		}
		for i := range x.s.Busy() {
			if r, sent, _ := x.s.Do(api.Step{Kind: api.StepRun, N: i, M: 1000}); sent && r.ID == id {
				return reply(r)
			}
		}
	}
	return "none"
}

func texts() []string {
	return []string{
		"5", "(+ 1 2)", "", "(car 5)", "(", "\"a\\\\ \x01\xff\"", "(root-ref 'x)", "(root-set! 'x (list 1 (root-ref 'y)))", "(root-set! 'y \"abc\")",
		"(root-set! 'x (+ 1 (if (number? (root-ref 'x)) (root-ref 'x) 0)))", "(list (suspend (root-ref 'x)) (suspend 2))",
		"(define (f n) (if (= n 0) (root-set! 'x 0) (f (- n 1)))) (f 150)", "(define (f) (f)) (f)",
	}
}

// someLine is a line that can be, most of the time.
func someLine(random *rand.Rand) string {
	id, n := string(rune('a'+random.Intn(12))), random.Intn(4)
	text := texts()[random.Intn(len(texts()))]
	switch random.Intn(22) {
	case 0:
		return fmt.Sprintf("make %d %d", 200+random.Intn(500), random.Intn(6))
	case 1, 2, 3, 4, 5:
		return "run " + id + " " + text
	case 6, 7:
		return fmt.Sprintf("resume %s %d %s", id, 1+random.Intn(3), text)
	case 8:
		return fmt.Sprintf("raw 0%d%x", n, text)
	case 9:
		return fmt.Sprintf("%s %d", []string{"lose", "twice"}[random.Intn(2)], n)
	case 10, 11:
		return fmt.Sprint("give ", n)
	case 12, 13, 14, 15:
		return fmt.Sprintf("go %d %d", n, []int{0, 10, 1000}[random.Intn(3)])
	case 16:
		return fmt.Sprint("collect ", n)
	case 17:
		return fmt.Sprint("crash ", random.Intn(1<<29))
	case 18, 19:
		return "all " + id
	}
	return []string{"flush", "check", "roots", "sessions", "busy", ""}[random.Intn(6)]
}

// spoiled is a line with a byte too many, too few, or another one.
func spoiled(random *rand.Rand, line string) string {
	const bytes = "  01a-9\tzZ\xff"
	c := string(bytes[random.Intn(len(bytes))])
	at := random.Intn(len(line) + 1)
	if random.Intn(3) == 0 || at == len(line) {
		return line[:at] + c + line[at:]
	}
	return line[:at] + map[bool]string{true: c}[random.Intn(2) == 0] + line[at+1:]
}

func someScript(random *rand.Rand) []string {
	l := []string{fmt.Sprint("make ", 400+random.Intn(400), " ", 1+random.Intn(4))}
	if random.Intn(12) == 0 {
		l = nil
	}
	for range random.Intn(150) {
		l = append(l, someLine(random))
	}
	for len(l) > 0 && random.Intn(3) == 0 {
		at := random.Intn(len(l))
		l[at] = spoiled(random, l[at])
	}
	return l
}

// TestAnyScript: whatever a script says, its answers and its fault are those of the desk that is written once more.
func TestAnyScript(t *testing.T) {
	met := map[string]int{}
	for seed := range int64(250) {
		s := script(someScript(rand.New(rand.NewSource(seed)))...)
		got, err := desk.Run(s)
		want, why := (&second{t: t}).run(s)
		if !slices.Equal(got, want) || err != why {
			t.Fatalf("seed %d: %q: %q, %v; want %q, %v", seed, s, got, err, want, why)
		}
		met[fmt.Sprint(why)]++
		for _, x := range want {
			name, rest, _ := strings.Cut(x, " ")
			met[name]++
			if name == "reply" {
				met[strings.Fields(rest)[1]]++
			}
		}
	}
	for _, what := range []string{"made", "sent", "ok", "crashed", "none", "error", "reply", "done", "failed", "session", "roots", "sessions", "busy", "<nil>"} {
		if met[what] < 20 {
			t.Errorf("%s was met %d times", what, met[what])
		}
	}
}

// P23.2

// TestBeginnings: two runs answer the same, and a script's answers begin with those of its beginnings.
func TestBeginnings(t *testing.T) {
	for seed := range int64(6) {
		lines := someScript(rand.New(rand.NewSource(1000 + seed)))
		whole, fault := desk.Run(script(lines...))
		again, twice := desk.Run(script(lines...))
		if !slices.Equal(whole, again) || fault != twice {
			t.Fatalf("seed %d: two runs part", seed)
		}
		var ahead []string
		for i := range lines {
			got, err := desk.Run(script(lines[:i+1]...))
			if err != nil {
				f, ok := err.(api.Fault)
				if fault != err || !ok || f.At != i+1 {
					t.Fatalf("seed %d: %v of the beginning, %v of the whole", seed, err, fault)
				}
				break
			}
			if len(got) < len(ahead) || !slices.Equal(got[:len(ahead)], ahead) {
				t.Fatalf("seed %d: %q, then %q", seed, ahead, got)
			}
			ahead = got
		}
		if fault == nil && !slices.Equal(ahead, whole) {
			t.Fatalf("seed %d: %q, and of all lines %q", seed, whole, ahead)
		}
	}
}

// TestAnyBytes: bytes by chance end with a fault, or with answers; none panics.
func TestAnyBytes(t *testing.T) {
	random := rand.New(rand.NewSource(1))
	for range 1000 {
		b := make([]byte, random.Intn(40))
		random.Read(b)
		for _, s := range []string{string(b), "make 400 1\nraw " + string(b), "make 400 1\nrun a " + string(b) + "\nall a", "make 400 1\n" + string(b) + "\nbusy"} {
			got, err := desk.Run(s)
			f, ok := err.(api.Fault)
			if err != nil && (!ok || f.At < 1 || len(got) > 0 || f.Why != api.ErrCommand && f.Why != api.ErrState) {
				t.Fatalf("%q: %q, %v", s, got, err)
			}
		}
	}
}

// TestAnswersAreNew: what is done with an answer changes none of another run.
func TestAnswersAreNew(t *testing.T) {
	const s = "make 500 1\nbusy\nroots"
	a, _ := desk.Run(s)
	for i := range a[:cap(a)] {
		a[:cap(a)][i] = "spoilt"
	}
	wantTold(t, "make 500 1", "made", "busy", "busy -", "roots", "roots")
}
