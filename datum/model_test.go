package datum_test

import (
	"math/rand"
	"regexp"
	"slices"
	"strings"
	"testing"

	"rostrum/api"
	"rostrum/datum"
)

// A second reader, made in another way: tokens by patterns, and what is open on a stack.

var (
	blanks       = regexp.MustCompile(`^(?:[ \t\n\r]|;[^\n]*)*`)
	stringForm   = regexp.MustCompile(`^"(?:[^"\\]|\\[\\"nt])*`)
	pieceForm    = regexp.MustCompile(`^[^()"'; \t\n\r]+`)
	numberForm   = regexp.MustCompile(`^([+-]?)0*([0-9]*)$`)
	numberBegins = regexp.MustCompile(`^[+-]?[0-9]`)
	nameForm     = regexp.MustCompile(`^[A-Za-z0-9!$%&*/:<=>?^_~+.@-]{1,64}$`)
)

type frame struct {
	opened string
	list   []api.Datum
	tail   []api.Datum
	dot    bool
}

type model struct {
	text  string
	at    int
	stack []*frame
	data  []api.Datum
}

// readAsModel is what Read should answer: the fault's number is OK, if there is none.
func readAsModel(s string) ([]api.Datum, api.Fault) {
	m := &model{text: s}
	for {
		m.at += len(blanks.FindString(s[m.at:]))
		if m.at == len(s) {
			break
		}
		at := m.at
		if at, why := m.token(); why != api.OK {
			return nil, api.Fault{At: at, Why: why}
		}
		if m.at == at {
			panic("the model stands still")
		}
	}
	if len(m.stack) > 0 {
		return nil, api.Fault{At: len(s), Why: api.ErrRead}
	}
	return m.data, api.Fault{}
}

func (m *model) top() *frame {
	if len(m.stack) == 0 {
		return &frame{}
	}
	return m.stack[len(m.stack)-1]
}

// token takes the next one; or tells a fault and its place.
func (m *model) token() (int, api.Errno) {
	at, rest, top := m.at, m.text[m.at:], m.top()
	if rest[0] == ')' {
		return at, m.close()
	}
	if len(top.tail) > 0 {
		return at, api.ErrRead
	}
	for _, opened := range []string{"(", "#(", "'"} {
		if !strings.HasPrefix(rest, opened) {
			continue
		}
		if len(m.stack) == api.MaxDepth {
			return at, api.ErrDeep
		}
		m.stack = append(m.stack, &frame{opened: opened})
		m.at += len(opened)
		return 0, api.OK
	}
	if rest[0] == '"' {
		return m.stringToken()
	}
	piece := pieceForm.FindString(rest)
	if i := strings.Index(rest, "#("); i >= 0 && i < len(piece) {
		piece = piece[:i]
	}
	m.at += len(piece)
	if piece == "." && top.opened == "(" && len(top.list) > 0 && !top.dot {
		top.dot = true
		return 0, api.OK
	}
	return at, m.piece(piece)
}

func (m *model) close() api.Errno {
	top := m.top()
	if top.opened == "" || top.opened == "'" || top.dot && len(top.tail) == 0 {
		return api.ErrRead
	}
	m.at++
	m.stack = m.stack[:len(m.stack)-1]
	switch {
	case top.opened == "#(":
		m.put(vector(top.list...))
	case top.dot && top.tail[0].Kind == api.DList:
		last := top.tail[0]
		m.put(api.Datum{Kind: api.DList, List: slices.Concat(top.list, last.List), Tail: last.Tail})
	default:
		m.put(api.Datum{Kind: api.DList, List: top.list, Tail: top.tail})
	}
	return api.OK
}

func (m *model) stringToken() (int, api.Errno) {
	at := m.at
	body := stringForm.FindString(m.text[at:])
	behind := m.text[at+len(body):]
	switch {
	case behind == "" || behind == `\`:
		return at, api.ErrRead
	case behind[0] == '\\':
		return at + len(body), api.ErrRead
	}
	m.at += len(body) + 1
	m.put(str(strings.NewReplacer(`\\`, `\`, `\"`, `"`, `\n`, "\n", `\t`, "\t").Replace(body[1:])))
	return 0, api.OK
}

func (m *model) piece(s string) api.Errno {
	if s == "#t" || s == "#f" {
		m.put(truth(s))
		return api.OK
	}
	if n := numberForm.FindStringSubmatch(s); n != nil && numberBegins.MatchString(s) {
		if len(n[2]) > api.MaxDigits {
			return api.ErrBig
		}
		m.put(num(strings.TrimPrefix(map[bool]string{true: "0", false: n[1] + n[2]}[n[2] == ""], "+")))
		return api.OK
	}
	if !nameForm.MatchString(s) || numberBegins.MatchString(s) || s == "." {
		return api.ErrRead
	}
	m.put(sym(s))
	return api.OK
}

// put has a datum be a part of what is open.
func (m *model) put(d api.Datum) {
	for m.top().opened == "'" {
		d = list(sym("quote"), d)
		m.stack = m.stack[:len(m.stack)-1]
	}
	switch top := m.top(); {
	case top.opened == "":
		m.data = append(m.data, d)
	case top.dot:
		top.tail = []api.Datum{d}
	default:
		top.list = append(top.list, d)
	}
}

// check holds Read of a text against the model, and what follows from it.
func check(t *testing.T, s string) {
	t.Helper()
	want, fault := readAsModel(s)
	got, err := datum.Read(s)
	if fault.Why != api.OK {
		if f, ok := err.(api.Fault); len(got) > 0 || !ok || f != fault {
			t.Fatalf("Read(%q) = %v, %v, want %v", s, got, err, fault)
		}
		return
	}
	if err != nil || !sameData(got, want) {
		t.Fatalf("Read(%q) = %v, %v, want %v", s, got, err, want)
	}
	for _, d := range got {
		wantBack(t, d)
	}
}

// wantBack: a datum may be, and its text is read as it.
func wantBack(t *testing.T, d api.Datum) {
	t.Helper()
	s := datum.Print(d)
	if s == "" || !datum.Can(d) {
		t.Fatalf("%v may not be", d)
	}
	l, err := datum.Read(s)
	if err != nil || len(l) != 1 || !datum.Same(l[0], d) {
		t.Fatalf("%v is written %q, and read %v, %v", d, s, l, err)
	}
	if again := datum.Print(l[0]); again != s {
		t.Fatalf("%q is written %q", s, again)
	}
}

// P10.1, P10.4, P10.5

func TestAllShortTexts(t *testing.T) {
	const bytes = "().'\"\\#an1;- \n"
	var longer func(s string, n int)
	longer = func(s string, n int) {
		check(t, s)
		for i := 0; i < len(bytes) && n > 0; i++ {
			longer(s+bytes[i:i+1], n-1)
		}
	}
	longer("", 4)
	longer("(a . ", 3)
	longer("\"", 4)
	longer("#(a", 3)
}

func TestRandomTexts(t *testing.T) {
	parts := []string{"(", ")", "(", ")", "(", ")", "#(", "'", " . ", ".", " ", " ", "\n", ";c\n", "a", "b", "+", "-", "...", "12", "-0", "+7", "007", "#t", "#f", "\"\"", "\"a\\n\"", "\"", "\\", "#", "(a . ", "(a . (b", "(a . b)", "\xff", "\x00"}
	r := rand.New(rand.NewSource(10))
	for range 60000 {
		var b strings.Builder
		for n := r.Intn(14); n >= 0; n-- {
			b.WriteString(parts[r.Intn(len(parts))])
		}
		check(t, b.String())
	}
}

// TestTurnedBytes: texts of data with some byte turned, gone or doubled.
func TestTurnedBytes(t *testing.T) {
	r := rand.New(rand.NewSource(11))
	for range 20000 {
		s := datum.Print(random(r, 4))
		i := r.Intn(len(s))
		switch r.Intn(4) {
		case 0:
			s = s[:i] + string([]byte{byte(r.Intn(256))}) + s[i+1:]
		case 1:
			s = s[:i] + s[i+1:]
		case 2:
			s = s[:i] + s[i:i+1] + s[i:]
		default:
			s = s[:i]
		}
		check(t, s)
	}
}

func TestThereAndBack(t *testing.T) {
	r := rand.New(rand.NewSource(12))
	for range 20000 {
		wantBack(t, random(r, 6))
	}
	for _, d := range []api.Datum{nest(api.MaxDepth-1, list()), nest(api.MaxDepth, sym("a")), nest(api.MaxDepth-1, vector(str("\n")))} {
		wantBack(t, d)
	}
}
