package net_test

import (
	"bytes"
	"encoding/binary"
	"math"
	"math/rand"
	"strings"
	"testing"

	"rostrum/api"
	"rostrum/net"
)

// P19.2 and P19.3

func TestIsID(t *testing.T) {
	for _, s := range []string{"a", "z", "A", "Z", "0", "9", "q1", "abcdefgh", "ABCDEFGH", "01234567", "aZ09zA90"} {
		if !net.IsID(s) {
			t.Errorf("IsID(%q) is false", s)
		}
	}
	for _, s := range []string{"", "abcdefghi", "a-b", " a", "a ", "a\x00", "é", "aé", "a_b", "ａ", "١", "ä", strings.Repeat("a", 100000), "abcdefg\n", "abcdefgé"} {
		if net.IsID(s) {
			t.Errorf("IsID(%q) is true", s)
		}
	}
	const all = "abcdefghijklmnopqrstuvwxyzABCDEFGHIJKLMNOPQRSTUVWXYZ0123456789"
	for c := range 256 {
		want := strings.IndexByte(all, byte(c)) >= 0
		for _, s := range []string{string([]byte{byte(c)}), "abcdefg" + string([]byte{byte(c)}), string([]byte{byte(c)}) + "bcdefgh", "ab" + string([]byte{byte(c)}) + "d"} {
			if net.IsID(s) != want {
				t.Errorf("IsID(%q) is %v", s, !want)
			}
		}
	}
}

// asks and replies are some that may be, those at the edges among them.
func asks() []api.Request {
	long := strings.Repeat("(", 1200)
	return []api.Request{
		{ID: "a", Kind: api.AskRun},
		{ID: "q1", Kind: api.AskRun, Text: "(+ 1 2)"},
		{ID: "ABCDwxyz", Kind: api.AskRun, Text: long},
		{ID: "0", Kind: api.AskRun, Text: "\x00\xff\n"},
		{ID: "r", Kind: api.AskResume, Session: 1},
		{ID: "r7", Kind: api.AskResume, Session: 9999, Text: "4"},
		{ID: "99999999", Kind: api.AskResume, Session: 128, Text: long},
	}
}

func replies() []api.Reply {
	long := strings.Repeat("\xfe", 1000)
	return []api.Reply{
		{ID: "a", Status: api.RepDone},
		{ID: "q1", Status: api.RepDone, Text: "3"},
		{ID: "ABCDwxyz", Status: api.RepDone, Text: long},
		{ID: "a", Status: api.RepFailed, Why: 1},
		{ID: "zzzzzzzz", Status: api.RepFailed, Why: 999},
		{ID: "q", Status: api.RepFailed, Why: 150},
		{ID: "s", Status: api.RepSession, Session: 1, Text: "7"},
		{ID: "s", Status: api.RepSession, Session: 9999},
		{ID: "12345678", Status: api.RepSession, Session: 127, Text: long},
	}
}

func TestAsk(t *testing.T) {
	for _, r := range asks() {
		b, e := net.Ask(r)
		if e != api.OK || !bytes.Equal(b, framed(askPayload(r))) {
			t.Errorf("Ask(%s) = %x, %v", short(r), b, e)
		}
		if got, e := net.ReadAsk(b); got != r || e != api.OK {
			t.Errorf("ReadAsk of %s: %s, %v", short(r), short(got), e)
		}
		if got, e := net.ReadReply(b); got != (api.Reply{}) || e != api.ErrForm {
			t.Errorf("ReadReply of %s: %s, %v", short(r), short(got), e)
		}
	}
	b, _ := net.Ask(api.Request{ID: "q1", Kind: api.AskResume, Session: 300, Text: "hey"})
	if p := []byte("\x01\x02\xac\x02\x02q1\x03hey"); len(b) != 16 || b[0] != 11 || !bytes.Equal(b[1:12], p) {
		t.Errorf("a resume is %x", b)
	}
}

func TestReply(t *testing.T) {
	for _, r := range replies() {
		b, e := net.Reply(r)
		if e != api.OK || !bytes.Equal(b, framed(replyPayload(r))) {
			t.Errorf("Reply(%s) = %x, %v", short(r), b, e)
		}
		if got, e := net.ReadReply(b); got != r || e != api.OK {
			t.Errorf("ReadReply of %s: %s, %v", short(r), short(got), e)
		}
		if got, e := net.ReadAsk(b); got != (api.Request{}) || e != api.ErrForm {
			t.Errorf("ReadAsk of %s: %s, %v", short(r), short(got), e)
		}
	}
	b, _ := net.Reply(api.Reply{ID: "q1", Status: api.RepFailed, Why: 150})
	if p := []byte("\x02\x02\x00\x96\x01\x02q1\x00"); len(b) != 14 || b[0] != 9 || !bytes.Equal(b[1:10], p) {
		t.Errorf("a failed one is %x", b)
	}
}

// TestAskRefuses: requests that may not be, and the messages that they would have.
func TestAskRefuses(t *testing.T) {
	long := strings.Repeat("x", 1201)
	for what, r := range map[string]api.Request{
		"the zero one":             {},
		"no name":                  {Kind: api.AskRun, Text: "1"},
		"a long name":              {ID: "abcdefghi", Kind: api.AskRun},
		"a wrong name":             {ID: "a-b", Kind: api.AskRun},
		"a blank in the name":      {ID: "a b", Kind: api.AskResume, Session: 1},
		"no kind":                  {ID: "a"},
		"another kind":             {ID: "a", Kind: 3},
		"another kind, a session":  {ID: "a", Kind: 3, Session: 1},
		"a great kind":             {ID: "a", Kind: 257},
		"a huge kind":              {ID: "a", Kind: math.MaxInt},
		"a kind below 0":           {ID: "a", Kind: -1},
		"run with a session":       {ID: "a", Kind: api.AskRun, Session: 1},
		"run with one below 0":     {ID: "a", Kind: api.AskRun, Session: -1},
		"run with a long text":     {ID: "a", Kind: api.AskRun, Text: long},
		"resume without session":   {ID: "a", Kind: api.AskResume, Text: "1"},
		"resume beyond":            {ID: "a", Kind: api.AskResume, Session: 10000},
		"resume far beyond":        {ID: "a", Kind: api.AskResume, Session: math.MaxInt},
		"resume below 0":           {ID: "a", Kind: api.AskResume, Session: -1},
		"resume far below 0":       {ID: "a", Kind: api.AskResume, Session: math.MinInt},
		"resume with a long text":  {ID: "a", Kind: api.AskResume, Session: 1, Text: long},
		"resume with a huge text":  {ID: "a", Kind: api.AskResume, Session: 1, Text: strings.Repeat("x", 1<<17)},
		"run with text and no one": {Kind: api.AskRun, Text: long},
	} {
		if b, e := net.Ask(r); len(b) > 0 || e != api.ErrArg {
			t.Errorf("%s: Ask = %x, %v", what, b, e)
		}
		if r.Kind < 0 || r.Session < 0 {
			continue
		}
		if got, e := net.ReadAsk(framed(askPayload(r))); got != (api.Request{}) || e != api.ErrForm {
			t.Errorf("%s: ReadAsk = %s, %v", what, short(got), e)
		}
	}
}

func TestReplyRefuses(t *testing.T) {
	long := strings.Repeat("x", 1001)
	for what, r := range map[string]api.Reply{
		"the zero one":               {},
		"no name":                    {Status: api.RepDone, Text: "1"},
		"a long name":                {ID: "abcdefghi", Status: api.RepDone},
		"a wrong name":               {ID: "a.b", Status: api.RepFailed, Why: 1},
		"no status":                  {ID: "a"},
		"another status":             {ID: "a", Status: 4},
		"another status, all else":   {ID: "a", Status: 4, Session: 1},
		"a status below 0":           {ID: "a", Status: -1},
		"a huge status":              {ID: "a", Status: math.MaxInt},
		"done with a session":        {ID: "a", Status: api.RepDone, Session: 1},
		"done with one below 0":      {ID: "a", Status: api.RepDone, Session: -1},
		"done with a why":            {ID: "a", Status: api.RepDone, Why: 1},
		"done with one below 0, too": {ID: "a", Status: api.RepDone, Why: -1},
		"done with a long text":      {ID: "a", Status: api.RepDone, Text: long},
		"failed without why":         {ID: "a", Status: api.RepFailed},
		"failed, a great why":        {ID: "a", Status: api.RepFailed, Why: 1000},
		"failed, a huge why":         {ID: "a", Status: api.RepFailed, Why: math.MaxInt},
		"failed, a why below 0":      {ID: "a", Status: api.RepFailed, Why: -1},
		"failed with a session":      {ID: "a", Status: api.RepFailed, Why: 1, Session: 1},
		"failed with a text":         {ID: "a", Status: api.RepFailed, Why: 1, Text: "x"},
		"failed with a long text":    {ID: "a", Status: api.RepFailed, Why: 1, Text: long},
		"session without one":        {ID: "a", Status: api.RepSession},
		"session beyond":             {ID: "a", Status: api.RepSession, Session: 10000},
		"session below 0":            {ID: "a", Status: api.RepSession, Session: math.MinInt},
		"session with a why":         {ID: "a", Status: api.RepSession, Session: 1, Why: 1},
		"session with a long text":   {ID: "a", Status: api.RepSession, Session: 1, Text: long},
	} {
		if b, e := net.Reply(r); len(b) > 0 || e != api.ErrArg {
			t.Errorf("%s: Reply = %x, %v", what, b, e)
		}
		if r.Status < 0 || r.Session < 0 || r.Why < 0 {
			continue
		}
		if got, e := net.ReadReply(framed(replyPayload(r))); got != (api.Reply{}) || e != api.ErrForm {
			t.Errorf("%s: ReadReply = %s, %v", what, short(got), e)
		}
	}
}

func noMessage(t *testing.T, what string, b []byte) {
	t.Helper()
	if r, e := net.ReadAsk(b); r != (api.Request{}) || e != api.ErrForm {
		t.Errorf("%s: ReadAsk = %s, %v", what, short(r), e)
	}
	if r, e := net.ReadReply(b); r != (api.Reply{}) || e != api.ErrForm {
		t.Errorf("%s: ReadReply = %s, %v", what, short(r), e)
	}
}

// messages is the payloads of all that may be.
func messages() [][]byte {
	var l [][]byte
	for _, r := range asks() {
		l = append(l, askPayload(r))
	}
	for _, r := range replies() {
		l = append(l, replyPayload(r))
	}
	return l
}

// TestNotJustTheMessage: cut, turned, longer, or with parts in other forms.
func TestNotJustTheMessage(t *testing.T) {
	noMessage(t, "nil", nil)
	noMessage(t, "a frame of nothing", framed(nil))
	for _, p := range messages() {
		b := framed(p)
		for i := range b {
			noMessage(t, "cut", b[:i])
			if i > 0 {
				noMessage(t, "without its beginning", b[i:])
			}
			turned := bytes.Clone(b)
			turned[i] ^= 1 << (i % 8)
			noMessage(t, "turned", turned)
		}
		for i := range p {
			noMessage(t, "cut within the frame", framed(p[:i]))
		}
		noMessage(t, "a byte behind the frame", append(bytes.Clone(b), 0))
		noMessage(t, "twice", append(bytes.Clone(b), b...))
		noMessage(t, "a byte behind the parts", framed(append(bytes.Clone(p), 0)))
		noMessage(t, "without a frame", p)
		noMessage(t, "a frame in a frame", framed(b))
		for _, m := range []byte{0, 3, 129, 130, 255, p[0] ^ 3} {
			other := bytes.Clone(p)
			other[0] = m
			noMessage(t, "another mark", framed(other))
		}
		long := append([]byte{p[0], p[1] | 0x80, 0}, p[2:]...)
		noMessage(t, "a kind that is not the shortest form", framed(long))
	}
	run := askPayload(api.Request{ID: "a", Kind: api.AskRun, Text: "1"})
	b := framed(run)
	noMessage(t, "a length that is not the shortest form", append([]byte{b[0] | 0x80, 0}, b[1:]...))
	noMessage(t, "a mark of two bytes", framed(append([]byte{0x81, 0}, run[1:]...)))
	huge := binary.AppendUvarint([]byte{1}, math.MaxInt)
	noMessage(t, "a huge kind alone", framed(huge))
	noMessage(t, "a number of ten bytes", framed(binary.AppendUvarint([]byte{1}, math.MaxUint64)))
	noMessage(t, "a text that is longer than all", framed(append(payload(1, []int{1, 0}, "a"), 200, 1, 'x')))
	noMessage(t, "a text of a huge length", framed(binary.AppendUvarint(payload(1, []int{1, 0}, "a"), math.MaxInt)))
	noMessage(t, "a huge frame", framed(make([]byte, api.MaxFrame)))
	noMessage(t, "a frame that is too long", framed(make([]byte, api.MaxFrame+1)))
	noMessage(t, "many noughts", make([]byte, 1<<20))
}

// TestAnyRequests: those that the words allow are written as a second maker writes them, and read again; all others are refused, written or read.
func TestAnyRequests(t *testing.T) {
	random := rand.New(rand.NewSource(1))
	met := [2]int{}
	for range 20000 {
		r := api.Request{
			ID:      someID(random),
			Kind:    pick(random, 1, 2, 1, 2, 1, 2, 0, 3),
			Session: pick(random, 0, 0, 0, 1, 77, 9999, 10000),
			Text:    noise(random, pick(random, 0, 1, 50, 1199, 1200, 1201)),
		}
		may := net.IsID(r.ID) && len(r.Text) <= 1200 && (r.Kind == 1 && r.Session == 0 || r.Kind == 2 && 1 <= r.Session && r.Session <= 9999)
		b, e := net.Ask(r)
		made := framed(askPayload(r))
		got, f := net.ReadAsk(made)
		if may {
			met[1]++
			if e != api.OK || !bytes.Equal(b, made) || f != api.OK || got != r {
				t.Fatalf("%s: %v, %v", short(r), e, f)
			}
			continue
		}
		met[0]++
		if len(b) > 0 || e != api.ErrArg || f != api.ErrForm || got != (api.Request{}) {
			t.Fatalf("%s: %v, %v", short(r), e, f)
		}
	}
	if min(met[0], met[1]) < 2000 {
		t.Errorf("%d may not be, %d may be", met[0], met[1])
	}
}

func TestAnyReplies(t *testing.T) {
	random := rand.New(rand.NewSource(2))
	met := [2]int{}
	for range 20000 {
		r := api.Reply{
			ID:      someID(random),
			Status:  pick(random, 1, 2, 3, 1, 2, 3, 0, 4),
			Session: pick(random, 0, 0, 0, 1, 77, 9999, 10000),
			Why:     pick(random, 0, 0, 0, 1, 150, 999, 1000),
			Text:    noise(random, pick(random, 0, 0, 1, 50, 1000, 1001)),
		}
		may := net.IsID(r.ID) && len(r.Text) <= 1000
		switch {
		case r.Status == 1:
			may = may && r.Session == 0 && r.Why == 0
		case r.Status == 2:
			may = may && r.Session == 0 && 1 <= r.Why && r.Why <= 999 && r.Text == ""
		case r.Status == 3:
			may = may && 1 <= r.Session && r.Session <= 9999 && r.Why == 0
		default:
			may = false
		}
		b, e := net.Reply(r)
		made := framed(replyPayload(r))
		got, f := net.ReadReply(made)
		if may {
			met[1]++
			if e != api.OK || !bytes.Equal(b, made) || f != api.OK || got != r {
				t.Fatalf("%s: %v, %v", short(r), e, f)
			}
			continue
		}
		met[0]++
		if len(b) > 0 || e != api.ErrArg || f != api.ErrForm || got != (api.Reply{}) {
			t.Fatalf("%s: %v, %v", short(r), e, f)
		}
	}
	if min(met[0], met[1]) < 1000 {
		t.Errorf("%d may not be, %d may be", met[0], met[1])
	}
}

// TestAnyBytes: what is read, made again, is the bytes that were read, whatever they are.
func TestAnyBytes(t *testing.T) {
	random := rand.New(rand.NewSource(3))
	all := messages()
	read := 0
	for range 60000 {
		p := bytes.Clone(all[random.Intn(len(all))])
		for range random.Intn(3) {
			i := random.Intn(len(p))
			switch random.Intn(4) {
			case 0:
				p = append(p[:i], p[i+1:]...)
			case 1:
				p = append(p[:i], append([]byte{byte(random.Intn(256))}, p[i:]...)...)
			default:
				p[min(i, random.Intn(12))%len(p)] = byte(pick(random, 0, 1, 2, 3, 8, 'a', 128, 129, 255))
			}
			if len(p) == 0 {
				p = []byte{1}
			}
		}
		b := framed(p)
		if r, e := net.ReadAsk(b); e == api.OK {
			read++
			if again, e := net.Ask(r); e != api.OK || !bytes.Equal(again, b) {
				t.Fatalf("%x is read as %s, which is %x, %v", b, short(r), again, e)
			}
		} else if e != api.ErrForm || r != (api.Request{}) {
			t.Fatalf("%x: ReadAsk = %s, %v", b, short(r), e)
		}
		if r, e := net.ReadReply(b); e == api.OK {
			read++
			if again, e := net.Reply(r); e != api.OK || !bytes.Equal(again, b) {
				t.Fatalf("%x is read as %s, which is %x, %v", b, short(r), again, e)
			}
		} else if e != api.ErrForm || r != (api.Reply{}) {
			t.Fatalf("%x: ReadReply = %s, %v", b, short(r), e)
		}
	}
	if read < 20000 {
		t.Errorf("only %d were read", read)
	}
}

func TestMessagesOfRequestsAreNewMemory(t *testing.T) {
	r := asks()[1]
	a, _ := net.Ask(r)
	b, _ := net.Ask(r)
	given := roomy(b)
	all := bytes.Clone(given[:cap(given)])
	spoil(a)
	if got, e := net.ReadAsk(given); got != r || e != api.OK || !bytes.Equal(given[:cap(given)], all) {
		t.Errorf("ReadAsk: %v, %v, or what it was given has changed", got, e)
	}
	got, _ := net.ReadAsk(given)
	spoil(given)
	if got != r {
		t.Error("a request shares memory with its message")
	}
	p := replies()[1]
	a, _ = net.Reply(p)
	b, _ = net.Reply(p)
	spoil(a)
	back, e := net.ReadReply(b)
	spoil(b)
	if back != p || e != api.OK {
		t.Errorf("ReadReply: %v, %v", back, e)
	}
}
