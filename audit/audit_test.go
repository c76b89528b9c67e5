package audit_test

import (
	"fmt"
	"math/rand"
	"slices"
	"testing"

	"rostrum/api"
	"rostrum/audit"
)

// P24.2

// asks is requests in which each leans on those ahead, and their replies.
func asks() ([]api.Request, []api.Reply) {
	return []api.Request{
		running("a", "(root-set! 'x 1)"),
		running("b", "(root-set! 'x (+ 1 (root-ref 'x))) (root-ref 'x)"),
		running("c", "(root-set! 'x 50) (car 5)"),
		running("d", "(list (suspend (root-ref 'x)) (root-ref 'x))"),
		running("e", "(root-set! 'x 9)"),
		resuming("f", 1, "z"),
		resuming("g", 2, "z"),
	}, []api.Reply{
		doneWith("a", "#!void"),
		doneWith("b", "2"),
		failedWith("c", api.ErrType),
		suspendedWith("d", 1, "2"),
		doneWith("e", "#!void"),
		doneWith("f", "(z 9)"),
		failedWith("g", api.ErrSession),
	}
}

// journal is what a server writes that does them in this order.
func journal(replies ...api.Reply) []api.Entry {
	var l []api.Entry
	for _, r := range replies {
		l = append(l, done(r), sent(r))
	}
	return l
}

func wantExplained(t *testing.T, what string, asked []api.Request, l []api.Entry) {
	t.Helper()
	if i, e := audit.Explain(asked, l); i != 0 || e != api.OK {
		t.Errorf("%s: %d, %v", what, i, e)
	}
}

func wantUnexplained(t *testing.T, what string, asked []api.Request, l []api.Entry, at int) {
	t.Helper()
	if i, e := audit.Explain(asked, l); i != at || e != api.ErrAudit {
		t.Errorf("%s: %d, %v; want it at %d", what, i, e, at)
	}
}

func TestExplain(t *testing.T) {
	asked, replies := asks()
	wantExplained(t, "nothing", nil, nil)
	wantExplained(t, "nothing done", asked, nil)
	wantExplained(t, "all", asked, journal(replies...))
	back := slices.Clone(asked)
	slices.Reverse(back)
	wantExplained(t, "asked in another order", back, journal(replies...))
	for i := range replies {
		wantExplained(t, "some", asked, journal(replies[:i]...))
	}
	wantUnexplained(t, "nothing was asked", nil, journal(replies...), 0)
}

// TestExplainFindsTheFirst: each reply that is told otherwise is found, at its place in the whole list.
func TestExplainFindsTheFirst(t *testing.T) {
	asked, replies := asks()
	for i := range replies {
		for what, turn := range map[string]func(r *api.Reply){
			"another text":    func(r *api.Reply) { r.Text += "1" },
			"another status":  func(r *api.Reply) { r.Status++ },
			"another why":     func(r *api.Reply) { r.Why++ },
			"another session": func(r *api.Reply) { r.Session++ },
			"another name":    func(r *api.Reply) { r.ID += "1" },
			"none":            func(r *api.Reply) { *r = api.Reply{} },
		} {
			l := journal(replies...)
			turn(&l[2*i].Reply)
			wantUnexplained(t, what, asked, l, 2*i)
			l[len(l)-2].Reply = api.Reply{}
			wantUnexplained(t, what+", and so is the last one", asked, l, 2*i)
			l = append([]api.Entry{crashed(), crashed(), crashed()}, l...)
			wantUnexplained(t, what+", behind crashes", asked, l, 2*i+3)
		}
		l := journal(replies...)
		l[2*i].ID = "z"
		wantUnexplained(t, "a request that nobody asked for", asked, l, 2*i)
		l[2*i].ID = ""
		wantUnexplained(t, "no name", asked, l, 2*i)
	}
}

// TestExplainsCommittedAlone: what was sent, or crashed, or is none of a journal's kinds plays no part.
func TestExplainsCommittedAlone(t *testing.T) {
	asked, replies := asks()
	l := journal(replies...)
	for i := range l {
		if l[i].Kind == api.LogSent {
			l[i].ID, l[i].Reply = "nobody", doneWith("else", "9")
		}
	}
	for _, kind := range []int{0, -1, 4, api.LogSent, api.LogCrash} {
		l = append(l, api.Entry{Kind: kind, ID: "a", Reply: doneWith("a", "wrong")})
	}
	wantExplained(t, "other kinds", asked, l)
	wantUnexplained(t, "one more that is done", asked, append(l, done(doneWith("a", "wrong"))), len(l))
}

// TestOrder: the order in which they were committed is what counts.
func TestOrder(t *testing.T) {
	asked := []api.Request{running("a", "(root-set! 'x 1)"), running("b", "(root-ref 'x)")}
	void, one, none := doneWith("a", "#!void"), doneWith("b", "1"), doneWith("b", "#f")
	wantExplained(t, "a, b", asked, journal(void, one))
	wantExplained(t, "b, a", asked, journal(none, void))
	wantUnexplained(t, "b, a", asked, journal(one, void), 0)
	wantUnexplained(t, "a, b", asked, journal(void, none), 2)
}

// TestFirstOfName: of requests of one name the first one was asked.
func TestFirstOfName(t *testing.T) {
	asked := []api.Request{running("b", "9"), running("a", "1"), running("a", "2"), {ID: "a"}}
	wantExplained(t, "the first one", asked, journal(doneWith("a", "1")))
	wantUnexplained(t, "the second one", asked, journal(doneWith("a", "2")), 0)
	asked = []api.Request{{ID: "a"}, running("a", "1")}
	wantUnexplained(t, "the first one may not be", asked, journal(doneWith("a", "1")), 0)
	wantUnexplained(t, "the first one may not be, so it has no reply", asked, []api.Entry{{Kind: api.LogDone, ID: "a"}}, 0)
}

// TestPassedBy: what clashed, or had no room, changed nothing, and is not even looked at.
func TestPassedBy(t *testing.T) {
	asked, replies := asks()
	for _, why := range []api.Errno{api.ErrClash, api.ErrFull} {
		for i := range replies {
			l := journal(replies...)
			l = slices.Insert(l, 2*i, done(failedWith("e", why)), done(failedWith("nobody", why)))
			wantExplained(t, "passed by", asked, l)
		}
		l := journal(doneWith("a", "#!void"), failedWith("b", why), suspendedWith("d", 1, "1"), failedWith("d", why), doneWith("f", "(z 1)"))
		wantExplained(t, "it changed nothing", asked, l)
	}
	for _, why := range []api.Errno{api.ErrMemory, api.ErrFuel, api.ErrSession, api.ErrType} {
		wantUnexplained(t, "another error", asked, journal(failedWith("a", why)), 0)
	}
}

// TestExplainLeavesThem: what is handed in stays as it was, and is asked again with the same answer.
func TestExplainLeavesThem(t *testing.T) {
	asked, replies := asks()
	l := journal(replies...)
	l = slices.Grow(l, 4)
	l[:len(l)+1][len(l)] = crashed()
	a, b := slices.Clone(asked), slices.Clone(l[:len(l)+1])
	for range 3 {
		wantExplained(t, "again", asked, l)
		want(t, "Once", audit.Once(l), api.OK)
	}
	if !slices.Equal(a, asked) || !slices.Equal(b, l[:len(l)+1]) {
		t.Error("they are others")
	}
}

// P24.3

func TestOnce(t *testing.T) {
	a, b, other := doneWith("a", "1"), failedWith("b", api.ErrType), doneWith("a", "2")
	full, clash := failedWith("a", api.ErrFull), failedWith("a", api.ErrClash)
	for _, x := range []struct {
		what string
		l    []api.Entry
		why  api.Errno
	}{
		{"nothing", nil, api.OK},
		{"a crash", []api.Entry{crashed(), crashed()}, api.OK},
		{"done", []api.Entry{done(a)}, api.OK},
		{"done and sent", []api.Entry{done(a), sent(a)}, api.OK},
		{"sent often", []api.Entry{done(a), sent(a), done(b), sent(a), sent(b), crashed(), sent(a), sent(b)}, api.OK},
		{"two done", []api.Entry{done(a), done(b)}, api.OK},
		{"done twice", []api.Entry{done(a), done(a)}, api.ErrAudit},
		{"done twice, otherwise", []api.Entry{done(a), done(b), sent(b), done(other)}, api.ErrAudit},
		{"done twice, behind a crash", []api.Entry{done(a), sent(a), crashed(), done(a), sent(a)}, api.ErrAudit},
		{"done twice, without room", []api.Entry{done(full), done(full)}, api.ErrAudit},
		{"done twice, clashing", []api.Entry{done(clash), done(clash)}, api.ErrAudit},
		{"sent alone", []api.Entry{sent(a)}, api.ErrAudit},
		{"sent ahead", []api.Entry{sent(a), done(a)}, api.ErrAudit},
		{"sent otherwise", []api.Entry{done(a), sent(other)}, api.ErrAudit},
		{"sent otherwise behind that", []api.Entry{done(a), sent(a), sent(other)}, api.ErrAudit},
		{"another one's is done", []api.Entry{done(b), sent(a)}, api.ErrAudit},
		{"another one's reply", []api.Entry{done(a), done(b), {Kind: api.LogSent, ID: "b", Reply: a}}, api.ErrAudit},
		{"another name", []api.Entry{done(a), {Kind: api.LogSent, ID: "b", Reply: a}}, api.ErrAudit},
		{"no room", []api.Entry{sent(full)}, api.OK},
		{"no room, and done", []api.Entry{done(full), sent(full)}, api.OK},
		{"no room, though it was done otherwise", []api.Entry{done(a), sent(full)}, api.OK},
		{"clashed and not done", []api.Entry{sent(clash)}, api.ErrAudit},
		{"clashed and done", []api.Entry{done(clash), sent(clash)}, api.OK},
		{"no room, and then done", []api.Entry{sent(full), done(a), sent(a)}, api.OK},
		{"other kinds", []api.Entry{{Kind: 0, ID: "a", Reply: a}, {Kind: 4, ID: "a", Reply: a}, {Kind: -1, ID: "a", Reply: a}, {Kind: api.LogCrash, ID: "a", Reply: a}, done(a)}, api.OK},
		{"done in another kind", []api.Entry{{Kind: 0, ID: "a", Reply: a}, sent(a)}, api.ErrAudit},
		{"names that can't be", []api.Entry{{Kind: api.LogDone}, {Kind: api.LogSent}}, api.OK},
		{"names that can't be, twice", []api.Entry{{Kind: api.LogDone}, {Kind: api.LogDone}}, api.ErrAudit},
		{"by the entry's name, not by the reply's", []api.Entry{done(a), {Kind: api.LogDone, ID: "c", Reply: a}}, api.OK},
	} {
		if e := audit.Once(x.l); e != x.why {
			t.Errorf("%s: %v, want %v", x.what, e, x.why)
		}
	}
}

// TestOnceLooksAtAllParts: a reply that differs in any field is another one.
func TestOnceLooksAtAllParts(t *testing.T) {
	r := suspendedWith("a", 1, "5")
	for i, x := range []api.Reply{
		suspendedWith("a", 2, "5"), suspendedWith("a", 1, "6"), suspendedWith("b", 1, "5"),
		{ID: "a", Status: api.RepDone, Session: 1, Text: "5"}, {ID: "a", Status: api.RepSession, Session: 1, Text: "5", Why: 1},
	} {
		if e := audit.Once([]api.Entry{done(r), {Kind: api.LogSent, ID: "a", Reply: x}}); e != api.ErrAudit {
			t.Errorf("%d: %v", i, e)
		}
	}
}

// P24.4

// TestBeginnings: of a journal that is explained each beginning is; of one that is not, each up to the place that is told.
func TestBeginnings(t *testing.T) {
	for seed := range int64(10) {
		random := rand.New(rand.NewSource(seed))
		asked, l := someJournal(t, random)
		for i := range l {
			wantExplained(t, fmt.Sprint("seed ", seed), asked, l[:i])
		}
		wantExplained(t, "all", asked, l)
		want(t, "Once", audit.Once(l), api.OK)
		at := random.Intn(len(l))
		if r := &l[at].Reply; l[at].Kind == api.LogDone && r.Why != int(api.ErrClash) && r.Why != int(api.ErrFull) {
			r.Text += "?"
			wantUnexplained(t, "turned", asked, l, at)
			wantExplained(t, "ahead of it", asked, l[:at])
			wantUnexplained(t, "up to it", asked, l[:at+1], at)
		}
	}
}

// someJournal is one that a model's replies are in.
func someJournal(t *testing.T, random *rand.Rand) ([]api.Request, []api.Entry) {
	t.Helper()
	m := audit.New()
	var asked []api.Request
	var l []api.Entry
	for i := range 30 {
		r := someRequest(random, fmt.Sprint("q", i))
		asked = append(asked, r)
		switch random.Intn(8) {
		case 0:
			l = append(l, crashed())
			continue
		case 1:
			l = append(l, done(failedWith(r.ID, api.ErrClash)), sent(failedWith(r.ID, api.ErrClash)))
			continue
		case 2:
			l = append(l, sent(failedWith(r.ID, api.ErrFull)))
			continue
		}
		p, e := m.Do(r)
		want(t, "Do", e, api.OK)
		l = append(l, done(p), sent(p))
	}
	random.Shuffle(len(asked), func(i, j int) { asked[i], asked[j] = asked[j], asked[i] })
	return asked, l
}

// TestAnyJournal: whatever is handed in, an answer is told.
func TestAnyJournal(t *testing.T) {
	random := rand.New(rand.NewSource(1))
	for range 300 {
		asked, l := make([]api.Request, random.Intn(5)), make([]api.Entry, random.Intn(6))
		for i := range asked {
			asked[i] = api.Request{ID: string(rune('a' + random.Intn(4))), Kind: random.Intn(4), Session: random.Intn(3) - 1, Text: "5"}
		}
		for i := range l {
			id := string(rune('a' + random.Intn(4)))
			l[i] = api.Entry{Kind: random.Intn(5), ID: id, Reply: api.Reply{ID: id, Status: random.Intn(5), Why: random.Intn(3) * 4, Text: "5"}}
		}
		i, e := audit.Explain(asked, l)
		if e == api.ErrAudit && (i < 0 || i >= len(l) || l[i].Kind != api.LogDone) || e == api.OK && i != 0 || e != api.OK && e != api.ErrAudit {
			t.Fatalf("%v, %v: %d, %v", asked, l, i, e)
		}
		if e := audit.Once(l); e != api.OK && e != api.ErrAudit {
			t.Fatalf("%v: %v", l, e)
		}
	}
}
