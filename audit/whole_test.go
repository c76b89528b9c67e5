package audit_test

import (
	"bytes"
	"fmt"
	"maps"
	"math/rand"
	"slices"
	"testing"

	"rostrum/api"
	"rostrum/audit"
	"rostrum/disk"
	"rostrum/net"
	"rostrum/server"
)

// P1, P2, P5, P8 of the document: a server held against the model.

func programs() []string {
	return []string{
		"(root-set! 'a (+ 1 (if (root-ref 'a) (root-ref 'a) 0)))",
		"(root-set! 'b (+ 1 (if (root-ref 'b) (root-ref 'b) 0))) (root-ref 'b)",
		"(define n (root-ref 'a)) (root-set! 'a (root-ref 'b)) (root-set! 'b n) n",
		"(list (root-ref 'a) (root-ref 'b) (root-ref 'c))",
		"(root-set! 'c (list (root-ref 'a) (root-ref 'b)))",
		"(root-set! 'c 'blind)",
		"(root-set! 'c (suspend (root-ref 'a))) (suspend (root-ref 'c))",
		"(define x (root-ref 'a)) (root-set! 'a (+ (suspend x) (if x x 0)))",
		"(root-set! 'a 1000) (car (root-ref 'c))",
		"(define (f) (f)) (if (root-ref 'a) (f) 5)",
		"(define v (make-vector 300 'ab)) (vector-set! v 3 (root-ref 'a)) (root-set! 'd v)",
		"(root-set! 'd (make-vector 900 1000000)) (root-set! 'e 1)",
		"(root-set! 'g (make-vector 700 1))", "(root-set! 'h (make-vector 700 (root-ref 'a)))", "(root-set! 'i (make-vector 700 'c))",
		"(root-set! 'j (root-ref 'g))", "(root-set! 'k (root-ref 'h))", "(root-set! 'l (root-ref 'i))",
		"(dynamic-wind (lambda () (root-set! 'e 1)) (lambda () (suspend 2)) (lambda () (root-set! 'e 3)))",
		"(define k #f) (define n 0) (root-set! 'f (+ 1 (call/cc (lambda (c) (set! k c) 1)))) (set! n (+ n 1)) (if (< n 3) (k (suspend n)) (root-ref 'f))",
		"(f", "(if)", "(error \"no\")", "\"\\\\ \x01\xff\"",
	}
}

func someRequest(random *rand.Rand, id string) api.Request {
	if random.Intn(4) == 0 {
		return resuming(id, 1+random.Intn(12), []string{"7", "(a b)", "1 2", "-3"}[random.Intn(4)])
	}
	l := programs()
	return running(id, l[random.Intn(len(l))])
}

// life is a server, what was asked of it, and what it sent.
type life struct {
	t      *testing.T
	random *rand.Rand
	s      *server.Server
	asked  map[string]api.Request
	sent   []api.Entry
	met    map[string]int
}

func newLife(t *testing.T, seed int64, sectors int, met map[string]int) *life {
	t.Helper()
	random := rand.New(rand.NewSource(seed))
	d, e := disk.New(sectors)
	want(t, "disk.New", e, api.OK)
	s, e := server.New(d, 1+random.Intn(api.MaxWorkers))
	want(t, "server.New", e, api.OK)
	return &life{t: t, random: random, s: s, asked: map[string]api.Request{}, met: met}
}

// request is one that may have been asked already: of one name there is only one.
func (x *life) request() api.Request {
	id := fmt.Sprint("q", x.random.Intn(60))
	if _, there := x.asked[id]; !there {
		x.asked[id] = someRequest(x.random, id)
	}
	return x.asked[id]
}

func (x *life) message() []byte {
	b, e := net.Ask(x.request())
	want(x.t, "net.Ask", e, api.OK)
	switch x.random.Intn(15) {
	case 0:
		b[x.random.Intn(len(b))] ^= 1 << x.random.Intn(8)
	case 1:
		b = b[:x.random.Intn(len(b))]
	}
	return b
}

func (x *life) do(s api.Step) (api.Reply, bool) {
	x.t.Helper()
	r, ok, e := x.s.Do(s)
	if ok {
		x.sent = append(x.sent, sent(r))
		x.met[fmt.Sprint("reply ", r.Status, " ", r.Why)]++
	}
	x.met[fmt.Sprint("step ", s.Kind, " ", int(e))]++
	return r, ok
}

// step is one by chance: mostly a worker goes on.
func (x *life) step(crashes bool) {
	x.t.Helper()
	s := api.Step{Kind: api.StepRun, N: x.random.Intn(len(x.s.Busy())), M: []int{0, 5, 50, 5000}[x.random.Intn(4)], Mask: x.random.Uint64()}
	pending := len(x.s.Disk().Pending()) > 0
	switch n := x.random.Intn(120); {
	case crashes && (n == 0 || pending && n < 30):
		s.Kind = api.StepCrash
		x.met[fmt.Sprint("pending ", pending)]++
	case n <= 6:
		s.Kind = []int{api.StepDrop, api.StepTwice, api.StepCollect, api.StepCollect, api.StepFlush, api.StepCheck, 0}[n]
	case n <= 20:
		s.Kind, s.Bytes = api.StepSend, x.message()
	case n <= 40:
		s.Kind, s.N = api.StepDeliver, x.random.Intn(3)
	}
	x.do(s)
}

// model is one that did the committed requests, in the order in which they were committed.
func (x *life) model() *audit.Model {
	x.t.Helper()
	m := audit.New()
	for _, y := range x.s.Journal() {
		if y.Kind != api.LogDone || y.Reply.Why == int(api.ErrClash) || y.Reply.Why == int(api.ErrFull) {
			continue
		}
		r, there := x.asked[y.ID]
		if p, e := m.Do(r); !there || p != y.Reply || e != api.OK {
			x.t.Fatalf("%v: %v, %v; the journal has %v", r, p, e, y.Reply)
		}
	}
	return m
}

// explained: the journal is that of requests one behind the other, and roots and sessions are theirs.
func (x *life) explained() {
	x.t.Helper()
	l := x.s.Journal()
	asked := slices.Collect(maps.Values(x.asked))
	if i, e := audit.Explain(asked, l); i != 0 || e != api.OK {
		x.t.Fatalf("%v at %d: %v of %v", e, i, l[i], x.asked[l[i].ID])
	}
	want(x.t, "Once", audit.Once(l), api.OK)
	told := slices.DeleteFunc(l, func(y api.Entry) bool { return y.Kind != api.LogSent })
	if !slices.Equal(told, x.sent) {
		x.t.Fatalf("sent were %v, and the journal has %v", x.sent, told)
	}
	m := x.model()
	x.wantState(m, m.Sessions())
}

// wantState: the server has a model's roots, and so many sessions.
func (x *life) wantState(m *audit.Model, sessions int) {
	x.t.Helper()
	same := slices.EqualFunc(m.Roots(), x.s.Roots(), func(a, b api.Slot) bool {
		return a.Name == b.Name && a.Version == b.Version && bytes.Equal(a.Bytes, b.Bytes)
	})
	if !same || len(x.s.Sessions()) != sessions {
		x.t.Fatalf("roots %v, sessions %v; want %v, %d", x.s.Roots(), x.s.Sessions(), m.Roots(), sessions)
	}
}

// drain has each request be delivered again until it is answered, while nobody clashes with it.
func (x *life) drain() {
	x.t.Helper()
	for range x.s.Queue() {
		x.do(api.Step{Kind: api.StepDrop})
	}
	for i := range x.s.Busy() {
		for n := 0; n < 100 && x.s.Busy()[i] != ""; n++ {
			x.do(api.Step{Kind: api.StepRun, N: i, M: 1000})
		}
	}
	for _, id := range slices.Sorted(maps.Keys(x.asked)) {
		x.answered(id)
	}
}

// answered (P8): within a few steps there is a reply.
func (x *life) answered(id string) {
	x.t.Helper()
	b, e := net.Ask(x.asked[id])
	want(x.t, "net.Ask", e, api.OK)
	x.do(api.Step{Kind: api.StepSend, Bytes: b})
	r, ok := x.do(api.Step{Kind: api.StepDeliver})
	for n := 0; !ok && n < 30; n++ {
		r, ok = x.do(api.Step{Kind: api.StepRun, M: 1000})
	}
	if !ok || r.ID != id {
		x.t.Fatalf("%s is not answered: %v, %v", id, r, ok)
	}
}

func wantMet(t *testing.T, met map[string]int, l ...string) {
	t.Helper()
	for _, what := range l {
		if met[what] < 5 {
			t.Errorf("%q was met %d times", what, met[what])
		}
	}
}

// TestOneBehindTheOther is P1 and P8, on disks with little room and with much.
func TestOneBehindTheOther(t *testing.T) {
	met := map[string]int{}
	for seed := range int64(30) {
		x := newLife(t, seed, []int{320, 450, 1200}[seed%3], met)
		for i := range 600 {
			x.step(false)
			if i%50 == 0 {
				x.explained()
			}
		}
		x.drain()
		x.explained()
	}
	wantMet(t, met, "reply 1 0", "reply 3 0", "reply 2 4", "reply 2 100", "reply 2 110", "reply 2 150", "reply 2 153", "reply 2 172", "reply 2 180", "reply 2 200", "step 4 5", "step 4 210")
}

// TestCrashes is P2, P5 and P8: none is lost whose reply was sent, none is half there.
func TestCrashes(t *testing.T) {
	met := map[string]int{}
	for seed := range int64(30) {
		x := newLife(t, 1000+seed, []int{330, 600, 1200}[seed%3], met)
		for i := range 1000 {
			x.step(true)
			if i%50 == 0 {
				x.explained()
			}
		}
		x.drain()
		x.explained()
		x.do(api.Step{Kind: api.StepCrash})
		x.explained()
		x.drain() // all of them are kept: nothing is run again
		x.explained()
	}
	wantMet(t, met, "pending true", "step 9 0", "reply 1 0", "reply 3 0", "reply 2 150", "reply 2 172", "reply 2 180")
}

// TestTornCommit is P2 within a commit's step: of the sectors that it makes durable any may stay. The request is there as a whole, or not at all; either way it is answered once, and the same.
func TestTornCommit(t *testing.T) {
	random := rand.New(rand.NewSource(1))
	met := map[bool]int{}
	for _, last := range []string{"(root-set! 'x 2) (root-set! 'y '(1 2 3)) (root-set! 'z \"abc\")", "(root-set! 'x 3) (suspend 5)"} {
		x := newLife(t, 5, 600, map[string]int{})
		for _, r := range []api.Request{running("a", "(root-set! 'x 1)"), running("b", last)} {
			x.asked[r.ID] = r
		}
		x.answered("a")
		ahead := x.model()
		b, _ := net.Ask(x.asked["b"])
		x.do(api.Step{Kind: api.StepSend, Bytes: b})
		x.do(api.Step{Kind: api.StepDeliver})
		for range 3 {
			x.do(api.Step{Kind: api.StepRun, M: 1000})
		}
		was := x.s.Disk().Image()
		reply, ok := x.do(api.Step{Kind: api.StepRun, M: 1000})
		x.explained()
		if !ok {
			t.Fatal("it is not committed")
		}
		behind := x.model()
		for range 200 {
			image, whole := torn(random, was, x.s.Disk().Image())
			y := comeUp(t, image)
			y.asked = x.asked
			if _, kept := y.asks(x.asked["b"], true); kept {
				met[true]++
				y.wantState(behind, behind.Sessions())
			} else {
				met[false]++
				y.wantState(ahead, ahead.Sessions())
				if whole {
					t.Fatal("all was durable, and it is not there")
				}
			}
			if got, ok := y.asks(x.asked["b"], false); !ok || got != reply {
				t.Fatalf("%v, %v; want %v", got, ok, reply)
			}
			y.wantState(behind, behind.Sessions())
		}
	}
	if met[true] < 10 || met[false] < 10 {
		t.Errorf("it was there %d times, and not %d times", met[true], met[false])
	}
}

// torn is a disk on which some of the sectors that changed are the new ones; and whether all are.
func torn(random *rand.Rand, was, is [][]byte) ([][]byte, bool) {
	image, whole := slices.Clone(was), true
	most := 1 + random.Intn(5)
	for i := range image {
		if bytes.Equal(was[i], is[i]) {
			continue
		}
		if random.Intn(most) > 0 || most == 1 {
			image[i] = is[i]
			continue
		}
		whole = false
	}
	return image, whole
}

func comeUp(t *testing.T, image [][]byte) *life {
	t.Helper()
	d, e := disk.Of(image)
	want(t, "disk.Of", e, api.OK)
	s, e := server.New(d, 1)
	want(t, "server.New", e, api.OK)
	return &life{t: t, s: s, met: map[string]int{}}
}

// asks delivers a request; unless only what is kept is asked for, it is worked on till it is answered.
func (x *life) asks(r api.Request, kept bool) (api.Reply, bool) {
	x.t.Helper()
	b, e := net.Ask(r)
	want(x.t, "net.Ask", e, api.OK)
	x.do(api.Step{Kind: api.StepSend, Bytes: b})
	p, ok := x.do(api.Step{Kind: api.StepDeliver})
	for n := 0; n < 30 && !ok && !kept; n++ {
		p, ok = x.do(api.Step{Kind: api.StepRun, M: 1000})
	}
	return p, ok
}

// TestOnceThoughOften is P5: however often, and whenever, a request is delivered, it is run once.
func TestOnceThoughOften(t *testing.T) {
	replies := 0
	for seed := range int64(20) {
		x := newLife(t, seed, 600, map[string]int{})
		r := running("q", "(root-set! 'n (+ 1 (if (root-ref 'n) (root-ref 'n) 0))) (suspend (root-ref 'n))")
		x.asked["q"] = r
		b, e := net.Ask(r)
		want(t, "net.Ask", e, api.OK)
		for range 150 {
			switch n := x.random.Intn(12); {
			case n < 2:
				x.do(api.Step{Kind: api.StepSend, Bytes: b})
			case n == 2:
				x.do(api.Step{Kind: api.StepTwice})
			case n < 6:
				x.do(api.Step{Kind: api.StepDeliver})
			case n == 6 && x.random.Intn(4) == 0:
				x.do(api.Step{Kind: api.StepCrash, Mask: x.random.Uint64()})
			default:
				x.do(api.Step{Kind: api.StepRun, N: x.random.Intn(4), M: 10})
			}
		}
		x.drain()
		x.explained()
		replies += len(x.sent)
		for _, y := range x.sent {
			if y.Reply != suspendedWith("q", 1, "1") {
				t.Fatalf("%v", y.Reply)
			}
		}
		if l := x.s.Roots(); len(l) != 1 || !bytes.Equal(l[0].Bytes, value(t, "1")) || len(x.s.Sessions()) != 1 {
			t.Errorf("roots %v, sessions %v", l, x.s.Sessions())
		}
	}
	if replies < 200 {
		t.Errorf("only %d replies", replies)
	}
}
