package server_test

import (
	"fmt"
	"maps"
	"math/rand"
	"slices"
	"testing"

	"rostrum/api"
	"rostrum/disk"
	"rostrum/net"
	"rostrum/server"
)

// P22.3: P1, P2, P4, P5, P7, P8 of the document.

func programs() []string {
	return []string{
		"(root-set! 'a (+ 1 (if (root-ref 'a) (root-ref 'a) 0)))",
		"(root-set! 'b (+ 1 (if (root-ref 'b) (root-ref 'b) 0))) (root-ref 'b)",
		"(define n (root-ref 'a)) (root-set! 'a (root-ref 'b)) (root-set! 'b n) n",
		"(list (root-ref 'a) (root-ref 'b) (root-ref 'c))",
		"(root-set! 'c (list (root-ref 'a) (root-ref 'b)))",
		"(root-set! 'c 'blind)",
		"(root-set! 'c (suspend (root-ref 'a))) (suspend (root-ref 'c))",
		"(define x (root-ref 'a)) (root-set! 'a (+ (suspend x) (if x x 0)))",
		"(root-set! 'a 1000) (car (root-ref 'c))",
		"(define (f) (f)) (if (root-ref 'a) (f) 5)",
		"(root-set! 'd (make-vector 200 (root-ref 'a)))",
		"(dynamic-wind (lambda () (root-set! 'e 1)) (lambda () (suspend 2)) (lambda () (root-set! 'e 3)))",
		"(f", "(if)", "(error \"no\")",
	}
}

// life is a server, and what it must be: messages, what the workers work on, which replies are kept.
type life struct {
	*place
	random  *rand.Rand
	model   *model
	asked   map[string]api.Request
	kept    map[string]api.Reply
	queue   [][]byte
	busy    []string
	journal []api.Entry
	met     map[string]int
}

func newLife(t *testing.T, seed int64, met map[string]int) *life {
	t.Helper()
	random := rand.New(rand.NewSource(seed))
	workers := 1 + random.Intn(api.MaxWorkers)
	p := onDisk(t, newDisk(t, []int{600, 1200}[random.Intn(2)]), workers)
	return &life{
		place: p, random: random, model: newModel(t), met: met,
		asked: map[string]api.Request{}, kept: map[string]api.Reply{}, busy: make([]string, workers),
	}
}

// someRequest is a new one, or one that was asked already, perhaps told otherwise.
func (x *life) someRequest() api.Request {
	id := fmt.Sprint("q", x.random.Intn(60))
	if r, ok := x.asked[id]; ok {
		return r
	}
	l := programs()
	r := running(id, l[x.random.Intn(len(l))])
	if x.random.Intn(4) == 0 {
		r = resuming(id, 1+x.random.Intn(12), fmt.Sprint(x.random.Intn(100)))
	}
	x.asked[id] = r
	return r
}

func (x *life) someMessage() []byte {
	b := message(x.t, x.someRequest())
	switch x.random.Intn(12) {
	case 0:
		b[x.random.Intn(len(b))] ^= 1 << x.random.Intn(8)
	case 1:
		b = b[:x.random.Intn(len(b))]
	}
	return b
}

func (x *life) someStep() api.Step {
	s := api.Step{N: x.random.Intn(6) - 1, M: []int{0, 5, 50, most}[x.random.Intn(4)], Mask: x.random.Uint64()}
	kinds := []int{api.StepSend, api.StepSend, api.StepDeliver, api.StepDeliver, api.StepDeliver}
	for range 14 {
		kinds = append(kinds, api.StepRun)
	}
	switch n := x.random.Intn(60); {
	case n == 0:
		s.Kind = api.StepCrash
	case n <= 8:
		s.Kind = []int{api.StepDrop, api.StepTwice, api.StepCollect, api.StepCollect, api.StepFlush, api.StepCheck, 0, api.NumSteps}[n-1]
	default:
		s.Kind = kinds[x.random.Intn(len(kinds))]
	}
	if s.Kind == api.StepSend {
		s.Bytes = x.someMessage()
	}
	return s
}

// take is the message at a place, which is gone.
func (x *life) take(i int) []byte {
	b := x.queue[i]
	x.queue = slices.Delete(slices.Clone(x.queue), i, i+1)
	return b
}

// expected is what a step that is no StepRun answers, and does.
func (x *life) expected(s api.Step) (api.Reply, bool, api.Errno) {
	here := s.N >= 0 && s.N < len(x.queue)
	switch s.Kind {
	case api.StepSend:
		if len(x.queue) == api.MaxQueue {
			return api.Reply{}, false, api.ErrFull
		}
		x.queue = append(x.queue, s.Bytes)
	case api.StepDrop, api.StepTwice, api.StepDeliver:
		if !here {
			return api.Reply{}, false, api.ErrNet
		}
		return x.expectedOf(s)
	case api.StepCollect:
		return api.Reply{}, false, x.expectedAt(s.N)
	case api.StepFlush, api.StepCheck:
	case api.StepCrash:
		clear(x.busy)
		x.journal = append(x.journal, api.Entry{Kind: api.LogCrash})
	default:
		return api.Reply{}, false, api.ErrArg
	}
	return api.Reply{}, false, api.OK
}

func (x *life) expectedAt(worker int) api.Errno {
	if worker < 0 || worker >= len(x.busy) {
		return api.ErrArg
	}
	if x.busy[worker] == "" {
		return api.ErrBusy
	}
	return api.OK
}

// expectedOf is that of a step with a message.
func (x *life) expectedOf(s api.Step) (api.Reply, bool, api.Errno) {
	if s.Kind == api.StepTwice {
		if len(x.queue) == api.MaxQueue {
			return api.Reply{}, false, api.ErrFull
		}
		x.queue = append(x.queue, x.queue[s.N])
		return api.Reply{}, false, api.OK
	}
	r, e := net.ReadAsk(x.queue[s.N])
	reply, answered := x.kept[r.ID]
	free := slices.Index(x.busy, "")
	switch {
	case s.Kind == api.StepDrop:
		e = api.OK
	case e != api.OK:
	case answered:
		x.take(s.N)
		x.journal = append(x.journal, entry(api.LogSent, reply))
		return reply, true, api.OK
	case slices.Contains(x.busy, r.ID):
	case free < 0:
		return api.Reply{}, false, api.ErrBusy
	default:
		x.busy[free] = r.ID
	}
	x.take(s.N)
	return api.Reply{}, false, e
}

// runs does a StepRun: if it sends a reply, that is the model's, or one that changed nothing.
func (x *life) runs(s api.Step) {
	x.t.Helper()
	r, ok, e := x.s.Do(s)
	if why := x.expectedAt(s.N); why != e || ok && e != api.OK {
		x.t.Fatalf("worker %d of %q: %v, want %v", s.N, x.busy, e, why)
	}
	if !ok {
		if r != (api.Reply{}) {
			x.t.Fatalf("%v, that was not sent", r)
		}
		return
	}
	id := x.busy[s.N]
	x.busy[s.N] = ""
	switch api.Errno(r.Why) {
	case api.ErrClash, api.ErrFull:
		if r != failedWith(id, api.Errno(r.Why)) {
			x.t.Fatalf("%v of %s", r, id)
		}
	default:
		if want := x.model.do(x.asked[id]); r != want {
			x.t.Fatalf("%v: %v, want %v", x.asked[id], r, want)
		}
	}
	x.met[fmt.Sprint("reply ", r.Status, " ", r.Why)]++
	x.kept[id] = r
	x.journal = append(x.journal, entry(api.LogDone, r), entry(api.LogSent, r))
}

func (x *life) step(s api.Step) {
	x.t.Helper()
	if s.Kind == api.StepCrash && len(x.d.Pending()) > 0 {
		x.met["crash with pending writes"]++
	}
	if s.Kind == api.StepRun {
		x.runs(s)
	} else {
		r, ok, e := x.expected(s)
		if s.Kind == api.StepDeliver {
			x.met[fmt.Sprint("deliver ", ok, " ", int(e))]++
		}
		got, sent, why := x.s.Do(s)
		if got != r || sent != ok || why != e {
			x.t.Fatalf("%v: %v, %v, %v; want %v, %v, %v", s, got, sent, why, r, ok, e)
		}
	}
	x.met[fmt.Sprint("step ", s.Kind)]++
	x.look()
}

// look holds all that the server tells against what it must be.
func (x *life) look() {
	x.t.Helper()
	x.wantQueue("by chance", x.queue...)
	x.wantBusy("by chance", x.busy...)
	x.wantJournal("by chance", x.journal...)
	x.wantMemory("by chance", x.model.roots)
	if n := len(x.s.Sessions()); n != len(x.model.sessions) {
		x.t.Errorf("%d sessions, want %d", n, len(x.model.sessions))
	}
	if x.t.Failed() {
		x.t.FailNow()
	}
}

// drain has each request that was asked be delivered again until it is answered (P8).
func (x *life) drain() {
	x.t.Helper()
	for len(x.queue) > 0 {
		x.step(drop(0))
	}
	for i := range x.busy {
		for n := 0; x.busy[i] != ""; n++ {
			if n > 200 {
				x.t.Fatalf("%s does not end", x.busy[i])
			}
			x.step(run(i, 1000))
		}
	}
	for _, id := range slices.Sorted(maps.Keys(x.asked)) {
		x.step(send(message(x.t, x.asked[id])))
		x.step(deliver(0))
		for n := 0; n < 30 && slices.Contains(x.busy, id); n++ {
			x.step(run(0, 1000))
		}
		if _, ok := x.kept[id]; !ok {
			x.t.Fatalf("%s is not answered", id)
		}
	}
}

// once: no request was done twice (P5), and all that was sent was done ahead.
func (x *life) once() {
	x.t.Helper()
	done := map[string]api.Reply{}
	for _, e := range x.s.Journal() {
		r, ok := done[e.ID]
		switch e.Kind {
		case api.LogDone:
			if ok {
				x.t.Errorf("%s was done twice", e.ID)
			}
			done[e.ID] = e.Reply
		case api.LogSent:
			if !ok || r != e.Reply {
				x.t.Errorf("%v was sent, and %v done", e.Reply, r)
			}
		}
	}
}

func TestAnyLife(t *testing.T) {
	met := map[string]int{}
	for seed := range int64(60) {
		x := newLife(t, seed, met)
		for range 700 {
			x.step(x.someStep())
		}
		x.drain()
		x.once()
		x.step(crash(x.random.Uint64()))
	}
	for _, what := range []string{
		"step 0", "step 1", "step 2", "step 3", "step 4", "step 5", "step 6", "step 7", "step 8", "step 9", "step 10",
		"deliver true 0", "deliver false 0", "deliver false 5", "deliver false 190", "deliver false 210",
		"reply 1 0", "reply 3 0", "reply 2 100", "reply 2 110", "reply 2 150", "reply 2 153", "reply 2 172", "reply 2 180", "reply 2 200",
		"crash with pending writes",
	} {
		if met[what] < 5 {
			t.Errorf("%q is met %d times", what, met[what])
		}
	}
}

// TestTheSameScript: two servers answer the same, and leave the same disks.
func TestTheSameScript(t *testing.T) {
	for seed := range int64(5) {
		x := newLife(t, seed, map[string]int{})
		other := onDisk(t, newDisk(t, x.d.Sectors()), len(x.busy))
		for range 400 {
			s := x.someStep()
			r, ok, e := x.s.Do(s)
			if got, sent, why := other.s.Do(s); got != r || sent != ok || why != e {
				t.Fatalf("%v: %v, %v, %v and %v, %v, %v", s, r, ok, e, got, sent, why)
			}
		}
		if !same(x.d, other.d) || !slices.Equal(x.s.Journal(), other.s.Journal()) {
			t.Error("two runs part")
		}
	}
}

// TestAnyMessage: bytes by chance change nothing, and are gone (P7).
func TestAnyMessage(t *testing.T) {
	random := rand.New(rand.NewSource(1))
	p := newPlace(t, 1)
	was := p.d.Copy()
	for range 3000 {
		b := make([]byte, random.Intn(60))
		random.Read(b)
		p.does("send", send(b))
		p.refuses("deliver", deliver(0), api.ErrForm)
	}
	p.wantJournal("wrong bytes")
	p.wantBusy("wrong bytes", "")
	if !same(p.d, was) {
		t.Error("the disk is another one")
	}
}

// TestAnyDisk: whatever bytes a disk has, New ends: with an error, which leaves the disk as it was, or with a server that goes on (P7).
func TestAnyDisk(t *testing.T) {
	random := rand.New(rand.NewSource(1))
	x := newLife(t, 3, map[string]int{})
	for range 500 {
		x.step(x.someStep())
	}
	image := x.d.Image()
	up, down := 0, 0
	for range 400 {
		d, e := disk.Of(image)
		want(t, "disk.Of", e, api.OK)
		for range 1 + random.Intn(3) {
			spoil(t, random, d)
		}
		was := d.Copy()
		s, e := server.New(d, 2)
		if e != api.OK {
			if down++; s != nil || !same(d, was) {
				t.Fatalf("New: %v, and a server %v", e, s != nil)
			}
			continue
		}
		up++
		p := &place{t, d, s}
		y := &life{place: p, random: random, asked: map[string]api.Request{}}
		for range 60 {
			p.s.Do(y.someStep())
			p.s.Roots()
			p.s.Sessions()
		}
	}
	if up < 40 || down < 40 {
		t.Errorf("%d came up, %d did not", up, down)
	}
}

// spoil turns bytes of a sector, or has it be another one's.
func spoil(t *testing.T, random *rand.Rand, d *disk.Disk) {
	t.Helper()
	at := []int{random.Intn(60), logs + random.Intn(8), logs + random.Intn(100)}[random.Intn(3)]
	b, e := d.Read(at)
	want(t, "Read", e, api.OK)
	switch random.Intn(3) {
	case 0:
		b[random.Intn(len(b))] ^= 1 << random.Intn(8)
	case 1:
		b = make([]byte, api.Size)
	case 2:
		b, _ = d.Read(logs + random.Intn(100))
	}
	want(t, "Write", d.Write(at, b), api.OK)
}
