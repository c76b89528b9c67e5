package audit_test

import (
	"bytes"
	"fmt"
	"math/rand"
	"slices"
	"testing"

	"rostrum/api"
	"rostrum/aries"
	"rostrum/audit"
	"rostrum/code"
	"rostrum/datum"
	"rostrum/desk"
	"rostrum/disk"
	"rostrum/heap"
	"rostrum/log"
	"rostrum/net"
	"rostrum/page"
	"rostrum/serial"
	"rostrum/server"
	"rostrum/session"
	"rostrum/store"
	"rostrum/vm"
	"rostrum/wire"
)

// P6, P7 and P9 of the document.

const logs = 300 // sectors of a server's log

// wantLogAhead: of each page that was written, durable or not, the log has the last record, and that is durable.
func wantLogAhead(t *testing.T, d *disk.Disk, logs int) {
	t.Helper()
	image := d.Image()
	c, e := disk.Of(image[:logs])
	want(t, "disk.Of", e, api.OK)
	l, _, e := log.Open(c, 0, logs)
	want(t, "log.Open", e, api.OK)
	look := func(sector int, b []byte) {
		lsn, _, e := page.Decode(b)
		if e != api.OK || lsn > l.Last() {
			t.Fatalf("page %d: record %d, %v; the log has those up to %d", sector-logs, lsn, e, l.Last())
		}
	}
	for i, b := range image[logs:] {
		look(logs+i, b)
	}
	for _, w := range d.Pending() {
		if w.Sector >= logs {
			look(w.Sector, w.Bytes)
		}
	}
}

// TestTheLogAhead: within transactions too, of which none is committed yet, over so few buffers that pages must go.
func TestTheLogAhead(t *testing.T) {
	const logs, pages = 200, 20
	written := 0
	for seed := range int64(10) {
		random := rand.New(rand.NewSource(seed))
		d, e := disk.New(logs + pages)
		want(t, "disk.New", e, api.OK)
		m, e := aries.Open(d, logs, pages, 1+random.Intn(4))
		want(t, "aries.Open", e, api.OK)
		for range 200 {
			tx, e := m.Begin()
			if e == api.OK {
				for range random.Intn(10) {
					m.Write(tx, random.Intn(pages), random.Intn(api.Load), []byte{byte(random.Intn(256))})
					wantLogAhead(t, d, logs)
				}
			}
			for _, tx := range m.Active() {
				if n := random.Intn(4); n == 0 {
					m.Commit(tx)
				} else if n == 1 {
					m.Abort(tx)
				}
				wantLogAhead(t, d, logs)
			}
			if random.Intn(10) == 0 {
				m.Checkpoint()
				wantLogAhead(t, d, logs)
			}
			written += len(d.Pending())
		}
	}
	if written < 100 {
		t.Errorf("only %d writes were pending", written)
	}
}

// TestTheLogAheadOfAServer: at each step of a life.
func TestTheLogAheadOfAServer(t *testing.T) {
	for seed := range int64(4) {
		x := newLife(t, seed, 900, map[string]int{})
		for range 500 {
			x.step(true)
			wantLogAhead(t, x.s.Disk(), logs)
		}
	}
}

// turned is bytes of which some are others, or which are longer or shorter.
func turned(random *rand.Rand, b []byte) []byte {
	b = slices.Clone(b)
	for range 1 + random.Intn(3) {
		switch n := random.Intn(4); {
		case n == 0 || len(b) == 0:
			b = slices.Insert(b, random.Intn(len(b)+1), byte(random.Intn(256)))
		case n == 1:
			b = slices.Delete(b, len(b)-1, len(b))
		default:
			b[random.Intn(len(b))] ^= 1 << random.Intn(8)
		}
	}
	return b
}

// TestAnyMessage: what is no request is refused, and nothing has happened.
func TestAnyMessage(t *testing.T) {
	random := rand.New(rand.NewSource(1))
	for range 200 {
		good, e := net.Ask(someRequest(random, "a"))
		want(t, "net.Ask", e, api.OK)
		b := turned(random, good)
		if bytes.Equal(b, good) {
			continue
		}
		l, err := desk.Run(fmt.Sprintf("make 400 1\nraw %x\ngive 0\ngive 0\nbusy\nroots\nsessions\nall a", b))
		if err != nil || !slices.Equal(l, []string{"made", "sent", "error 5", "error 190", "busy -", "roots", "sessions", "none"}) {
			t.Fatalf("%x: %q, %v", b, l, err)
		}
	}
}

// TestAnyDisk: a server comes up or not; if not, the disk is as it was.
func TestAnyDisk(t *testing.T) {
	random := rand.New(rand.NewSource(1))
	x := newLife(t, 2, 400, map[string]int{})
	for range 300 {
		x.step(false)
	}
	image := x.s.Disk().Image()
	up := 0
	for range 200 {
		l := slices.Clone(image)
		for range 1 + random.Intn(3) {
			at := []int{random.Intn(40), logs + random.Intn(100)}[random.Intn(2)]
			l[at] = slices.Clone(l[at])
			l[at][random.Intn(api.Size)] ^= 1 << random.Intn(8)
			if random.Intn(3) == 0 {
				l[at] = l[random.Intn(len(l))]
			}
		}
		d, e := disk.Of(l)
		want(t, "disk.Of", e, api.OK)
		s, e := server.New(d, 2)
		if e != api.OK {
			if s != nil || len(d.Pending()) > 0 || !slices.EqualFunc(d.Image(), l, bytes.Equal) {
				t.Fatalf("%v, and the disk is another one", e)
			}
			continue
		}
		up++
		y := &life{t: t, random: random, s: s, asked: map[string]api.Request{}, met: map[string]int{}}
		for range 60 {
			y.step(true)
		}
	}
	if up < 20 || up > 180 {
		t.Errorf("%d of 200 came up", up)
	}
}

// TestAnyCode: what is taken may be run, and comes to something.
func TestAnyCode(t *testing.T) {
	random := rand.New(rand.NewSource(1))
	taken := 0
	for i := range 4000 {
		c, err := code.Source(meanings()[i%len(meanings())].text)
		if err != nil {
			t.Fatal(err)
		}
		b, e := code.Encode(c)
		want(t, "code.Encode", e, api.OK)
		b = turned(random, b)
		c, e = code.Decode(b)
		if e != api.OK {
			continue
		}
		taken++
		m, e := vm.New(c, 500, 5000)
		if e == api.OK {
			m.Run(2000, nil)
			m.Value()
		}
		if again, e := code.Encode(c); e != api.OK || !bytes.Equal(again, b) {
			t.Fatalf("%x was taken, and is %x, %v", b, again, e)
		}
	}
	if taken < 100 {
		t.Errorf("only %d were taken", taken)
	}
}

// resummed is a session's bytes with parts turned, their sum being right.
func resummed(t *testing.T, random *rand.Rand, b []byte) []byte {
	t.Helper()
	r := wire.Over(b)
	program, e := r.Text(len(b))
	want(t, "Text", e, api.OK)
	words, e := r.Text(len(b))
	want(t, "Text", e, api.OK)
	if random.Intn(2) == 0 {
		program = string(turned(random, []byte(program)))
	} else {
		p := turned(random, []byte(words)[:len(words)-4])
		sum := wire.Sum(p)
		words = string(append(p, byte(sum), byte(sum>>8), byte(sum>>16), byte(sum>>24)))
	}
	return wire.Text(wire.Text(nil, program), words)
}

// TestAnySession: whatever bytes a session has, a request that resumes it is answered; if it failed, nothing else has changed.
func TestAnySession(t *testing.T) {
	random := rand.New(rand.NewSource(1))
	texts := []string{
		"(define (f n) (if (= n 0) (suspend 1) (+ 1 (f (- n 1))))) (root-set! 'x (f 3))",
		"(dynamic-wind (lambda () (root-set! 'x 1)) (lambda () (car (suspend 2))) (lambda () (root-set! 'x 3)))",
		"(define k #f) (call/cc (lambda (c) (set! k c))) (root-set! 'x (list k (suspend 3)))",
	}
	met := map[int]int{}
	for i := range 600 {
		c, err := code.Source(texts[i%len(texts)])
		if err != nil {
			t.Fatal(err)
		}
		m, e := vm.New(c, young, old)
		want(t, "vm.New", e, api.OK)
		m.Run(1000, world{})
		b, e := m.Save()
		want(t, "Save", e, api.OK)
		if random.Intn(3) > 0 {
			b = resummed(t, random, b)
		} else {
			b = turned(random, b)
		}
		x := withSession(t, b)
		r, ok := x.asks(resuming("r", 1, "(5)"), false)
		if !ok {
			t.Fatalf("%x: no answer", b)
		}
		met[r.Status]++
		if r.Status == api.RepFailed {
			x.wantState(audit.New(), 1)
		}
		if again, ok := x.asks(resuming("r", 1, "(5)"), true); !ok || again != r {
			t.Fatalf("%v, and then %v", r, again)
		}
	}
	if met[api.RepFailed] < 100 || met[api.RepDone] < 5 {
		t.Errorf("met were %v", met)
	}
}

// world has no roots, and takes any.
type world struct{}

func (world) Get(string) ([]byte, api.Errno) { return nil, api.OK }
func (world) Put(string, []byte) api.Errno   { return api.OK }

// withSession is a server whose store has a session of these bytes.
func withSession(t *testing.T, b []byte) *life {
	t.Helper()
	d, e := disk.New(500)
	want(t, "disk.New", e, api.OK)
	s, e := store.Open(d, logs, 500-logs)
	want(t, "store.Open", e, api.OK)
	l, e := session.Pack(1, b)
	want(t, "Pack", e, api.OK)
	c, e := session.Count(2)
	want(t, "Count", e, api.OK)
	want(t, "Batch", s.Batch(append(l, c)), api.OK)
	want(t, "Flush", d.Flush(), api.OK)
	return comeUp(t, d.Image())
}

// TestThereAndBack: requests, replies, data, programs, values and sessions as bytes or text, and back.
func TestThereAndBack(t *testing.T) {
	random := rand.New(rand.NewSource(1))
	m := audit.New()
	for i := range 150 {
		r := someRequest(random, fmt.Sprint("q", i))
		b, e := net.Ask(r)
		want(t, "net.Ask", e, api.OK)
		if got, e := net.ReadAsk(b); got != r || e != api.OK {
			t.Fatalf("%v: %v, %v", r, got, e)
		}
		p, e := m.Do(r)
		want(t, "Do", e, api.OK)
		b, e = net.Reply(p)
		want(t, "net.Reply", e, api.OK)
		if got, e := net.ReadReply(b); got != p || e != api.OK {
			t.Fatalf("%v: %v, %v", p, got, e)
		}
		programThereAndBack(t, r.Text)
	}
	if len(m.Roots()) < 5 || m.Sessions() < 3 {
		t.Fatalf("roots %v, %d sessions", m.Roots(), m.Sessions())
	}
	for _, x := range m.Roots() {
		valueThereAndBack(t, x.Bytes)
	}
	for _, x := range meanings() {
		programThereAndBack(t, x.text)
	}
}

// programThereAndBack: as data, and as code.
func programThereAndBack(t *testing.T, text string) {
	t.Helper()
	l, err := datum.Read(text)
	if err != nil {
		return
	}
	for _, d := range l {
		back, err := datum.Read(datum.Print(d))
		if err != nil || len(back) != 1 || !datum.Same(back[0], d) || datum.Print(back[0]) != datum.Print(d) {
			t.Fatalf("%s: %v, %v", datum.Print(d), back, err)
		}
	}
	c, err := code.Source(text)
	if err != nil {
		return
	}
	b, e := code.Encode(c)
	want(t, "code.Encode", e, api.OK)
	back, e := code.Decode(b)
	want(t, "code.Decode", e, api.OK)
	if again, e := code.Encode(back); e != api.OK || !bytes.Equal(again, b) || code.Hash(back) != code.Hash(c) {
		t.Fatalf("%s: %x, and then %x, %v", text, b, again, e)
	}
}

// valueThereAndBack: a root's bytes as a word of a heap, and as bytes again.
func valueThereAndBack(t *testing.T, b []byte) {
	t.Helper()
	for _, size := range []int{1500, 9000} {
		h, e := heap.New(size, 9000)
		want(t, "heap.New", e, api.OK)
		w, e := serial.Decode(h, b)
		want(t, "serial.Decode", e, api.OK)
		if again, e := serial.Encode(h, w); e != api.OK || !bytes.Equal(again, b) {
			t.Fatalf("%x, and then %x, %v", b, again, e)
		}
	}
}
