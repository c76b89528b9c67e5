package work_test

import (
	"fmt"
	"maps"
	"math/rand"
	"testing"

	"rostrum/api"
	"rostrum/session"
	"rostrum/vm"
	"rostrum/work"
)

// P21.4

func TestItEnds(t *testing.T) {
	for _, text := range []string{"", "1", "(define (f) (f)) (f)", "(define (f) (root-set! 'x 1) (f)) (f)", "(suspend 1)", "(car 5)", ")"} {
		for _, n := range []int{1, 3, 1000} {
			p := newPlace(t)
			j := p.run(text)
			steps := 0
			for ; j.Phase() < 4 && steps <= fuel+3; steps++ {
				want(t, "Go", j.Go(n), api.OK)
			}
			if j.Phase() != 4 || steps > (fuel+n-1)/n+3 {
				t.Errorf("%s by %d: phase %d behind %d steps", text, n, j.Phase(), steps)
			}
			r, ok := j.Reply()
			if !ok {
				t.Errorf("%s: no reply", text)
			}
			p.wantKept(text, r)
		}
	}
}

// TestItEndsThoughItClashes: at most 1 + Retries times all that it does.
func TestItEndsThoughItClashes(t *testing.T) {
	p := newPlace(t)
	j := p.run("(root-ref 'x) (define (f) (f)) (f)")
	steps := 0
	for ; j.Phase() < 4 && steps < 1000; steps++ {
		if j.Phase() > 0 {
			p.publishes("x", "1")
		}
		want(t, "Go", j.Go(1000), api.OK)
	}
	if most := (1+api.Retries)*(20+2) + 3; steps != most {
		t.Errorf("%d steps, want %d", steps, most)
	}
	r, _ := j.Reply()
	p.wantReply("clashing for ever", r, failedWith("q", api.ErrClash))
}

// TestSuspendedEveryTime: a session that is resumed and suspended again and again.
func TestSuspendedEveryTime(t *testing.T) {
	p := newPlace(t)
	p.wantReply("at first", p.asks(running("a", "(define (f n) (f (+ n (suspend n)))) (f 0)")), suspendedWith("a", 1, "0"))
	sum := 0
	for i := 1; i <= 20; i++ {
		sum += i
		id := fmt.Sprint("r", i)
		p.wantReply(id, p.asks(resuming(id, i, fmt.Sprint(i))), suspendedWith(id, i+1, fmt.Sprint(sum)))
	}
}

// model is what requests mean, one behind the other.
type model struct {
	t        *testing.T
	roots    memory
	sessions [][]byte
}

func (m *model) do(r api.Request) api.Reply {
	m.t.Helper()
	if r.Kind == api.AskRun {
		return m.came(r.ID, freshMachine(m.t, r.Text))
	}
	if r.Session > len(m.sessions) {
		return failedWith(r.ID, api.ErrSession)
	}
	return m.came(r.ID, resumedMachine(m.t, m.sessions[r.Session-1], r.Text))
}

// came is the reply of a machine that runs over the roots.
func (m *model) came(id string, x *vm.Machine) api.Reply {
	m.t.Helper()
	env := maps.Clone(m.roots)
	switch x.Run(fuel, env) {
	case api.Done:
		m.roots = env
		return doneWith(id, x.Value())
	case api.Suspended:
		b, e := x.Save()
		want(m.t, "Save", e, api.OK)
		m.roots, m.sessions = env, append(m.sessions, b)
		return suspendedWith(id, len(m.sessions), x.Value())
	case api.Failed:
		return failedWith(id, x.Why())
	}
	return failedWith(id, api.ErrFuel)
}

func programs() []string {
	return []string{
		"(root-set! 'a (+ 1 (if (root-ref 'a) (root-ref 'a) 0)))",
		"(root-set! 'b (+ 1 (if (root-ref 'b) (root-ref 'b) 0))) (root-ref 'b)",
		"(define n (root-ref 'a)) (root-set! 'a (root-ref 'b)) (root-set! 'b n) n",
		"(list (root-ref 'a) (root-ref 'b) (root-ref 'c))",
		"(root-set! 'c (list (root-ref 'a) (root-ref 'b)))",
		"(root-set! 'c 'blind)",
		"(root-set! 'c (suspend (root-ref 'a))) (suspend (root-ref 'c))",
		"(define x (root-ref 'a)) (root-set! 'a (+ (suspend x) (if x x 0)))",
		"(root-set! 'a 1000) (car (root-ref 'c))",
		"(define (f) (f)) (if (root-ref 'a) (f) 5)",
		"(define (f n) (if (= n 0) (root-ref 'a) (begin (root-set! 'a n) (f (- n 1))))) (f 9)",
	}
}

func anyRequest(random *rand.Rand, id string) api.Request {
	if random.Intn(4) == 0 {
		return resuming(id, 1+random.Intn(8), fmt.Sprint(random.Intn(100)))
	}
	l := programs()
	return running(id, l[random.Intn(len(l))])
}

// TestOneBehindTheOther: whatever jobs go on at the same time, their replies, roots and sessions are those of the model that does them in the order in which they were done. (P21.5: and each is kept.)
func TestOneBehindTheOther(t *testing.T) {
	met := map[string]int{}
	for seed := range int64(40) {
		random := rand.New(rand.NewSource(seed))
		p := newPlace(t)
		m := &model{t: t, roots: memory{}}
		var jobs [4]*work.Job
		for i := range 600 {
			j := &jobs[random.Intn(len(jobs))]
			if *j == nil {
				*j = p.start(anyRequest(random, fmt.Sprint(i)))
				continue
			}
			switch random.Intn(40) {
			case 0:
				want(t, "Stop", (*j).Stop(), api.OK)
				met["stopped"]++
			case 1:
				want(t, "Collect", (*j).Collect(), api.OK)
			default:
				want(t, "Go", (*j).Go([]int{3, 30, most}[random.Intn(3)]), api.OK)
			}
			if (*j).Phase() < 4 {
				continue
			}
			if r, ok := (*j).Reply(); ok {
				met[fmt.Sprint(r.Status, " ", r.Why)]++
				if r.Why != int(api.ErrClash) {
					p.wantReply("by chance", r, m.do((*j).Request()))
				}
				p.wantKept("by chance", r)
			}
			*j = nil
			p.wantRoots("by chance", p.sp.Clock(), m.roots)
			if l, e := session.List(p.st); e != api.OK || len(l) != len(m.sessions) {
				t.Fatalf("%d sessions, %v; want %d", len(l), e, len(m.sessions))
			}
			if t.Failed() {
				t.FailNow()
			}
		}
	}
	for _, what := range []string{"stopped", "1 0", "3 0", "2 150", "2 172", "2 180", "2 200"} {
		if met[what] < 5 {
			t.Errorf("%q is met %d times", what, met[what])
		}
	}
}
