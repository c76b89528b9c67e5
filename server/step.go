package server

import (
	"slices"

	"rostrum/api"
	"rostrum/net"
	"rostrum/session"
	"rostrum/work"
)

const maskBits = 64

// answer is what a step tells: the reply that was sent in it, if there is one.
type answer struct {
	reply api.Reply
	sent  bool
}

// kind is how a step is done.
type kind struct {
	do    func(s *Server, x api.Step) (answer, api.Errno)
	wakes bool // it can be done by a server that did not come up
}

// kinds is all of them, by their numbers.
func kinds() [api.NumSteps]kind {
	return [api.NumSteps]kind{
		api.StepSend:    {do: (*Server).send},
		api.StepDrop:    {do: (*Server).drop},
		api.StepTwice:   {do: (*Server).twice},
		api.StepDeliver: {do: (*Server).deliver},
		api.StepRun:     {do: (*Server).run},
		api.StepCollect: {do: (*Server).collect},
		api.StepFlush:   {do: (*Server).flush},
		api.StepCheck:   {do: (*Server).checkpoint},
		api.StepCrash:   {do: (*Server).crash, wakes: true},
	}
}

// kindOf is that of a number; of another one it is one that can't be done.
func kindOf(n int) kind {
	all := kinds()
	if n < 0 || n >= len(all) {
		return kind{}
	}
	return all[n]
}

// Do does a step: the reply that was sent in it, if there is one.
func (s *Server) Do(x api.Step) (api.Reply, bool, api.Errno) {
	if s.missing() {
		return api.Reply{}, false, api.ErrNil
	}
	k := kindOf(x.Kind)
	if s.isDown() && !k.wakes {
		return api.Reply{}, false, api.ErrState
	}
	if k.do == nil {
		return api.Reply{}, false, api.ErrArg
	}
	a, e := k.do(s, x)
	return a.reply, a.sent, e
}

func (s *Server) send(x api.Step) (answer, api.Errno) { return answer{}, s.net.Send(x.Bytes) }

func (s *Server) drop(x api.Step) (answer, api.Errno) { return answer{}, s.net.Drop(x.N) }

func (s *Server) twice(x api.Step) (answer, api.Errno) { return answer{}, s.net.Twice(x.N) }

// deliver takes a message off its way, unless all workers have other work.
func (s *Server) deliver(x api.Step) (answer, api.Errno) {
	b, e := s.net.Look(x.N)
	if e != api.OK {
		return answer{}, e
	}
	a, e := s.hand(b)
	if e != api.ErrBusy {
		s.net.Drop(x.N)
	}
	return a, e
}

// hand answers a message by the reply that is kept, or gives it to a worker, if none works on it already.
func (s *Server) hand(b []byte) (answer, api.Errno) {
	r, e := net.ReadAsk(b)
	if e != api.OK {
		return answer{}, e
	}
	if p, kept := s.kept(r.ID); kept {
		return s.reply(p), api.OK
	}
	if slices.Contains(s.Busy(), r.ID) {
		return answer{}, api.OK
	}
	i := slices.IndexFunc(s.workers, worker.isFree)
	if i < 0 {
		return answer{}, api.ErrBusy
	}
	j, e := work.Start(s.space, s.store, r)
	s.workers[i] = worker{j}
	return answer{}, e
}

// kept is the reply that the store has of a request. One that it can't tell is none.
func (s *Server) kept(id string) (api.Reply, bool) {
	r, there, _ := session.Cached(s.store, id)
	return r, there
}

// reply sends one.
func (s *Server) reply(r api.Reply) answer {
	s.write(api.LogSent, r)
	return answer{r, true}
}

// write puts what was done with a reply into the journal.
func (s *Server) write(what int, r api.Reply) {
	s.journal = append(s.journal, api.Entry{Kind: what, ID: r.ID, Reply: r})
}

// at is the worker of a number, which must have a job.
func (s *Server) at(n int) (*worker, api.Errno) {
	if n < 0 || n >= len(s.workers) {
		return nil, api.ErrArg
	}
	if s.workers[n].isFree() {
		return nil, api.ErrBusy
	}
	return &s.workers[n], api.OK
}

func (s *Server) run(x api.Step) (answer, api.Errno) {
	w, e := s.at(x.N)
	if e != api.OK {
		return answer{}, e
	}
	e = w.Go(x.M)
	r, done := w.Reply()
	if !done {
		return answer{}, e
	}
	*w = worker{}
	if p, kept := s.kept(r.ID); kept && p == r {
		s.write(api.LogDone, r)
	}
	return s.reply(r), e
}

func (s *Server) collect(x api.Step) (answer, api.Errno) {
	w, e := s.at(x.N)
	if e != api.OK {
		return answer{}, e
	}
	return answer{}, w.Collect()
}

func (s *Server) flush(api.Step) (answer, api.Errno) { return answer{}, s.disk.Flush() }

func (s *Server) checkpoint(api.Step) (answer, api.Errno) { return answer{}, s.store.Checkpoint() }

// crash loses all but the disk, of which it loses what is not durable, and the net; and comes up again.
func (s *Server) crash(x api.Step) (answer, api.Errno) {
	s.disk.Crash(places(x.Mask, len(s.disk.Pending())))
	clear(s.workers)
	s.opened = opened{}
	s.journal = append(s.journal, api.Entry{Kind: api.LogCrash})
	return answer{}, s.comeUp()
}

// places is those of a mask's bits, as far as there are so many writes.
func places(mask uint64, writes int) []int {
	var l []int
	for i := range min(writes, maskBits) {
		if mask>>i&1 == 1 {
			l = append(l, i)
		}
	}
	return l
}
