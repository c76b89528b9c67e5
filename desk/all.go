package desk

import (
	"rostrum/api"
	"rostrum/net"
	"rostrum/server"
)

const (
	mostRounds = 60
	roundFuel  = 1000
)

// all is the command that goes on with one request until it is answered.
func all(behind string) (deed, bool) {
	words := cut(behind, 1)
	if len(words) != 1 || !net.IsID(words[0]) {
		return nil, false
	}
	return served(follow(words[0])), true
}

// follow gives and goes on, round by round: the reply to a request, or none.
func follow(id string) func(s *server.Server) string {
	return func(s *server.Server) string {
		f := follower{s, id}
		for range mostRounds {
			if r, ok := f.gives(); ok {
				return tellReply(r)
			}
			if r, ok := f.goesOn(); ok {
				return tellReply(r)
			}
		}
		return "none"
	}
}

// follower has a server do what gets a request on.
type follower struct {
	server *server.Server
	id     string
}

// gives delivers each message that asks for the request.
func (f follower) gives() (api.Reply, bool) {
	at := 0 // of those that are given only the ones that stay are counted
	for _, b := range f.server.Queue() {
		if !f.isAskedBy(b) {
			at++
			continue
		}
		r, answered, e := f.do(api.Step{Kind: api.StepDeliver, N: at})
		if answered {
			return r, true
		}
		if e != api.OK {
			at++
		}
	}
	return api.Reply{}, false
}

func (f follower) isAskedBy(b []byte) bool {
	r, e := net.ReadAsk(b)
	return e == api.OK && r.ID == f.id
}

// goesOn has each worker go on.
func (f follower) goesOn() (api.Reply, bool) {
	for i := range f.server.Busy() {
		if r, answered, _ := f.do(api.Step{Kind: api.StepRun, N: i, M: roundFuel}); answered {
			return r, true
		}
	}
	return api.Reply{}, false
}

// do does a step, and tells whether the request was answered in it.
func (f follower) do(x api.Step) (api.Reply, bool, api.Errno) {
	r, sent, e := f.server.Do(x)
	return r, sent && r.ID == f.id, e
}
