package desk

import (
	"strconv"
	"strings"

	"rostrum/api"
	"rostrum/disk"
	"rostrum/net"
	"rostrum/server"
)

const mostDigits = 9 // of a number in a script

// command reads what stands behind its name, the blank included: false, if that is not as said.
type command func(behind string) (deed, bool)

// commands is all of them, by their names.
func commands() map[string]command {
	return map[string]command{
		"make":     numbers(2, func(n []int) deed { return making(n[0], n[1]) }),
		"run":      running,
		"resume":   resuming,
		"raw":      raw,
		"lose":     numbers(1, func(n []int) deed { return step("ok", api.Step{Kind: api.StepDrop, N: n[0]}) }),
		"twice":    numbers(1, func(n []int) deed { return step("ok", api.Step{Kind: api.StepTwice, N: n[0]}) }),
		"give":     numbers(1, func(n []int) deed { return step("ok", api.Step{Kind: api.StepDeliver, N: n[0]}) }),
		"go":       numbers(2, func(n []int) deed { return step("ok", api.Step{Kind: api.StepRun, N: n[0], M: n[1]}) }),
		"collect":  numbers(1, func(n []int) deed { return step("ok", api.Step{Kind: api.StepCollect, N: n[0]}) }),
		"flush":    alone(step("ok", api.Step{Kind: api.StepFlush})),
		"check":    alone(step("ok", api.Step{Kind: api.StepCheck})),
		"crash":    numbers(1, func(n []int) deed { return step("crashed", api.Step{Kind: api.StepCrash, Mask: uint64(n[0])}) }),
		"all":      all,
		"roots":    alone(served(tellRoots)),
		"sessions": alone(served(tellSessions)),
		"busy":     alone(served(tellBusy)),
	}
}

// cut is so many words at most, of which the last one is all that is left. (A blank with nothing behind it has an empty word there.)
func cut(behind string, most int) []string { return strings.SplitN(behind, " ", most+1)[1:] }

// alone is a command without words.
func alone(do deed) command {
	return func(behind string) (deed, bool) { return do, behind == "" }
}

// numbers is a command of so many numbers.
func numbers(count int, do func(n []int) deed) command {
	return func(behind string) (deed, bool) {
		words := cut(behind, count)
		if len(words) != count {
			return nil, false
		}
		l := make([]int, count)
		for i, w := range words {
			n, ok := number(w)
			if !ok {
				return nil, false
			}
			l[i] = n
		}
		return do(l), true
	}
}

// number is what a word says that is written as numbers are.
func number(w string) (int, bool) {
	if len(w) > mostDigits {
		return 0, false
	}
	n, err := strconv.Atoi(w)
	if err != nil || n < 0 || strconv.Itoa(n) != w {
		return 0, false
	}
	return n, true
}

// making has the server that was stay, unless there is a new one.
func making(sectors, workers int) deed {
	return func(d *desk) (string, api.Errno) {
		s, e := newServer(sectors, workers)
		if e != api.OK {
			return tellError(e), api.OK
		}
		d.server = s
		return "made", api.OK
	}
}

func newServer(sectors, workers int) (*server.Server, api.Errno) {
	d, e := disk.New(sectors)
	if e != api.OK {
		return nil, e
	}
	return server.New(d, workers)
}

func running(behind string) (deed, bool) {
	words := cut(behind, 2)
	if len(words) != 2 {
		return nil, false
	}
	return asking(api.Request{ID: words[0], Kind: api.AskRun, Text: words[1]})
}

func resuming(behind string) (deed, bool) {
	words := cut(behind, 3)
	if len(words) != 3 {
		return nil, false
	}
	n, ok := number(words[1])
	if !ok {
		return nil, false
	}
	return asking(api.Request{ID: words[0], Kind: api.AskResume, Session: n, Text: words[2]})
}

// asking sends a request, if it may be.
func asking(r api.Request) (deed, bool) {
	b, e := net.Ask(r)
	return sending(b), e == api.OK
}

func sending(b []byte) deed { return step("sent", api.Step{Kind: api.StepSend, Bytes: b}) }

func raw(behind string) (deed, bool) {
	words := cut(behind, 1)
	if len(words) != 1 {
		return nil, false
	}
	b, ok := unhex(words[0])
	return sending(b), ok
}

// unhex is the bytes that a word has two small digits for each of.
func unhex(w string) ([]byte, bool) {
	if len(w)%2 != 0 {
		return nil, false
	}
	b := make([]byte, len(w)/2)
	for i := range b {
		high := strings.IndexByte(hexDigits, w[2*i])
		low := strings.IndexByte(hexDigits, w[2*i+1])
		if high < 0 || low < 0 {
			return nil, false
		}
		b[i] = byte(high<<4 | low)
	}
	return b, true
}

// step is a server's: its error, the reply that was sent in it, or else what its command answers.
func step(told string, x api.Step) deed {
	return served(func(s *server.Server) string {
		r, sent, e := s.Do(x)
		if e != api.OK {
			return tellError(e)
		}
		if sent {
			return tellReply(r)
		}
		return told
	})
}
