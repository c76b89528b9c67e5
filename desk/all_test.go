package desk_test

import (
	"testing"

	"rostrum/api"
	"rostrum/net"
)

// P23.1: all

func message(t *testing.T, r api.Request) []byte {
	t.Helper()
	b, e := net.Ask(r)
	if e != api.OK {
		t.Fatal(e)
	}
	return b
}

// TestAllOfNothing: without such a request there is no reply, whatever others come to.
func TestAllOfNothing(t *testing.T) {
	wantTold(t,
		"make 500 2", "made",
		"all a", "none",
		"run b (root-set! 'x 5)", "sent", "all a", "none", "busy", "busy - -", "roots", "roots",
		"give 0", "ok", "all a", "none", "busy", "busy - -", "roots", "roots "+rootOf(t, "x", "5"),
		"run b 1", "sent", "all b", "reply b done #!void",
		"run c 1", "sent", "lose 0", "ok", "all c", "none",
		"all b", "none",
	)
}

// TestAllGives: the messages that ask for it, the first one first, and no others.
func TestAllGives(t *testing.T) {
	wantTold(t,
		"make 500 2", "made",
		"raw 00", "sent", "run b 5", "sent", "run a 1", "sent", "raw 01", "sent", "run a 2", "sent", "run c 6", "sent", "run a 3", "sent",
		"all a", "reply a done 1",
		"give 0", "error 5", "give 1", "error 5", "busy", "busy - -",
		"give 0", "ok", "busy", "busy b -", "give 0", "ok", "busy", "busy b c",
		"give 0", "error 190",
	)
}

// TestAllOfWhatIsKept: it ends at the first reply; no further message is given, and no worker goes on.
func TestAllOfWhatIsKept(t *testing.T) {
	wantTold(t,
		"make 500 1", "made",
		"run a 1", "sent", "all a", "reply a done 1",
		"run b 2", "sent", "give 0", "ok",
		"go 0 1000", "ok", "go 0 1", "ok", "go 0 1", "ok",
		"run a 9", "sent", "run a 8", "sent", "run c 3", "sent",
		"all a", "reply a done 1",
		"lose 1", "ok", "lose 1", "error 190",
		"busy", "busy b",
		"go 0 1", "reply b done 2",
		"give 0", "reply a done 1",
	)
}

// TestAllOfWhatIsBegun: a request that a worker has already needs no message; those on the way are given all the same.
func TestAllOfWhatIsBegun(t *testing.T) {
	wantTold(t,
		"make 500 2", "made",
		"run b 2", "sent", "give 0", "ok", "run a 1", "sent", "give 0", "ok", "busy", "busy b a",
		"all a", "reply a done 1",
		"busy", "busy - -",
		"run c 3", "sent", "twice 0", "ok", "give 0", "ok",
		"all c", "reply c done 3",
		"give 0", "error 190",
	)
}

// TestAllWaits: what stays, since no worker is free, is passed by, and given again in the next round.
func TestAllWaits(t *testing.T) {
	wantTold(t,
		"make 500 1", "made",
		"run b (root-set! 'x 1)", "sent", "give 0", "ok",
		"run a (root-ref 'x)", "sent", "run c 3", "sent", "run a 2", "sent",
		"all a", "reply a done 1",
		"busy", "busy -",
		"give 0", "ok", "busy", "busy c", "give 0", "error 190",
		"run b 1", "sent", "give 0", "reply b done #!void",
	)
}

// TestAllByRounds: each worker goes on by 1000, the first one first, and none any more when the reply is there.
func TestAllByRounds(t *testing.T) {
	for _, x := range []struct {
		first, second string // which worker has the request that is followed: it takes four rounds
		rounds        int    // how often the other one goes on
	}{
		{"a 5", "b ", 3},
		{"b ", "a 5", 4},
	} {
		for more := range 2 { // instructions that are left then
			long := lasting(t, 1000*x.rounds+more)
			worker := "1"
			pairs := []string{"make 500 2", "made"}
			for i, s := range []string{x.first, x.second} {
				if s == "b " {
					s += long
					worker = []string{"0", "1"}[i]
				}
				pairs = append(pairs, "run "+s, "sent", "give 0", "ok")
			}
			pairs = append(pairs, "all a", "reply a done 5")
			idle := "go " + worker + " 0"
			if more == 1 {
				pairs = append(pairs, idle, "ok", idle, "ok", idle, "ok", "go "+worker+" 1", "ok")
			}
			value := "0"
			if long[len(long)-1] == '1' {
				value = "1"
			}
			pairs = append(pairs, idle, "ok", idle, "ok", idle, "reply b done "+value)
			wantTold(t, pairs...)
		}
	}
}

// TestAllEnds: there are 60 rounds. Of two that add to one root the second clashes with the first one's lock, and then, having run anew, with what that one wrote meanwhile: it needs 64.
func TestAllEnds(t *testing.T) {
	text := lasting(t, 19500) + " (root-set! 'x (+ 1 (if (root-ref 'x) (root-ref 'x) 0)))"
	begin := join(
		[]string{"make 500 2", "made", "run a " + text, "sent", "run b " + text, "sent"},
		times(2, "give 0", "ok"),
	)
	for _, id := range []string{"b", "z"} { // whether it is asked for, or just gone through
		wantTold(t, join(begin,
			[]string{"all " + id, "none", "busy", "busy - b", "roots", "roots " + rootOf(t, "x", "1")},
			times(3, "go 1 1000", "ok"),
			[]string{"go 1 1000", "reply b done #!void", "run v (root-ref 'x)", "sent", "all v", "reply v done 2"},
		)...)
	}
	wantTold(t, join(begin, []string{"all a", "reply a done #!void", "all b", "reply b done #!void"})...)
}

// TestAllOfASession: a request that resumes is followed likewise.
func TestAllOfASession(t *testing.T) {
	wantTold(t,
		"make 500 1", "made",
		"run a (define (f n) (f (+ n (suspend n)))) (f 0)", "sent", "all a", "reply a session 1 0",
		"resume b 1 5", "sent", "crash 7", "crashed", "all b", "reply b session 2 5",
		"resume c 2 6", "sent", "all c", "reply c session 3 11",
		"resume d 1 7", "sent", "all d", "reply d session 4 7",
		"resume e 9 7", "sent", "all e", "reply e failed 200",
	)
}
