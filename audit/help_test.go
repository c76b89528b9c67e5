package audit_test

import (
	"bytes"
	"fmt"
	"slices"
	"strconv"
	"strings"
	"testing"

	"rostrum/api"
	"rostrum/audit"
	"rostrum/code"
	"rostrum/datum"
	"rostrum/heap"
	"rostrum/prims"
	"rostrum/serial"
	"rostrum/vm"
)

const (
	young = 4000
	old   = 40000
	fuel  = 20000 // all that a request has
)

func running(id, text string) api.Request {
	return api.Request{ID: id, Kind: api.AskRun, Text: text}
}

func resuming(id string, session int, text string) api.Request {
	return api.Request{ID: id, Kind: api.AskResume, Session: session, Text: text}
}

func doneWith(id, text string) api.Reply {
	return api.Reply{ID: id, Status: api.RepDone, Text: text}
}

func failedWith(id string, why api.Errno) api.Reply {
	return api.Reply{ID: id, Status: api.RepFailed, Why: int(why)}
}

func suspendedWith(id string, session int, text string) api.Reply {
	return api.Reply{ID: id, Status: api.RepSession, Session: session, Text: text}
}

func done(r api.Reply) api.Entry { return api.Entry{Kind: api.LogDone, ID: r.ID, Reply: r} }
func sent(r api.Reply) api.Entry { return api.Entry{Kind: api.LogSent, ID: r.ID, Reply: r} }
func crashed() api.Entry         { return api.Entry{Kind: api.LogCrash} }

func rep(s string, n int) string { return strings.Repeat(s, n) }

func want(t *testing.T, what string, e, why api.Errno) {
	t.Helper()
	if e != why {
		t.Fatalf("%.200s: %v, want %v", what, e, why)
	}
}

// wantReply: what a model answers.
func wantReply(t *testing.T, m *audit.Model, r api.Request, reply api.Reply) {
	t.Helper()
	got, e := m.Do(r)
	if got != reply || e != api.OK {
		t.Fatalf("%.200s: %.300s, %v; want %.300s", fmt.Sprint(r), fmt.Sprint(got), e, fmt.Sprint(reply))
	}
}

// wantModel: a model has so many sessions, and these roots: each text is a name, and behind a = the datum that it has.
func wantModel(t *testing.T, what string, m *audit.Model, sessions int, roots ...string) {
	t.Helper()
	got := m.Roots()
	same := slices.EqualFunc(got, roots, func(x api.Slot, s string) bool {
		name, text, _ := strings.Cut(s, "=")
		return x.Name == name && x.Version == 0 && bytes.Equal(x.Bytes, value(t, text))
	})
	if !same || m.Sessions() != sessions {
		t.Fatalf("%.200s: roots %v, %d sessions; want %q, %d", what, got, m.Sessions(), roots, sessions)
	}
}

// value is the bytes of a datum as a root.
func value(t *testing.T, text string) []byte {
	t.Helper()
	h, e := heap.New(young, old)
	want(t, "heap.New", e, api.OK)
	w, e := prims.Load(h, oneDatum(t, text))
	want(t, "prims.Load", e, api.OK)
	b, e := serial.Encode(h, w)
	want(t, "serial.Encode", e, api.OK)
	return b
}

func oneDatum(t *testing.T, text string) api.Datum {
	t.Helper()
	l, err := datum.Read(text)
	if err != nil || len(l) != 1 {
		t.Fatalf("%s: %v", text, err)
	}
	return l[0]
}

// machine is one that ran a program which asks for no roots.
func machine(t *testing.T, text string) *vm.Machine {
	t.Helper()
	c, err := code.Source(text)
	if err != nil {
		t.Fatalf("%.100s: %v", text, err)
	}
	m, e := vm.New(c, young, old)
	want(t, "vm.New", e, api.OK)
	m.Run(1<<40, nil)
	return m
}

// saved is the bytes of a program that is suspended.
func saved(t *testing.T, text string) []byte {
	t.Helper()
	b, e := machine(t, text).Save()
	want(t, "Save", e, api.OK)
	return b
}

// lasting is a program that takes just so many instructions.
func lasting(t *testing.T, n int) string {
	t.Helper()
	loop := func(times int) string {
		return "(define (f n) (if (= n 0) 0 (f (- n 1)))) (f " + strconv.Itoa(times) + ")"
	}
	ten := machine(t, loop(10)).Used()
	text := loop(10 + (n-ten)/(machine(t, loop(11)).Used()-ten))
	return text + rep(" 1", n-machine(t, text).Used())
}
