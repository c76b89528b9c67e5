package desk_test

import (
	"errors"
	"slices"
	"strconv"
	"strings"
	"testing"

	"rostrum/api"
	"rostrum/code"
	"rostrum/datum"
	"rostrum/desk"
	"rostrum/heap"
	"rostrum/prims"
	"rostrum/serial"
	"rostrum/vm"
)

// script is lines as one text.
func script(l ...string) string { return strings.Join(l, "\n") }

// plays is the answers of a script that has no fault.
func plays(t *testing.T, l ...string) []string {
	t.Helper()
	got, err := desk.Run(script(l...))
	if err != nil {
		t.Fatalf("%.300q: %v", l, err)
	}
	return got
}

// wantTold: each pair is a line and its answer.
func wantTold(t *testing.T, pairs ...string) {
	t.Helper()
	var lines, answers []string
	for i := 0; i < len(pairs); i += 2 {
		lines, answers = append(lines, pairs[i]), append(answers, pairs[i+1])
	}
	got := plays(t, lines...)
	for i := range min(len(got), len(answers)) {
		if got[i] != answers[i] {
			t.Fatalf("line %d, %.200q: %.300q, want %.300q", i+1, lines[i], got[i], answers[i])
		}
	}
	if len(got) != len(answers) {
		t.Fatalf("%d answers, want %d", len(got), len(answers))
	}
}

// wantFault: a script ends with a fault at a line, and nothing else is told.
func wantFault(t *testing.T, s string, line int, why api.Errno) {
	t.Helper()
	got, err := desk.Run(s)
	f, ok := err.(api.Fault)
	if len(got) > 0 || !ok || f != (api.Fault{At: line, Why: why}) {
		t.Errorf("%.200q: %q, %v; want %v at %d", s, got, err, why, line)
	}
	var as api.Fault
	if !errors.Is(err, why) || !errors.As(err, &as) || as.At != line {
		t.Errorf("%.200q: %v is not found to be %v at %d", s, err, why, line)
	}
}

// rep is a text so many times.
func rep(s string, n int) string { return strings.Repeat(s, n) }

// times is a pair for wantTold so many times.
func times(n int, line, answer string) []string { return slices.Repeat([]string{line, answer}, n) }

// join is pairs one behind the other.
func join(l ...[]string) []string { return slices.Concat(l...) }

// rootOf is what the command roots tells of a root with the value of a datum.
func rootOf(t *testing.T, name, text string) string {
	t.Helper()
	l, err := datum.Read(text)
	if err != nil || len(l) != 1 {
		t.Fatalf("%s: %v", text, err)
	}
	h, _ := heap.New(4000, 40000)
	w, e := prims.Load(h, l[0])
	if e != api.OK {
		t.Fatal(e)
	}
	b, e := serial.Encode(h, w)
	if e != api.OK {
		t.Fatal(e)
	}
	return name + ":" + strconv.Itoa(len(b))
}

// used is how many instructions a program takes that asks for no roots.
func used(t *testing.T, text string) int {
	t.Helper()
	c, err := code.Source(text)
	if err != nil {
		t.Fatal(err)
	}
	m, e := vm.New(c, 4000, 40000)
	if e != api.OK || m.Run(1<<40, nil) != api.Done {
		t.Fatalf("%s: %v, %v", text, e, m.Why())
	}
	return m.Used()
}

// lasting is a program that takes just so many instructions.
func lasting(t *testing.T, n int) string {
	t.Helper()
	loop := func(times int) string {
		return "(define (f n) (if (= n 0) 0 (f (- n 1)))) (f " + strconv.Itoa(times) + ")"
	}
	ten := used(t, loop(10))
	text := loop(10 + (n-ten)/(used(t, loop(11))-ten))
	return text + rep(" 1", n-used(t, text))
}
