package datum_test

import (
	"errors"
	"math/rand"
	"strings"
	"testing"

	"rostrum/api"
	"rostrum/datum"
	"rostrum/number"
)

const nameBytes = "abcxyzABCXYZ0189!$%&*/:<=>?^_~+-.@"

func num(s string) api.Datum   { return api.Datum{Kind: api.DNumber, Text: s} }
func truth(s string) api.Datum { return api.Datum{Kind: api.DBool, Text: s} }
func str(s string) api.Datum   { return api.Datum{Kind: api.DString, Text: s} }
func sym(s string) api.Datum   { return api.Datum{Kind: api.DSymbol, Text: s} }

func list(l ...api.Datum) api.Datum   { return api.Datum{Kind: api.DList, List: l} }
func vector(l ...api.Datum) api.Datum { return api.Datum{Kind: api.DVector, List: l} }

func dotted(tail api.Datum, l ...api.Datum) api.Datum {
	return api.Datum{Kind: api.DList, List: l, Tail: []api.Datum{tail}}
}

// nest is a datum within so many lists.
func nest(n int, d api.Datum) api.Datum {
	for range n {
		d = list(d)
	}
	return d
}

// read is the data of a text that has no fault.
func read(t *testing.T, s string) []api.Datum {
	t.Helper()
	l, err := datum.Read(s)
	if err != nil {
		t.Fatalf("Read(%.80q): %v", s, err)
	}
	return l
}

func wantFault(t *testing.T, s string, at int, why api.Errno) {
	t.Helper()
	l, err := datum.Read(s)
	if f, ok := err.(api.Fault); len(l) > 0 || !ok || f != (api.Fault{At: at, Why: why}) {
		t.Errorf("Read(%.80q) = %v, %v, want %v at %d", s, l, err, why, at)
		return
	}
	for e := range api.Errno(300) {
		if errors.Is(err, e) != (e == why) {
			t.Errorf("Read(%.80q): errors.Is tells %d", s, e)
		}
	}
}

func sameData(a, b []api.Datum) bool {
	return datum.Same(vector(a...), vector(b...))
}

// random is a datum that may be, at most so deep.
func random(r *rand.Rand, deep int) api.Datum {
	kind := r.Intn(8)
	if deep == 0 {
		kind %= 4
	}
	switch kind {
	case 0:
		return randomNumber(r)
	case 1:
		return truth([]string{"#t", "#f"}[r.Intn(2)])
	case 2:
		return str(randomBytes(r))
	case 3:
		return sym(randomName(r))
	case 4:
		return vector(randomData(r, r.Intn(4), deep)...)
	case 5:
		return dotted(randomTail(r, deep), randomData(r, 1+r.Intn(3), deep)...)
	}
	return list(randomData(r, r.Intn(4), deep)...)
}

func randomData(r *rand.Rand, n, deep int) []api.Datum {
	var l []api.Datum
	for range n {
		l = append(l, random(r, deep-1))
	}
	return l
}

func randomTail(r *rand.Rand, deep int) api.Datum {
	for {
		if d := random(r, deep-1); d.Kind != api.DList {
			return d
		}
	}
}

func randomNumber(r *rand.Rand) api.Datum {
	s := number.Of(int(r.Uint64()))
	if r.Intn(4) == 0 {
		s += strings.Repeat("7", api.MaxDigits-len(strings.TrimPrefix(s, "-")))
	}
	return num(s)
}

func randomBytes(r *rand.Rand) string {
	b := make([]byte, r.Intn(12))
	for i := range b {
		b[i] = byte(r.Intn(256))
		if r.Intn(2) == 0 {
			b[i] = "\\\"nt\n\t\r\x00 ;()"[r.Intn(12)]
		}
	}
	return string(b)
}

func randomName(r *rand.Rand) string {
	for {
		b := make([]byte, 1+r.Intn([]int{3, 64}[r.Intn(2)]))
		for i := range b {
			b[i] = nameBytes[r.Intn(len(nameBytes))]
		}
		if s := string(b); nameForm.MatchString(s) && !numberBegins.MatchString(s) && s != "." {
			return s
		}
	}
}
