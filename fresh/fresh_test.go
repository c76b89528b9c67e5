package fresh_test

import (
	"testing"

	"rostrum/api"
	"rostrum/datum"
	"rostrum/fresh"
)

// places is the addresses of all that is in lists, the spare room behind their ends included.
func places(l []api.Datum, to map[*api.Datum]int) {
	for i := range l[:cap(l)] {
		to[&l[:cap(l)][i]]++
	}
	for _, d := range l {
		places(d.List, to)
		places(d.Tail, to)
	}
}

func TestDatum(t *testing.T) {
	l, err := datum.Read(`5 #t "a" x () #() (1 (2) . #(3 (4))) #(() (5 . 6)) '((x))`)
	if err != nil {
		t.Fatal(err)
	}
	l = append(l, api.Datum{Kind: api.DList, List: make([]api.Datum, 0, 3), Tail: make([]api.Datum, 0, 3)})
	for _, d := range l {
		c := fresh.Datum(d)
		if !datum.Same(c, d) {
			t.Errorf("%s is copied as %s", datum.Print(d), datum.Print(c))
		}
		at := map[*api.Datum]int{}
		for _, x := range []api.Datum{d, c, fresh.Datum(d)} {
			places(x.List, at)
			places(x.Tail, at)
		}
		for _, n := range at {
			if n > 1 {
				t.Errorf("%s: the copy shares memory", datum.Print(d))
			}
		}
	}
}
