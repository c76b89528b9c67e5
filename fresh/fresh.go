// Package fresh copies data, so that what a layer answers shares no memory with what it was handed.
package fresh

import "rostrum/api"

// Datum is the same datum in new memory. It must be one that may be, since one that holds itself has no end.
func Datum(d api.Datum) api.Datum {
	return api.Datum{Kind: d.Kind, Text: d.Text, List: data(d.List), Tail: data(d.Tail)}
}

func data(l []api.Datum) []api.Datum {
	if len(l) == 0 {
		return nil
	}
	c := make([]api.Datum, len(l))
	for i, d := range l {
		c[i] = Datum(d)
	}
	return c
}
