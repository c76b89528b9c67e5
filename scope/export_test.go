package scope

import "rostrum/api"

// Form is the node of a form that stands outside, or its fault, without asking whether it may be: one that may is never so deep that ErrDeep could be tried by Resolve.
func Form(d api.Datum) (api.Node, api.Errno) {
	r := &resolver{}
	n := r.form(d, 0)
	return n, r.why
}
