package scope

import (
	"slices"

	"rostrum/api"
	"rostrum/expand"
	"rostrum/fresh"
)

// Both limits are asked as the chapter says, though no datum that may be reaches them while api.MaxDepth is less than they are.
const (
	mostForms   = 300 // a form within so many others is too deep
	mostLambdas = 100 // and so is a lambda within so many others
)

// resolver makes the node of one form that stands outside. It keeps the first fault, and all its calls do nothing behind that: so whoever calls them need not ask.
type resolver struct {
	ribs [][]string // the names of the lambdas around, the innermost ones last
	why  api.Errno
}

func (r *resolver) fail(why api.Errno) api.Node {
	if r.why == api.OK {
		r.why = why
	}
	return api.Node{}
}

// form is the node of a form that is within so many others.
func (r *resolver) form(d api.Datum, within int) api.Node {
	if r.why != api.OK {
		return api.Node{}
	}
	if within >= mostForms {
		return r.fail(api.ErrDeep)
	}
	switch d.Kind {
	case api.DList:
		return r.combination(d, within)
	case api.DSymbol:
		return r.symbol(d.Text)
	case api.DVector:
		return r.fail(api.ErrSyntax)
	}
	return constant(d)
}

func (r *resolver) forms(l []api.Datum, within int) []api.Node {
	var nodes []api.Node
	for _, d := range l {
		nodes = append(nodes, r.form(d, within))
	}
	return nodes
}

func constant(d api.Datum) api.Node { return api.Node{Op: api.NConst, Datum: fresh.Datum(d)} }

func (r *resolver) symbol(name string) api.Node {
	if expand.Keyword(name) {
		return r.fail(api.ErrBind)
	}
	if up, place, ok := r.find(name); ok {
		return api.Node{Op: api.NLocal, A: up, B: place}
	}
	return api.Node{Op: api.NGlobal, Text: name}
}

// find is how many lambdas lie between here and the one that binds a name, and the name's place there.
func (r *resolver) find(name string) (up, place int, ok bool) {
search:
	for up = range r.ribs {
		names := r.ribs[len(r.ribs)-1-up]
		for place = range names {
			if ok = names[place] == name; ok {
				break search
			}
		}
	}
	return up, place, ok
}

// combination is the node of a form that is a list, and is within so many others.
func (r *resolver) combination(d api.Datum, within int) api.Node {
	if len(d.List) == 0 || len(d.Tail) > 0 {
		return r.fail(api.ErrSyntax)
	}
	if d.List[0].Kind != api.DSymbol {
		return r.call(d.List, within+1)
	}
	parts := d.List[1:]
	switch name := d.List[0].Text; name {
	case "quote":
		return r.quote(parts)
	case "if":
		return r.choice(parts, within+1)
	case "set!":
		return r.set(parts, within+1)
	case "define":
		if within > 0 {
			return r.fail(api.ErrSyntax)
		}
		return r.define(parts, within+1)
	case "lambda":
		return r.lambda(parts, within+1)
	case "begin":
		return r.sequence(parts, within+1)
	default:
		if expand.Keyword(name) {
			return r.fail(api.ErrBind)
		}
	}
	return r.call(d.List, within+1)
}

func (r *resolver) call(l []api.Datum, within int) api.Node {
	return api.Node{Op: api.NCall, Kids: r.forms(l, within)}
}

func (r *resolver) quote(parts []api.Datum) api.Node {
	if len(parts) != 1 {
		return r.fail(api.ErrSyntax)
	}
	return constant(parts[0])
}

func (r *resolver) choice(parts []api.Datum, within int) api.Node {
	if len(parts) != 3 {
		return r.fail(api.ErrSyntax)
	}
	return api.Node{Op: api.NIf, Kids: r.forms(parts, within)}
}

func (r *resolver) sequence(parts []api.Datum, within int) api.Node {
	if len(parts) == 0 {
		return r.fail(api.ErrSyntax)
	}
	return api.Node{Op: api.NSeq, Kids: r.forms(parts, within)}
}

func (r *resolver) set(parts []api.Datum, within int) api.Node {
	if len(parts) != 2 || !r.mayName(parts[0]) {
		return r.fail(api.ErrSyntax)
	}
	name := parts[0].Text
	kids := r.forms(parts[1:], within)
	if up, place, ok := r.find(name); ok {
		return api.Node{Op: api.NSet, A: up, B: place, Kids: kids}
	}
	return api.Node{Op: api.NSetG, Text: name, Kids: kids}
}

func (r *resolver) define(parts []api.Datum, within int) api.Node {
	if len(parts) != 2 || !r.mayName(parts[0]) {
		return r.fail(api.ErrSyntax)
	}
	return api.Node{Op: api.NDefine, Text: parts[0].Text, Kids: r.forms(parts[1:], within)}
}

// mayName tells whether something may be bound, set or defined. An own name has a fault of its own.
func (r *resolver) mayName(d api.Datum) bool {
	if d.Kind != api.DSymbol {
		return false
	}
	if expand.Keyword(d.Text) {
		r.fail(api.ErrBind)
		return false
	}
	return true
}

func (r *resolver) lambda(parts []api.Datum, within int) api.Node {
	if len(parts) != 2 {
		return r.fail(api.ErrSyntax)
	}
	single, last := namesOf(parts[0])
	rib, ok := r.rib(slices.Concat(single, last))
	switch {
	case !ok:
		return r.fail(api.ErrSyntax)
	case len(r.ribs) >= mostLambdas:
		return r.fail(api.ErrDeep)
	}
	r.ribs = append(r.ribs, rib)
	kids := r.forms(parts[1:], within)
	r.ribs = r.ribs[:len(r.ribs)-1]
	return api.Node{Op: api.NLambda, A: len(single), B: len(last), Kids: kids}
}

// namesOf is what a lambda's second part would bind: those that stand for one argument each, and the one for all others, if there is one.
func namesOf(d api.Datum) (single, last []api.Datum) {
	if d.Kind == api.DList {
		return d.List, d.Tail
	}
	return nil, []api.Datum{d}
}

// rib is the names that a lambda binds, if one may bind them.
func (r *resolver) rib(l []api.Datum) ([]string, bool) {
	if len(l) > api.MaxParams {
		return nil, false
	}
	var names []string
	for _, d := range l {
		if !r.mayName(d) || slices.Contains(names, d.Text) {
			return nil, false
		}
		names = append(names, d.Text)
	}
	return names, true
}
