package expand

import (
	"slices"

	"rostrum/api"
	"rostrum/datum"
)

// What a pattern's symbol stands for.
const (
	one  = 1
	many = 2 // one for each of those that a repeated part fits
)

// rule is a pattern and a template with which nothing is wrong.
type rule struct {
	pattern, template api.Datum
	literals          []string
	stands            map[string]int // of each of the pattern's symbols: for one, or for many
}

func newRule(pattern, template api.Datum, literals []string) (rule, bool) {
	r := rule{pattern: pattern, template: template, literals: literals, stands: map[string]int{}}
	if pattern.Kind != api.DList || len(pattern.List) == 0 {
		return rule{}, false
	}
	if !r.canParts(pattern.List[1:], pattern.Tail, one) || !r.canTemplate(template, false) {
		return rule{}, false
	}
	return r, true
}

// canPart tells whether something may be a part of the pattern, and takes down what its symbols stand for.
func (r *rule) canPart(p api.Datum, as int) bool {
	switch p.Kind {
	case api.DSymbol:
		return r.canSymbol(p.Text, as)
	case api.DList, api.DVector:
		return r.canParts(p.List, p.Tail, as)
	}
	return true
}

func (r *rule) canSymbol(name string, as int) bool {
	switch {
	case name == "...": // where it may stand, cut has taken it away
		return false
	case r.fitsItself(name) || name == "_":
		return true
	case r.stands[name] != 0:
		return false
	}
	r.stands[name] = as
	return true
}

// fitsItself tells whether a symbol of the pattern fits no other datum.
func (r *rule) fitsItself(name string) bool { return slices.Contains(r.literals, name) }

func (r *rule) canParts(parts, tail []api.Datum, as int) bool {
	single, repeated := cut(parts)
	for _, p := range single {
		if !r.canPart(p, as) {
			return false
		}
	}
	for _, p := range repeated {
		if as == many || len(tail) > 0 || !r.canPart(p, many) {
			return false
		}
	}
	for _, p := range tail {
		if p.Kind != api.DSymbol || !r.canSymbol(p.Text, as) {
			return false
		}
	}
	return true
}

// cut parts a pattern's parts into those that fit one datum each, and the one that is repeated, if there is one.
func cut(parts []api.Datum) (single, repeated []api.Datum) {
	n := len(parts)
	if n < 2 || !isDots(parts[n-1]) {
		return parts, nil
	}
	return parts[:n-2], parts[n-2 : n-1]
}

// found is the data that a pattern's symbols stand for.
type found map[string][]api.Datum

// fit holds a form against the pattern.
func (r *rule) fit(form api.Datum) (found, bool) {
	got := found{}
	ok := r.fitParts(r.pattern.List[1:], r.pattern.Tail, form.List[1:], form.Tail, got)
	return got, ok
}

func (r *rule) fitPart(p, d api.Datum, got found) bool {
	switch p.Kind {
	case api.DSymbol:
		if r.fitsItself(p.Text) {
			break
		}
		got[p.Text] = append(got[p.Text], d) // of _ too, which no template asks for
		return true
	case api.DList, api.DVector:
		return p.Kind == d.Kind && r.fitParts(p.List, p.Tail, d.List, d.Tail, got)
	}
	return datum.Same(p, d)
}

func (r *rule) fitParts(parts, tail, data, end []api.Datum, got found) bool {
	single, repeated := cut(parts)
	if len(data) < len(single) {
		return false
	}
	for i, p := range single {
		if !r.fitPart(p, data[i], got) {
			return false
		}
	}
	left := data[len(single):]
	if len(tail) > 0 {
		return r.fitPart(tail[0], rest(left, end), got)
	}
	if len(end) > 0 || len(repeated) == 0 && len(left) > 0 {
		return false
	}
	for _, d := range left {
		if !r.fitPart(repeated[0], d, got) {
			return false
		}
	}
	return true
}
