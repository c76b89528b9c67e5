package expand

import (
	"iter"

	"rostrum/api"
	"rostrum/datum"
	"rostrum/fresh"
)

// each goes through the parts of a template's list, and tells of each whether it is repeated.
func each(parts []api.Datum) iter.Seq2[api.Datum, bool] {
	return func(yield func(api.Datum, bool) bool) {
		for i := 0; i < len(parts); i++ {
			repeated := i+1 < len(parts) && isDots(parts[i+1])
			if !yield(parts[i], repeated) {
				return
			}
			if repeated {
				i++
			}
		}
	}
}

// canTemplate tells whether something may stand in the template: within a repeated part, or not.
func (r *rule) canTemplate(t api.Datum, within bool) bool {
	if t.Kind == api.DSymbol {
		return !isDots(t) && (within || r.stands[t.Text] != many)
	}
	for p, repeated := range each(t.List) {
		if repeated && (within || len(r.manyIn(p)) == 0) || !r.canTemplate(p, within || repeated) {
			return false
		}
	}
	for _, p := range t.Tail {
		if !r.canTemplate(p, within) {
			return false
		}
	}
	return true
}

// manyIn is the symbols in a part of the template that stand for many.
func (r *rule) manyIn(t api.Datum) []string {
	if t.Kind == api.DSymbol && r.stands[t.Text] == many {
		return []string{t.Text}
	}
	var names []string
	for _, parts := range [2][]api.Datum{t.List, t.Tail} {
		for _, p := range parts {
			names = append(names, r.manyIn(p)...)
		}
	}
	return names
}

// filling is a datum that is made of a template.
type filling struct {
	*rule
	got  found
	size int // how many data there are so far
}

// fill is what the template makes of what the pattern's symbols stand for.
func (r *rule) fill(got found) (api.Datum, api.Errno) {
	f := &filling{rule: r, got: got}
	if !f.alike(r.template) {
		return api.Datum{}, api.ErrSyntax
	}
	d := f.part(r.template, 0)
	switch {
	case f.full():
		return api.Datum{}, api.ErrFull
	case !datum.Can(d): // its depth alone can be wrong with it
		return api.Datum{}, api.ErrDeep
	}
	return d, api.OK
}

// alike tells whether the symbols of each repeated part that stand for many stand for as many.
func (f *filling) alike(t api.Datum) bool {
	for p, repeated := range each(t.List) {
		if !repeated {
			if !f.alike(p) {
				return false
			}
			continue
		}
		names := f.manyIn(p)
		for _, name := range names[1:] {
			if len(f.got[name]) != len(f.got[names[0]]) {
				return false
			}
		}
	}
	return len(t.Tail) == 0 || f.alike(t.Tail[0])
}

// times is how often a repeated part stands: as often as the first of its symbols that stand for many.
func (f *filling) times(p api.Datum) int { return len(f.got[f.manyIn(p)[0]]) }

// full tells whether there are too many data; then no more are made, since they could be far too many.
func (f *filling) full() bool { return f.size > api.MaxForms }

// part is what a part of the template makes: where it is repeated, for the nth time.
func (f *filling) part(t api.Datum, n int) api.Datum {
	switch {
	case f.full():
		return api.Datum{}
	case t.Kind == api.DList || t.Kind == api.DVector:
		return f.list(t, n)
	case t.Kind == api.DSymbol && f.stands[t.Text] == one:
		return f.copy(f.got[t.Text][0])
	case t.Kind == api.DSymbol && f.stands[t.Text] == many:
		return f.copy(f.got[t.Text][n])
	}
	return f.copy(t)
}

func (f *filling) copy(d api.Datum) api.Datum {
	f.size += datum.Size(d)
	return fresh.Datum(d)
}

func (f *filling) list(t api.Datum, n int) api.Datum {
	d := api.Datum{Kind: t.Kind}
	for p, repeated := range each(t.List) {
		if !repeated {
			d.List = append(d.List, f.part(p, n))
			continue
		}
		for i, times := 0, f.times(p); i < times && !f.full(); i++ {
			d.List = append(d.List, f.part(p, i))
		}
	}
	if len(t.Tail) > 0 {
		return f.dotted(d.List, f.part(t.Tail[0], n))
	}
	f.size++
	return d
}

// dotted is a list with what stands behind its dot. If that is a list, or nothing stands ahead of it, the two are one datum, which is counted already.
func (f *filling) dotted(parts []api.Datum, tail api.Datum) api.Datum {
	if tail.Kind == api.DList {
		return api.Datum{Kind: api.DList, List: append(parts, tail.List...), Tail: tail.Tail}
	}
	if len(parts) == 0 {
		return tail
	}
	f.size++
	return api.Datum{Kind: api.DList, List: parts, Tail: []api.Datum{tail}}
}
