package expand

import (
	"rostrum/api"
	"rostrum/datum"
	"rostrum/fresh"
)

// deepest is within how many others no form becomes core any more.
const deepest = 200

// row is how the forms of an own name become core: of the parts behind that name, which are within so many other forms.
type row func(parts []api.Datum, deep int) api.Datum

// expander makes core of a program. It keeps the first fault, and all its calls do nothing behind that: so whoever calls them need not ask.
type expander struct {
	rows   map[string]row
	macros map[string]macro
	times  int // how often a form was to become core
	made   int // how many data macros made
	why    api.Errno
}

type macro []rule

func newExpander() *expander {
	x := &expander{macros: map[string]macro{}}
	x.rows = map[string]row{
		"quote":  x.quote,
		"if":     x.choice,
		"set!":   x.set,
		"lambda": x.lambda,
		"begin":  x.begin,
		"let":    x.let,
		"let*":   x.letInTurn,
		"letrec": x.letrec,
		"cond":   x.cond,
		"and":    x.and,
		"or":     x.or,
		"when":   x.when,
		"unless": x.unless,
	}
	return x
}

func (x *expander) fail(why api.Errno) api.Datum {
	if x.why == api.OK {
		x.why = why
	}
	return api.Datum{}
}

// enter asks whether one more form, within so many others, may become core.
func (x *expander) enter(deep int) bool {
	x.times++
	switch {
	case x.times > api.MaxForms || x.made > api.MaxForms:
		x.fail(api.ErrFull)
	case deep >= deepest:
		x.fail(api.ErrDeep)
	}
	return x.why == api.OK
}

// form is what a form becomes that is within so many others.
func (x *expander) form(d api.Datum, deep int) api.Datum {
	if !x.enter(deep) {
		return api.Datum{}
	}
	switch d.Kind {
	case api.DList:
		return x.combination(d, deep+1)
	case api.DVector:
		return list(symbol("quote"), fresh.Datum(d))
	case api.DSymbol:
		if Keyword(d.Text) {
			return x.fail(api.ErrSyntax)
		}
	}
	return fresh.Datum(d)
}

func (x *expander) combination(d api.Datum, deep int) api.Datum {
	if len(d.List) == 0 || len(d.Tail) > 0 {
		return x.fail(api.ErrSyntax)
	}
	name := headName(d)
	if r, ok := x.rows[name]; ok {
		return r(d.List[1:], deep)
	}
	if m, ok := x.macros[name]; ok {
		return x.use(m, d, deep)
	}
	if Keyword(name) {
		return x.fail(api.ErrSyntax)
	}
	return list(x.all(d.List, deep)...)
}

// own is what the form of an own name and its parts becomes.
func (x *expander) own(name string, parts []api.Datum, deep int) api.Datum {
	if !x.enter(deep) {
		return api.Datum{}
	}
	return x.rows[name](parts, deep+1)
}

func (x *expander) all(l []api.Datum, deep int) []api.Datum {
	var core []api.Datum
	for _, d := range l {
		core = append(core, x.form(d, deep))
	}
	return core
}

// outside is what a form outside of all others becomes: any number of the core's.
func (x *expander) outside(d api.Datum, deep int) []api.Datum {
	switch headName(d) {
	case "begin":
		return x.parts(d, deep)
	case "define":
		name, value, ok := definition(d)
		if !ok {
			x.fail(api.ErrSyntax)
			return nil
		}
		return []api.Datum{list(symbol("define"), name, x.form(value, deep))}
	case "define-syntax":
		x.defineMacro(d)
		return nil
	}
	return []api.Datum{x.form(d, deep)}
}

// parts is what a begin outside of all other forms becomes.
func (x *expander) parts(d api.Datum, deep int) []api.Datum {
	if !x.enter(deep) {
		return nil
	}
	if !isPlain(d) || len(d.List) == 1 {
		x.fail(api.ErrSyntax)
		return nil
	}
	var core []api.Datum
	for _, p := range d.List[1:] {
		core = append(core, x.outside(p, deep+1)...)
	}
	return core
}

// use is what the form of a macro becomes.
func (x *expander) use(m macro, d api.Datum, deep int) api.Datum {
	for _, r := range m {
		got, ok := r.fit(d)
		if !ok {
			continue
		}
		made, why := r.fill(got)
		if why != api.OK {
			return x.fail(why)
		}
		x.made += datum.Size(made)
		return x.form(made, deep)
	}
	return x.fail(api.ErrMacro)
}

func (x *expander) defineMacro(d api.Datum) {
	m, ok := macroOf(d)
	if !ok {
		x.fail(api.ErrSyntax)
	}
	if x.why == api.OK {
		x.macros[d.List[1].Text] = m
	}
}

// macroOf is the macro of a define-syntax.
func macroOf(d api.Datum) (macro, bool) {
	if !isPlain(d) || len(d.List) != 3 || !isName(d.List[1]) {
		return nil, false
	}
	rules := d.List[2]
	if !isPlain(rules) || headName(rules) != "syntax-rules" || len(rules.List) < 2 {
		return nil, false
	}
	literals, ok := literalsOf(rules.List[1])
	if !ok {
		return nil, false
	}
	var m macro
	for _, p := range rules.List[2:] {
		if !isPlain(p) || len(p.List) != 2 {
			return nil, false
		}
		r, ok := newRule(p.List[0], p.List[1], literals)
		if !ok {
			return nil, false
		}
		m = append(m, r)
	}
	return m, true
}

func literalsOf(d api.Datum) ([]string, bool) {
	if !isPlain(d) {
		return nil, false
	}
	var names []string
	for _, p := range d.List {
		if p.Kind != api.DSymbol {
			return nil, false
		}
		names = append(names, p.Text)
	}
	return names, true
}
