package expand

import (
	"slices"

	"rostrum/api"
	"rostrum/fresh"
)

// The rows of the chapter's table. Where a row has several parts become core, it has them do so in the order in which they stand in what it answers: of several faults that tells which one is the first.

func (x *expander) quote(parts []api.Datum, deep int) api.Datum {
	if len(parts) != 1 {
		return x.fail(api.ErrSyntax)
	}
	return list(symbol("quote"), fresh.Datum(parts[0]))
}

func (x *expander) choice(parts []api.Datum, deep int) api.Datum {
	if len(parts) != 2 && len(parts) != 3 {
		return x.fail(api.ErrSyntax)
	}
	core := x.all(parts, deep)
	if len(core) == 2 {
		core = append(core, nothing())
	}
	return headed(symbol("if"), core)
}

func (x *expander) set(parts []api.Datum, deep int) api.Datum {
	if len(parts) != 2 || !isName(parts[0]) {
		return x.fail(api.ErrSyntax)
	}
	return list(symbol("set!"), fresh.Datum(parts[0]), x.form(parts[1], deep))
}

func (x *expander) lambda(parts []api.Datum, deep int) api.Datum {
	if len(parts) == 0 || !mayBind(namesOf(parts[0])) {
		return x.fail(api.ErrSyntax)
	}
	return list(symbol("lambda"), fresh.Datum(parts[0]), x.body(parts[1:], deep))
}

// namesOf is what a lambda's second part would bind.
func namesOf(d api.Datum) []api.Datum {
	if d.Kind == api.DList {
		return slices.Concat(d.List, d.Tail)
	}
	return []api.Datum{d}
}

// mayBind tells whether one lambda may bind these.
func mayBind(names []api.Datum) bool {
	if len(names) > api.MaxParams {
		return false
	}
	for i, n := range names {
		if !isName(n) || slices.ContainsFunc(names[:i], func(m api.Datum) bool { return m.Text == n.Text }) {
			return false
		}
	}
	return true
}

func (x *expander) begin(parts []api.Datum, deep int) api.Datum {
	switch len(parts) {
	case 0:
		return x.fail(api.ErrSyntax)
	case 1:
		return x.form(parts[0], deep)
	}
	return sequence(x.all(parts, deep))
}

// body is what the forms of a body become, which are within so many others.
func (x *expander) body(forms []api.Datum, deep int) api.Datum {
	var names, values []api.Datum
	for len(forms) > 0 && headName(forms[0]) == "define" {
		name, value, ok := definition(forms[0])
		if !ok {
			return x.fail(api.ErrSyntax)
		}
		names, values, forms = append(names, name), append(values, value), forms[1:]
	}
	if len(forms) == 0 || !mayBind(names) {
		return x.fail(api.ErrSyntax)
	}
	if len(names) == 0 {
		return x.begin(forms, deep)
	}
	steps := x.sets(names, values, deep)
	return holding(names, append(steps, x.all(forms, deep)...))
}

// definition is the name and the value's form of a define.
func definition(d api.Datum) (name, value api.Datum, ok bool) {
	if !isPlain(d) || len(d.List) < 3 {
		return api.Datum{}, api.Datum{}, false
	}
	name, value, ok = d.List[1], d.List[2], len(d.List) == 3
	if name.Kind == api.DList && len(name.List) > 0 {
		parts := headed(rest(name.List[1:], name.Tail), d.List[2:]).List
		name, value, ok = name.List[0], headed(symbol("lambda"), parts), true
	}
	return fresh.Datum(name), value, ok && isName(name)
}

// sets is a set! for each of some names.
func (x *expander) sets(names, values []api.Datum, deep int) []api.Datum {
	var steps []api.Datum
	for i, v := range values {
		steps = append(steps, list(symbol("set!"), names[i], x.form(v, deep)))
	}
	return steps
}

// holding is the call of a procedure that has names, and does some steps. They hold #f at first, so that each step may speak of all of them.
func holding(names, steps []api.Datum) api.Datum {
	call := []api.Datum{procedure(names, sequence(steps))}
	for range names {
		call = append(call, truth("#f"))
	}
	return list(call...)
}

func (x *expander) let(parts []api.Datum, deep int) api.Datum {
	if len(parts) > 0 && parts[0].Kind == api.DSymbol {
		return x.loop(parts[0], parts[1:], deep)
	}
	names, values, ok := pairsOf(parts)
	if !ok || !mayBind(names) {
		return x.fail(api.ErrSyntax)
	}
	called := procedure(names, x.body(parts[1:], deep))
	return headed(called, x.all(values, deep))
}

// loop is a let with a name ahead of its other parts.
func (x *expander) loop(name api.Datum, parts []api.Datum, deep int) api.Datum {
	names, values, ok := pairsOf(parts)
	if !ok || !isName(name) {
		return x.fail(api.ErrSyntax)
	}
	value := headed(symbol("lambda"), headed(list(names...), parts[1:]).List)
	called := list(symbol("letrec"), list(list(name, value)), name)
	return x.form(headed(called, values), deep)
}

// hasPairs tells whether a let's parts begin with pairs of names and forms, and go on.
func hasPairs(parts []api.Datum) bool {
	if len(parts) < 2 || !isPlain(parts[0]) {
		return false
	}
	for _, p := range parts[0].List {
		if !isPlain(p) || len(p.List) != 2 || !isName(p.List[0]) {
			return false
		}
	}
	return true
}

// pairsOf is the names and the values' forms at the beginning of a let's parts.
func pairsOf(parts []api.Datum) (names, values []api.Datum, ok bool) {
	if !hasPairs(parts) {
		return nil, nil, false
	}
	for _, p := range parts[0].List {
		names, values = append(names, fresh.Datum(p.List[0])), append(values, p.List[1])
	}
	return names, values, true
}

func (x *expander) letInTurn(parts []api.Datum, deep int) api.Datum {
	if !hasPairs(parts) {
		return x.fail(api.ErrSyntax)
	}
	pairs := parts[0].List
	if len(pairs) < 2 {
		return x.let(parts, deep)
	}
	inner := headed(symbol("let*"), headed(list(pairs[1:]...), parts[1:]).List)
	return x.let([]api.Datum{list(pairs[0]), inner}, deep)
}

func (x *expander) letrec(parts []api.Datum, deep int) api.Datum {
	names, values, ok := pairsOf(parts)
	if !ok || !mayBind(names) {
		return x.fail(api.ErrSyntax)
	}
	if len(names) == 0 {
		return x.let(parts, deep)
	}
	steps := x.sets(names, values, deep)
	return holding(names, append(steps, x.body(parts[1:], deep)))
}

func (x *expander) cond(clauses []api.Datum, deep int) api.Datum {
	for i, c := range clauses {
		if !isPlain(c) || len(c.List) == 0 || isElse(c) && (i < len(clauses)-1 || len(c.List) == 1) {
			return x.fail(api.ErrSyntax)
		}
	}
	if len(clauses) == 0 {
		return nothing()
	}
	first := clauses[0].List
	if isElse(clauses[0]) {
		return x.own("begin", first[1:], deep)
	}
	test, then := x.form(first[0], deep), truth("#t")
	if len(first) > 1 {
		then = x.own("begin", first[1:], deep)
	}
	return list(symbol("if"), test, then, x.own("cond", clauses[1:], deep))
}

func isElse(clause api.Datum) bool { return isSymbol(clause.List[0], "else") }

func (x *expander) and(parts []api.Datum, deep int) api.Datum {
	switch len(parts) {
	case 0:
		return truth("#t")
	case 1:
		return x.form(parts[0], deep)
	}
	test := x.form(parts[0], deep)
	return list(symbol("if"), test, x.own("and", parts[1:], deep), truth("#f"))
}

func (x *expander) or(parts []api.Datum, deep int) api.Datum {
	switch len(parts) {
	case 0:
		return truth("#f")
	case 1:
		return x.form(parts[0], deep)
	}
	others := x.own("or", parts[1:], deep)
	name := symbol("%or")
	called := procedure([]api.Datum{name}, list(symbol("if"), name, name, others))
	return list(called, x.form(parts[0], deep))
}

func (x *expander) when(parts []api.Datum, deep int) api.Datum {
	test, steps := x.guarded(parts, deep)
	return list(symbol("if"), test, steps, nothing())
}

func (x *expander) unless(parts []api.Datum, deep int) api.Datum {
	test, steps := x.guarded(parts, deep)
	return list(symbol("if"), test, nothing(), steps)
}

// guarded is the test of a when or an unless, and what it guards.
func (x *expander) guarded(parts []api.Datum, deep int) (test, steps api.Datum) {
	if len(parts) == 0 {
		return x.fail(api.ErrSyntax), api.Datum{}
	}
	test = x.form(parts[0], deep)
	return test, x.own("begin", parts[1:], deep)
}
