package expand

import "rostrum/api"

func symbol(name string) api.Datum { return api.Datum{Kind: api.DSymbol, Text: name} }

func truth(text string) api.Datum { return api.Datum{Kind: api.DBool, Text: text} }

func list(l ...api.Datum) api.Datum { return api.Datum{Kind: api.DList, List: l} }

// headed is a list of a first part and others.
func headed(first api.Datum, others []api.Datum) api.Datum {
	return list(append([]api.Datum{first}, others...)...)
}

// nothing is the form of the core for what is not said.
func nothing() api.Datum { return list(symbol("quote"), list()) }

// sequence is a begin of forms of the core.
func sequence(forms []api.Datum) api.Datum { return headed(symbol("begin"), forms) }

func procedure(names []api.Datum, body api.Datum) api.Datum {
	return list(symbol("lambda"), list(names...), body)
}

// rest is what is left of a list, when parts ahead are taken away: what stands behind the dot, if nothing else is left.
func rest(parts, tail []api.Datum) api.Datum {
	if len(parts) == 0 && len(tail) > 0 {
		return tail[0]
	}
	return api.Datum{Kind: api.DList, List: parts, Tail: tail}
}

func isSymbol(d api.Datum, name string) bool { return d.Kind == api.DSymbol && d.Text == name }

func isDots(d api.Datum) bool { return isSymbol(d, "...") }

// isName tells whether a datum is a symbol that may be bound, set or defined.
func isName(d api.Datum) bool { return d.Kind == api.DSymbol && !Keyword(d.Text) }

// isPlain tells whether a datum is a list without a dot.
func isPlain(d api.Datum) bool { return d.Kind == api.DList && len(d.Tail) == 0 }

// headName is the symbol at a list's head; empty, if there is none.
func headName(d api.Datum) string {
	if d.Kind != api.DList || len(d.List) == 0 || d.List[0].Kind != api.DSymbol {
		return ""
	}
	return d.List[0].Text
}
