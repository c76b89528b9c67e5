package datum

import (
	"strings"

	"rostrum/api"
	"rostrum/number"
)

// reader goes through a text. Where it can't go on, it gives up by panic: Read catches that, and tells the fault.
type reader struct {
	text  string
	at    int
	open  int // how many of ( and #( and ' are open here
	fault api.Fault
}

func (r *reader) giveUp(at int, why api.Errno) {
	r.fault = api.Fault{At: at, Why: why}
	panic(r.fault)
}

func (r *reader) all() []api.Datum {
	var l []api.Datum
	for r.skipBlanks(); !r.ended(); r.skipBlanks() {
		l = append(l, r.datum())
	}
	return l
}

func (r *reader) ended() bool { return r.at == len(r.text) }

func (r *reader) skipBlanks() {
	for !r.ended() {
		switch r.text[r.at] {
		case ' ', '\t', '\n', '\r':
			r.at++
		case ';':
			r.skipComment()
		default:
			return
		}
	}
}

func (r *reader) skipComment() {
	if n := strings.IndexByte(r.text[r.at:], '\n'); n >= 0 {
		r.at += n
	} else {
		r.at = len(r.text)
	}
}

// take goes past some bytes, if they stand here.
func (r *reader) take(s string) bool {
	if !strings.HasPrefix(r.text[r.at:], s) {
		return false
	}
	r.at += len(s)
	return true
}

// datum reads the one that must come now.
func (r *reader) datum() api.Datum {
	r.skipBlanks()
	start := r.at
	switch {
	case r.ended() || r.text[start] == ')':
		r.giveUp(start, api.ErrRead)
	case r.take("("):
		return r.within(start, r.list)
	case r.take("#("):
		return r.within(start, r.vector)
	case r.take("'"):
		return r.within(start, r.quoted)
	case r.take(`"`):
		return api.Datum{Kind: api.DString, Text: r.stringText(start)}
	}
	return r.piece()
}

// within reads what something that was opened at a place has in it.
func (r *reader) within(start int, read func() api.Datum) api.Datum {
	if r.open == api.MaxDepth {
		r.giveUp(start, api.ErrDeep)
	}
	r.open++
	d := read()
	r.open--
	return d
}

func (r *reader) list() api.Datum {
	d := api.Datum{Kind: api.DList}
	for !r.closed() {
		if len(d.List) > 0 && r.dot() {
			return r.dotted(d.List)
		}
		d.List = append(d.List, r.datum())
	}
	return d
}

func (r *reader) vector() api.Datum {
	d := api.Datum{Kind: api.DVector}
	for !r.closed() {
		d.List = append(d.List, r.datum())
	}
	return d
}

func (r *reader) quoted() api.Datum {
	quote := api.Datum{Kind: api.DSymbol, Text: "quote"}
	return api.Datum{Kind: api.DList, List: []api.Datum{quote, r.datum()}}
}

// closed goes past the ) of what is open, if it comes now.
func (r *reader) closed() bool {
	r.skipBlanks()
	if r.ended() {
		r.giveUp(r.at, api.ErrRead)
	}
	return r.take(")")
}

// dot goes past a dot, if one stands here by itself.
func (r *reader) dot() bool {
	if r.text[r.at] != '.' || r.pieceEnd() != r.at+1 {
		return false
	}
	r.at++
	return true
}

// dotted is a list with what stands behind its dot.
func (r *reader) dotted(l []api.Datum) api.Datum {
	last := r.datum()
	if !r.closed() {
		r.giveUp(r.at, api.ErrRead)
	}
	if last.Kind == api.DList {
		return api.Datum{Kind: api.DList, List: append(l, last.List...), Tail: last.Tail}
	}
	return api.Datum{Kind: api.DList, List: l, Tail: []api.Datum{last}}
}

// stringText reads a string's bytes, behind the " at its start.
func (r *reader) stringText(start int) string {
	var b strings.Builder
	for !r.take(`"`) {
		if r.ended() {
			r.giveUp(start, api.ErrRead)
		}
		if r.text[r.at] == '\\' {
			b.WriteByte(r.escaped(start))
			continue
		}
		b.WriteByte(r.text[r.at])
		r.at++
	}
	return b.String()
}

// escaped reads a \ and the byte behind it.
func (r *reader) escaped(start int) byte {
	switch {
	case r.at+1 == len(r.text): // no byte is no wrong one: it is the string's end that is missing
		r.giveUp(start, api.ErrRead)
	case r.take(`\\`):
		return '\\'
	case r.take(`\"`):
		return '"'
	case r.take(`\n`):
		return '\n'
	case r.take(`\t`):
		return '\t'
	}
	r.giveUp(r.at, api.ErrRead)
	return 0
}

// piece reads a number, a truth or a name.
func (r *reader) piece() api.Datum {
	start := r.at
	r.at = r.pieceEnd()
	s := r.text[start:r.at]
	switch {
	case isTruth(s):
		return api.Datum{Kind: api.DBool, Text: s}
	case isName(s):
		return api.Datum{Kind: api.DSymbol, Text: s}
	}
	n, ok := digitsOf(s)
	if !ok {
		r.giveUp(start, api.ErrRead)
	}
	if !number.Can(n) { // nothing but its length can be wrong with it
		r.giveUp(start, api.ErrBig)
	}
	return api.Datum{Kind: api.DNumber, Text: n}
}

// pieceEnd is where the piece that stands here ends.
func (r *reader) pieceEnd() int {
	for i := r.at; i < len(r.text); i++ {
		switch r.text[i] {
		case '(', ')', '"', '\'', ';', ' ', '\t', '\n', '\r':
			return i
		case '#':
			if strings.HasPrefix(r.text[i:], "#(") {
				return i
			}
		}
	}
	return len(r.text)
}

// digitsOf is a number's one form, of digits that may have noughts or a sign ahead.
func digitsOf(s string) (string, bool) {
	sign, digits := cutSign(s)
	if digits == "" || strings.Trim(digits, "0123456789") != "" {
		return "", false
	}
	digits = strings.TrimLeft(digits, "0")
	switch {
	case digits == "":
		return "0", true
	case sign == "-":
		return "-" + digits, true
	}
	return digits, true
}
