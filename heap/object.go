package heap

import "rostrum/api"

const (
	mostFields = 1000 // of a KVector
	mostBytes  = 4000 // of a text
	cellBytes  = 8    // of a text, in a cell
)

// widths is how many fields objects have by their kind, but for those of a KVector.
var widths = [api.NumKinds]int{api.KPair: 2, api.KClosure: 3, api.KCont: 2, api.KFrame: 4}

// object is one; its fields are kept words.
type object struct {
	kind    int
	fields  []api.Word
	text    string
	touched bool // it is one of those of which the heap knows that they were set a young one's word
}

func (o *object) cells() int {
	return 1 + len(o.fields) + (len(o.text)+cellBytes-1)/cellBytes
}

func isTexts(kind int) bool {
	return kind == api.KString || kind == api.KSymbol || kind == api.KBig
}

// mayHave tells whether objects of a kind may have so many fields.
func mayHave(kind, fields int) bool {
	if kind <= 0 || kind >= api.NumKinds || isTexts(kind) {
		return false
	}
	if kind == api.KVector {
		return fields <= mostFields
	}
	return fields == widths[kind]
}

// part is the objects of one age, with their cells, and how many of these there may be.
type part struct {
	objects     []object
	cells, most int
}

func (p *part) add(l ...object) {
	p.objects = append(p.objects, l...)
	for i := range l {
		p.cells += l[i].cells()
	}
}
