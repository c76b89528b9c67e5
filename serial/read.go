package serial

import (
	"rostrum/api"
	"rostrum/wire"
)

const (
	mostBytes  = 4000 // of a text
	mostFields = 1000 // of a KVector
	mostSmall  = 1<<62 - 1
)

// widths is how many fields objects have by their kind, but for those of a KVector.
var widths = [api.NumKinds]int{api.KPair: 2, api.KClosure: 3, api.KCont: 2, api.KFrame: 4}

// form is what bytes say. Its words are those of a heap, but for an object's, which is 2n + 2 of its number n.
type form struct {
	objects []object
	links   []link // where each object is met first; of the first one, which the word leads to, none
	word    api.Word
}

type object struct {
	kind   int
	text   string
	fields []api.Word
}

// link is a field of an object.
type link struct{ object, field int }

func leads(w api.Word) bool { return w > 0 && w&1 == 0 }

func number(w api.Word) int { return int(w)/2 - 1 }

func word(number int) api.Word { return api.Word(2*number + 2) }

// read is the form of bytes, if they are those of a word that Encode could tell.
func read(b []byte) (*form, bool) {
	r := &reader{Reader: wire.Over(b)}
	if r.number(version) != version {
		return nil, false
	}
	r.count = r.number(mostObjects)
	if r.count > 0 {
		r.links = make([]link, 1)
	}
	for i := range r.count {
		if i == len(r.links) { // nothing ahead leads to it
			return nil, false
		}
		r.objects = append(r.objects, r.object())
		if r.wrong {
			return nil, false
		}
	}
	r.form.word = r.last()
	return &r.form, !r.wrong && r.End() == api.OK
}

// reader reads a form part by part, and remembers whether something was wrong.
type reader struct {
	*wire.Reader
	form
	count int // how many objects there are to be
	wrong bool
}

// number is the next one, which must be at most so great.
func (r *reader) number(most int) int {
	n, e := r.Uint()
	if e != api.OK || n > most {
		r.wrong = true
		return 0
	}
	return n
}

func (r *reader) object() object {
	o := object{kind: r.number(api.NumKinds - 1)}
	switch {
	case o.kind == 0:
		r.wrong = true
	case isTexts(o.kind):
		o.text = r.text()
	default:
		o.fields = r.fields(o.kind)
	}
	return o
}

func (r *reader) text() string {
	s, e := r.Text(mostBytes)
	r.wrong = r.wrong || e != api.OK
	return s
}

func (r *reader) fields(kind int) []api.Word {
	n := r.number(mostFields)
	if kind != api.KVector && n != widths[kind] {
		r.wrong = true
		return nil
	}
	l := make([]api.Word, n)
	for i := range l {
		l[i] = r.field(i)
	}
	return l
}

// field is the ith one of the object that is read.
func (r *reader) field(i int) api.Word {
	if r.wrong {
		return 0
	}
	w := r.any()
	if leads(w) && number(w) == len(r.links) { // it is met first here
		r.links = append(r.links, link{object: len(r.objects), field: i})
	}
	return w
}

// any is the next word, of an object only, if it was met ahead, or is the next one to be met.
func (r *reader) any() api.Word {
	switch r.number(numFields - 1) {
	case isObject:
		return word(r.number(min(len(r.links), r.count-1)))
	case isSmall:
		return api.Word(2*r.number(mostSmall) + 1)
	case isBelow:
		return api.Word(2*(-1-r.number(mostSmall)) + 1)
	}
	return api.Word(-2 * r.number(int(-leastConstant)/2))
}

// last is the word behind all objects, which were met from it on.
func (r *reader) last() api.Word {
	w := r.any()
	if leads(w) != (r.count > 0) || leads(w) && number(w) != 0 {
		r.wrong = true
	}
	return w
}
