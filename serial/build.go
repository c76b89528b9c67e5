package serial

import (
	"rostrum/api"
	"rostrum/heap"
	"rostrum/hold"
)

func (o *object) cells() int { return hold.Cells(len(o.fields), len(o.text)) }

// greatest is the number of the object that has the most cells.
func (f *form) greatest() int {
	great := 0
	for i := range f.objects {
		if f.objects[i].cells() > f.objects[great].cells() {
			great = i
		}
	}
	return great
}

// build makes a form's objects in a heap: the word that they are to be met from.
func (f *form) build(h *heap.Heap) (api.Word, api.Errno) {
	if len(f.objects) == 0 {
		return f.word, api.OK
	}
	b := builder{h: h, form: f}
	need := 1
	if great := f.greatest(); great > 0 && f.objects[great].cells() > hold.Sure {
		b.great = great
		need++
	}
	root, e := hold.Roots(h, need)
	if e != api.OK {
		return 0, e
	}
	defer h.Pop(need)
	b.root = root
	return b.all()
}

// builder makes objects in the order of their numbers. One root leads to all of them, each by the link where it is met first: so they stay when the heap is collected, and their new words are found.
type builder struct {
	*form
	h     *heap.Heap
	root  int        // the first object's
	great int        // the object that is made ahead of all others, and is the root behind the first one's; 0, if there is none
	words []api.Word // those of the objects that are at their places
	times int        // how often the heap was collected when the words were told
}

// all makes all objects: the first one's word. Should one be too great for the heap, the greatest is: made ahead of the others, it leaves none of them behind then.
func (b *builder) all() (api.Word, api.Errno) {
	if b.great > 0 {
		w, e := b.made(b.great)
		if e != api.OK {
			return 0, e
		}
		b.h.SetRoot(b.root+1, w)
	}
	for i := range b.objects {
		w, e := b.object(i)
		if e != api.OK {
			return 0, e
		}
		b.put(w)
	}
	b.join()
	return b.words[0], api.OK
}

// object is the word of an object that is new.
func (b *builder) object(i int) (api.Word, api.Errno) {
	if i > 0 && i == b.great {
		return b.h.Root(b.root + 1), api.OK
	}
	return b.made(i)
}

// made makes an object that leads to no other one yet.
func (b *builder) made(i int) (api.Word, api.Errno) {
	o := &b.objects[i]
	if isTexts(o.kind) {
		return b.h.Text(o.kind, o.text)
	}
	l := make([]api.Word, len(o.fields))
	for i, w := range o.fields {
		if !leads(w) {
			l[i] = w
		}
	}
	return b.h.Make(o.kind, l...)
}

// put puts the next object at its place.
func (b *builder) put(w api.Word) {
	n := len(b.words)
	if n == 0 {
		b.h.SetRoot(b.root, w)
	} else {
		b.tell()
		b.h.Set(b.words[b.links[n].object], b.links[n].field, w)
	}
	b.words = append(b.words, w)
	b.times = hold.Times(b.h)
}

// tell finds the words anew, if they are void.
func (b *builder) tell() {
	if b.times == hold.Times(b.h) {
		return
	}
	for i := range b.words {
		if i == 0 {
			b.words[i] = b.h.Root(b.root)
			continue
		}
		b.words[i], _ = b.h.Field(b.words[b.links[i].object], b.links[i].field)
	}
}

// join has all fields be what they are to be; those by which objects are met first are so already.
func (b *builder) join() {
	for i, o := range b.objects {
		for j, w := range o.fields {
			if leads(w) {
				b.h.Set(b.words[i], j, b.words[number(w)])
			}
		}
	}
}
