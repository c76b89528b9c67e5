package serial

import (
	"rostrum/api"
	"rostrum/heap"
)

// side is a heap, with the objects that were met in it, and their numbers.
type side struct {
	h   *heap.Heap
	met map[api.Word]int
}

func newSide(h *heap.Heap) side { return side{h: h, met: map[api.Word]int{}} }

// twins goes through two heaps at once.
type twins struct {
	left, right side
	todo        [][2]api.Word // objects that were met at once, and are to be held against each other
}

func (t *twins) all(a, b api.Word) bool {
	if !t.meet(a, b) {
		return false
	}
	for len(t.todo) > 0 {
		next := t.todo
		t.todo = nil
		for _, w := range next {
			if !t.objects(w[0], w[1]) {
				return false
			}
		}
	}
	return true
}

// meet tells whether two words may be the same, as far as can be told without what they lead to.
func (t *twins) meet(a, b api.Word) bool {
	if t.left.h.Kind(a) == 0 || t.right.h.Kind(b) == 0 {
		return a == b && isPlain(a)
	}
	n, again := t.left.met[a]
	m, too := t.right.met[b]
	if again || too {
		return again && too && n == m
	}
	n = len(t.left.met)
	t.left.met[a], t.right.met[b] = n, n
	t.todo = append(t.todo, [2]api.Word{a, b})
	return true
}

// objects holds two objects against each other.
func (t *twins) objects(a, b api.Word) bool {
	g, h := t.left.h, t.right.h
	if g.Kind(a) != h.Kind(b) || g.Len(a) != h.Len(b) || g.String(a) != h.String(b) {
		return false
	}
	l, m := fields(g, a), fields(h, b)
	for i := range l {
		if !t.meet(l[i], m[i]) {
			return false
		}
	}
	return true
}
