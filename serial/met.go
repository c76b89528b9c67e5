package serial

import (
	"cmp"
	"maps"
	"slices"

	"rostrum/api"
	"rostrum/heap"
)

const leastConstant api.Word = -1 << 21

// isPlain tells whether a word is a small number or a constant.
func isPlain(w api.Word) bool { return w&1 == 1 || w <= 0 && w >= leastConstant }

func isThere(h *heap.Heap, w api.Word) bool { return isPlain(w) || h.Kind(w) != 0 }

func isTexts(kind int) bool {
	return kind == api.KString || kind == api.KSymbol || kind == api.KBig
}

// fields is those of an object; a text has none.
func fields(h *heap.Heap, w api.Word) []api.Word {
	if isTexts(h.Kind(w)) {
		return nil
	}
	l := make([]api.Word, h.Len(w))
	for i := range l {
		l[i], _ = h.Field(w, i)
	}
	return l
}

// meet is the objects that a word leads to, with their numbers: breadth first, from 0 on. It gives up when it has met more than most.
func meet(h *heap.Heap, w api.Word, most int) map[api.Word]int {
	met := map[api.Word]int{}
	todo := []api.Word{w}
	for len(todo) > 0 && len(met) <= most {
		var next []api.Word
		for _, w := range todo {
			if _, again := met[w]; again || h.Kind(w) == 0 {
				continue
			}
			met[w] = len(met)
			next = append(next, fields(h, w)...)
		}
		todo = next
	}
	return met
}

// inOrder is the keys of a map, sorted by what stands under them.
func inOrder[K comparable, V cmp.Ordered](m map[K]V) []K {
	return slices.SortedFunc(maps.Keys(m), func(a, b K) int { return cmp.Compare(m[a], m[b]) })
}
