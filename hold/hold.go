// Package hold is what layers share that make objects in a heap which somebody else has.
package hold

import (
	"rostrum/api"
	"rostrum/heap"
)

// Sure is how many cells an object may have that goes into each heap that is not spent.
const Sure = 16

const cellBytes = 8 // of a text, in a cell

// Cells is how many an object has that has so many fields, or a text of so many bytes.
func Cells(fields, bytes int) int { return 1 + fields + (bytes+cellBytes-1)/cellBytes }

// Missing tells whether a heap is one that no call made.
func Missing(h *heap.Heap) bool { return h.Pop(0) == api.ErrNil }

// Roots puts so many further roots, all Nil, behind those of a heap: the place of the first one. If there is no room for all, it puts none.
func Roots(h *heap.Heap, n int) (int, api.Errno) {
	first := h.Roots()
	for i := range n {
		if e := h.Push(api.Nil); e != api.OK {
			h.Pop(i)
			return 0, e
		}
	}
	return first, api.OK
}

// Times is how often a heap was collected: words that were told when it was less are void.
func Times(h *heap.Heap) int {
	c := h.Counts()
	return c.Minor + c.Major
}
