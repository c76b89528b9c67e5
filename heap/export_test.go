package heap

import "rostrum/api"

// MostShift is how much above the words that are kept addresses may be.
const MostShift = mostAddress - mostKept

// Raise has the addresses be as after many collections: nobody could wait for them.
func (h *Heap) Raise(shift api.Word) { h.shift = shift }
