package vm

import "rostrum/api"

// The registers are roots of the heap: who collects it anywhere, even from outside, leaves all words in them valid. So words are fetched from them anew behind all that may make an object.
const (
	accumulator = iota
	environment
	stack
	frame
	globals
	winds
	registers
)

// register is one, and what it is to be.
type register struct {
	at   int
	word api.Word
}

func (m *Machine) get(at int) api.Word { return m.heap.Root(at) }

func (m *Machine) set(l ...register) api.Errno {
	for _, r := range l {
		if e := m.heap.SetRoot(r.at, r.word); e != api.OK {
			return e
		}
	}
	return api.OK
}

func small(n int) api.Word { return api.Word(2*n + 1) }

// number is the small number that a word is.
func number(w api.Word) (int, bool) { return int(w) >> 1, w&1 == 1 }

// part is a field of an object; Nil, if it has none such.
func (m *Machine) part(w api.Word, i int) api.Word {
	v, _ := m.heap.Field(w, i)
	return v
}

func (m *Machine) isVector(w api.Word, fields int) bool {
	return m.heap.Kind(w) == api.KVector && m.heap.Len(w) == fields
}

func (m *Machine) isPair(w api.Word) bool { return m.heap.Kind(w) == api.KPair }

// addFrame puts a new frame ahead of the others.
func (m *Machine) addFrame(place int, env, rest api.Word) api.Errno {
	w, e := m.heap.Make(api.KFrame, small(place), env, rest, m.get(frame))
	if e != api.OK {
		return e
	}
	return m.set(register{frame, w})
}

// giveBack returns a value to the frame.
func (m *Machine) giveBack(value api.Word) api.Errno {
	f := m.get(frame)
	if f == api.Nil {
		m.state = api.Done
		return m.set(register{accumulator, value})
	}
	place, ok := number(m.part(f, 0))
	if m.heap.Kind(f) != api.KFrame || !ok {
		return api.ErrCode
	}
	m.place = place
	return m.set(
		register{accumulator, value},
		register{environment, m.part(f, 1)},
		register{stack, m.part(f, 2)},
		register{frame, m.part(f, 3)},
	)
}
