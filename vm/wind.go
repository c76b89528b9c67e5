package vm

import "rostrum/api"

// Places where a frame goes on that the code has not.
const (
	beforeDone = -1 - iota
	thunkDone
	afterDone
	outDone // an after on a way
	inDone  // a before on a way
)

// goOn does what a frame of such a place is for.
func (r runner) goOn() api.Errno {
	env := r.get(environment)
	switch {
	case r.place == beforeDone && r.isVector(env, 3):
		return r.wound(env)
	case r.place == thunkDone && r.isVector(env, 3):
		return r.unwind()
	case r.place == afterDone:
		return r.giveBack(env)
	case r.place == outDone && r.isVector(env, 2):
		return r.travel(r.part(env, 0), r.part(env, 1))
	case r.place == inDone && r.isVector(env, 3):
		if e := r.set(register{winds, r.part(env, 2)}); e != api.OK {
			return e
		}
		return r.travel(r.part(env, 0), r.part(env, 1))
	}
	return api.ErrCode
}

// wind is dynamic-wind.
func (r runner) wind(args []api.Word) api.Errno {
	if len(args) != 3 {
		return api.ErrCount
	}
	if e := r.addFrameWith(beforeDone, args...); e != api.OK {
		return e
	}
	return r.call(r.carried(0))
}

// addFrameWith adds a frame whose environment has some words.
func (m *Machine) addFrameWith(place int, l ...api.Word) api.Errno {
	env, e := m.heap.Make(api.KVector, l...)
	if e != api.OK {
		return e
	}
	return m.addFrame(place, env, api.Nil)
}

// carried is a word of the environment of the first frame.
func (m *Machine) carried(i int) api.Word { return m.part(m.part(m.get(frame), 1), i) }

// wound has before and after be one of winds, and calls the thunk.
func (r runner) wound(env api.Word) api.Errno {
	both, e := r.heap.Make(api.KVector, r.part(env, 0), r.part(env, 2))
	if e != api.OK {
		return e
	}
	w, e := r.heap.Make(api.KPair, both, r.get(winds))
	if e != api.OK {
		return e
	}
	if e := r.set(register{winds, w}); e != api.OK {
		return e
	}
	if e := r.addFrame(thunkDone, r.get(environment), api.Nil); e != api.OK {
		return e
	}
	return r.call(r.carried(1))
}

// unwind takes the first of winds off, and calls after.
func (r runner) unwind() api.Errno {
	w := r.get(winds)
	if !r.isPair(w) {
		return api.ErrCode
	}
	if e := r.set(register{winds, r.part(w, 1)}); e != api.OK {
		return e
	}
	if e := r.addFrame(afterDone, r.get(accumulator), api.Nil); e != api.OK {
		return e
	}
	return r.call(r.part(r.get(environment), 2))
}

// travel goes to a continuation with a value, by one before or after at a time.
func (r runner) travel(k, value api.Word) api.Errno {
	if r.heap.Kind(k) != api.KCont {
		return api.ErrCode
	}
	its := r.part(k, 1)
	if its == r.get(winds) {
		if e := r.set(register{frame, r.part(k, 0)}); e != api.OK {
			return e
		}
		return r.giveBack(value)
	}
	if next, ok := r.nextOf(its); ok {
		return r.goIn(k, value, next)
	}
	return r.goOut(k, value)
}

// nextOf is the part of other winds whose rest is winds. No list has more pairs than the heap has cells: one that goes round, which only a hand can make, is left so.
func (m *Machine) nextOf(other api.Word) (api.Word, bool) {
	c := m.heap.Counts()
	for range c.Young + c.Old {
		if !m.isPair(other) {
			break
		}
		rest := m.part(other, 1)
		if rest == m.get(winds) {
			return other, true
		}
		other = rest
	}
	return 0, false
}

// firstWind is the before (0) or the after (1) of the first of winds.
func (m *Machine) firstWind(w api.Word, i int) (api.Word, bool) {
	first := m.part(w, 0)
	if !m.isPair(w) || !m.isVector(first, 2) {
		return 0, false
	}
	return m.part(first, i), true
}

func (r runner) goOut(k, value api.Word) api.Errno {
	if e := r.addFrameWith(outDone, k, value); e != api.OK {
		return e
	}
	w := r.get(winds)
	after, ok := r.firstWind(w, 1)
	if !ok {
		return api.ErrCode
	}
	if e := r.set(register{winds, r.part(w, 1)}); e != api.OK {
		return e
	}
	return r.call(after)
}

func (r runner) goIn(k, value, next api.Word) api.Errno {
	if e := r.addFrameWith(inDone, k, value, next); e != api.OK {
		return e
	}
	before, ok := r.firstWind(r.carried(2), 0)
	if !ok {
		return api.ErrCode
	}
	return r.call(before)
}
