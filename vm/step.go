package vm

import (
	"rostrum/api"
	"rostrum/prims"
)

// runner is a machine as long as it runs: only then it has a world outside.
type runner struct {
	*Machine
	env Env
}

// step does what stands at the place.
func (r runner) step() api.Errno {
	if r.place < 0 {
		return r.goOn()
	}
	if r.place >= len(r.code.Instrs) {
		return api.ErrCode
	}
	in := r.code.Instrs[r.place]
	switch in.Op {
	case api.OpJump:
		r.place = in.A
		return api.OK
	case api.OpJumpF:
		r.jumpIfFalse(in.A)
		return api.OK
	case api.OpCall:
		return r.callPushed(in.A)
	case api.OpReturn:
		return r.giveBack(r.get(accumulator))
	case api.OpHalt:
		r.state = api.Done
		return api.OK
	}
	r.place++
	return r.straight(in)
}

func (m *Machine) jumpIfFalse(place int) {
	if m.get(accumulator) == api.False {
		m.place = place
		return
	}
	m.place++
}

// straight does an instruction behind which the next one stands.
func (m *Machine) straight(in api.Instr) api.Errno {
	switch in.Op {
	case api.OpFrame:
		if e := m.addFrame(in.A, m.get(environment), m.get(stack)); e != api.OK {
			return e
		}
		return m.set(register{stack, api.Nil})
	case api.OpPush:
		w, e := m.heap.Make(api.KPair, m.get(accumulator), m.get(stack))
		if e != api.OK {
			return e
		}
		return m.set(register{stack, w})
	}
	w, e := m.value(in)
	if e != api.OK {
		return e
	}
	return m.set(register{accumulator, w})
}

// value is what an instruction has the accumulator be.
func (m *Machine) value(in api.Instr) (api.Word, api.Errno) {
	switch in.Op {
	case api.OpConst:
		return prims.Load(m.heap, m.code.Consts[in.A])
	case api.OpLocal:
		return m.field(m.around(in.A), in.B+1)
	case api.OpSet:
		return api.Void, m.setField(m.around(in.A), in.B+1)
	case api.OpGlobal:
		return m.bound(in.A)
	case api.OpSetG:
		if _, e := m.bound(in.A); e != api.OK {
			return 0, e
		}
		fallthrough
	case api.OpDefine:
		return api.Void, m.setField(m.get(globals), in.A)
	case api.OpClosure:
		return m.heap.Make(api.KClosure, small(in.A), small(in.B), m.get(environment))
	}
	return 0, api.ErrCode
}

// around is the environment so many around the one that the machine has; Nil, if there is none.
func (m *Machine) around(count int) api.Word {
	w := m.get(environment)
	for range count {
		if m.heap.Kind(w) != api.KVector {
			return api.Nil
		}
		w = m.part(w, 0)
	}
	return w
}

// field is a field of a KVector that must have it.
func (m *Machine) field(w api.Word, i int) (api.Word, api.Errno) {
	if m.heap.Kind(w) != api.KVector || i >= m.heap.Len(w) {
		return 0, api.ErrCode
	}
	return m.heap.Field(w, i)
}

// setField has such a field be the accumulator.
func (m *Machine) setField(w api.Word, i int) api.Errno {
	if _, e := m.field(w, i); e != api.OK {
		return e
	}
	return m.heap.Set(w, i, m.get(accumulator))
}

// bound is what a name means.
func (m *Machine) bound(name int) (api.Word, api.Errno) {
	w, e := m.field(m.get(globals), name)
	if e == api.OK && w == api.Unbound {
		return 0, api.ErrUnbound
	}
	return w, e
}
