package vm

import (
	"rostrum/api"
	"rostrum/hold"
	"rostrum/prims"
)

const (
	mostArguments = 255
	mostPairs     = 10000 // of a list
)

// primitiveWord is the word of the primitive of a number, primitiveNumber the other way round.
func primitiveWord(n int) api.Word { return api.Prim0 - 2*api.Word(n) }

func primitiveNumber(w api.Word) (int, bool) {
	n := int(api.Prim0-w) / 2
	return n, w == primitiveWord(n) && n >= 0 && n < prims.Count()
}

// primitiveName is the name of the primitive that a word is; empty of others.
func primitiveName(w api.Word) string {
	n, ok := primitiveNumber(w)
	if !ok {
		return ""
	}
	return prims.Name(n)
}

// callPushed calls the accumulator with the last of what was pushed. What would call itself for ever takes fuel, and gets nowhere.
func (r runner) callPushed(count int) api.Errno {
	args, ok := r.pushed(count)
	if !ok {
		return api.ErrCode
	}
	w := r.get(accumulator)
	if r.isEndless(w, args) {
		return api.OK
	}
	if e := r.set(register{stack, api.Nil}); e != api.OK {
		return e
	}
	return r.call(w, args...)
}

// pushed is so many words of the stack, the last one that was pushed the last.
func (m *Machine) pushed(count int) ([]api.Word, bool) {
	l := make([]api.Word, count)
	rest := m.get(stack)
	for i := count - 1; i >= 0; i-- {
		if !m.isPair(rest) {
			return nil, false
		}
		l[i], rest = m.part(rest, 0), m.part(rest, 1)
	}
	return l, true
}

// items is those of a list.
func (m *Machine) items(w api.Word) ([]api.Word, bool) {
	var l []api.Word
	for ; m.isPair(w); w = m.part(w, 1) {
		if len(l) == mostPairs {
			return nil, false
		}
		l = append(l, m.part(w, 0))
	}
	return l, w == api.Nil
}

// isEndless tells whether apply would be called by apply again and again: its list, which is apply and a list, leads back to itself. The list that is remembered is a later one each time twice as many went by, so that it comes to lie where they go round.
func (m *Machine) isEndless(w api.Word, args []api.Word) bool {
	remembered, went, most := api.Nil, 0, 1
	for primitiveName(w) == "apply" && len(args) == 2 {
		l := args[1]
		items, ok := m.items(l)
		if !ok || len(items) == 0 {
			return false
		}
		if l == remembered {
			return true
		}
		if went++; went == most {
			remembered, went, most = l, 0, 2*most
		}
		w, args = args[0], items
	}
	return false
}

// call calls a word with arguments. None of these words is void, but each that is made here may have them be so.
func (r runner) call(w api.Word, args ...api.Word) api.Errno {
	for primitiveName(w) == "apply" {
		var e api.Errno
		if w, args, e = r.applied(args); e != api.OK {
			return e
		}
	}
	switch r.heap.Kind(w) {
	case api.KClosure:
		return r.callClosure(w, args)
	case api.KCont:
		if len(args) != 1 {
			return api.ErrCount
		}
		return r.travel(w, args[0])
	}
	if n, ok := primitiveNumber(w); ok {
		return r.callPrimitive(n, args)
	}
	return api.ErrProc
}

// applied is what apply calls, and with what.
func (m *Machine) applied(args []api.Word) (api.Word, []api.Word, api.Errno) {
	if len(args) != 2 {
		return 0, nil, api.ErrCount
	}
	l, ok := m.items(args[1])
	if !ok {
		return 0, nil, api.ErrType
	}
	if len(l) > mostArguments {
		return 0, nil, api.ErrCount
	}
	return args[0], l, api.OK
}

func (m *Machine) callClosure(w api.Word, args []api.Word) api.Errno {
	entry, ok := number(m.part(w, 0))
	form, too := number(m.part(w, 1))
	if !ok || !too || form < 0 {
		return api.ErrCode
	}
	params, rest := form/2, form%2 == 1
	if len(args) < params || len(args) > params && !rest {
		return api.ErrCount
	}
	fields := append([]api.Word{m.part(w, 2)}, args...)
	if rest {
		var e api.Errno
		if fields, e = m.gathered(fields, params+1); e != api.OK {
			return e
		}
	}
	env, e := m.heap.Make(api.KVector, fields...)
	if e != api.OK {
		return e
	}
	if entry < 0 || entry >= len(m.code.Instrs) {
		return api.ErrCode
	}
	m.place = entry
	return m.set(register{environment, env})
}

// gathered is the first so many of some words, and a list of the others.
func (m *Machine) gathered(l []api.Word, count int) ([]api.Word, api.Errno) {
	first, e := m.hold(l)
	if e != api.OK {
		return nil, e
	}
	defer m.heap.Pop(len(l))
	list := api.Nil
	for i := len(l) - 1; i >= count; i-- {
		if list, e = m.heap.Make(api.KPair, m.heap.Root(first+i), list); e != api.OK {
			return nil, e
		}
	}
	held := make([]api.Word, 0, count+1)
	for i := range count {
		held = append(held, m.heap.Root(first+i))
	}
	return append(held, list), api.OK
}

// hold has words be the last roots: the place of the first one.
func (m *Machine) hold(l []api.Word) (int, api.Errno) {
	first, e := hold.Roots(m.heap, len(l))
	if e != api.OK {
		return 0, e
	}
	for i, w := range l {
		m.heap.SetRoot(first+i, w)
	}
	return first, api.OK
}

func (r runner) callPrimitive(n int, args []api.Word) api.Errno {
	switch prims.Name(n) {
	case "call/cc":
		return r.callWithCont(args)
	case "dynamic-wind":
		return r.wind(args)
	case "suspend":
		return r.suspend(args)
	case "root-ref":
		return r.rootRef(args)
	case "root-set!":
		return r.rootSet(args)
	}
	if _, e := r.hold(args); e != api.OK {
		return e
	}
	w, e := prims.Apply(r.heap, n, len(args))
	r.heap.Pop(len(args))
	if e != api.OK {
		return e
	}
	return r.giveBack(w)
}

func (r runner) callWithCont(args []api.Word) api.Errno {
	if len(args) != 1 {
		return api.ErrCount
	}
	first, e := r.hold(args)
	if e != api.OK {
		return e
	}
	k, e := r.heap.Make(api.KCont, r.get(frame), r.get(winds))
	w := r.heap.Root(first)
	r.heap.Pop(1)
	if e != api.OK {
		return e
	}
	return r.call(w, k)
}

func (m *Machine) suspend(args []api.Word) api.Errno {
	if len(args) != 1 {
		return api.ErrCount
	}
	m.state = api.Suspended
	return m.set(register{accumulator, args[0]})
}
