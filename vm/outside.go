package vm

import (
	"rostrum/api"
	"rostrum/serial"
)

const mostName = 11 // bytes of a root's name

// nowhere is the world outside of a machine that was handed none.
type nowhere struct{}

func (nowhere) Get(name string) ([]byte, api.Errno) { return nil, api.ErrState }
func (nowhere) Put(name string, b []byte) api.Errno { return api.ErrState }

// ask is what the world outside answers. One that breaks down over it, as an Env made by hand may, is as good as none.
func (r runner) ask(name string) (b []byte, e api.Errno) {
	defer func() {
		if recover() != nil {
			b, e = nil, api.ErrState
		}
	}()
	return r.env.Get(name)
}

func (r runner) tell(name string, b []byte) (e api.Errno) {
	defer func() {
		if recover() != nil {
			e = api.ErrState
		}
	}()
	return r.env.Put(name, b)
}

// rootName is the name that the first of so many arguments is.
func (m *Machine) rootName(args []api.Word, count int) (string, api.Errno) {
	if len(args) != count {
		return "", api.ErrCount
	}
	if m.heap.Kind(args[0]) != api.KSymbol || m.heap.Len(args[0]) > mostName {
		return "", api.ErrType
	}
	return m.heap.String(args[0]), api.OK
}

func (r runner) rootRef(args []api.Word) api.Errno {
	name, e := r.rootName(args, 1)
	if e != api.OK {
		return e
	}
	b, e := r.ask(name)
	if e != api.OK {
		return e
	}
	if len(b) == 0 {
		return r.giveBack(api.False)
	}
	w, e := serial.Decode(r.heap, b)
	if e != api.OK {
		return e
	}
	return r.giveBack(w)
}

func (r runner) rootSet(args []api.Word) api.Errno {
	name, e := r.rootName(args, 2)
	if e != api.OK {
		return e
	}
	b, e := serial.Encode(r.heap, args[1])
	if e != api.OK {
		return e
	}
	if e := r.tell(name, b); e != api.OK {
		return e
	}
	return r.giveBack(api.Void)
}
