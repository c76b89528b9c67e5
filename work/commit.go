package work

import (
	"rostrum/api"
	"rostrum/session"
)

// lock, check and publish are the phases of the commit; none of them takes fuel.
func (j *Job) lock(int) api.Errno { return j.goneBy(j.tx.Lock()) }

func (j *Job) check(int) api.Errno { return j.goneBy(j.tx.Check()) }

// goneBy has the phase be over, if what was done in it has no error.
func (j *Job) goneBy(e api.Errno) api.Errno {
	if e == api.OK {
		j.phase++
	}
	return e
}

func (j *Job) publish(int) api.Errno {
	if e := j.tx.Check(); e != api.OK {
		return e
	}
	if j.isThereNow() {
		return api.ErrClash
	}
	r, e := j.keep()
	if e != api.OK {
		j.tx.Abort()
		j.end(j.keepFull())
		return api.OK
	}
	j.tx.Publish()
	j.end(r)
	return api.OK
}

// isThereNow tells whether the request fails for want of a session that another one made since.
func (j *Job) isThereNow() bool {
	if j.reply.Why != int(api.ErrSession) {
		return false
	}
	_, e := session.Unpack(j.store, j.request.Session)
	return e != api.ErrSession
}

// keep has the store keep all that the request changes, and the reply that tells of it.
func (j *Job) keep() (api.Reply, api.Errno) {
	r := j.reply
	l, e := j.roots()
	if e != api.OK {
		return api.Reply{}, e
	}
	if r.Status == api.RepSession {
		id, pieces, e := j.pieces()
		if e != api.OK {
			return api.Reply{}, e
		}
		r.Session = id
		l = append(l, pieces...)
	}
	c, e := session.Cache(r)
	if e != api.OK {
		return api.Reply{}, e
	}
	return r, j.store.Batch(append(l, c))
}

// roots is the changes of those that the transaction wrote.
func (j *Job) roots() ([]api.Change, api.Errno) {
	var l []api.Change
	for _, w := range j.tx.Writes() {
		c, e := session.Root(w.Name, w.Bytes)
		if e != api.OK {
			return nil, e
		}
		l = append(l, c)
	}
	return l, api.OK
}

// pieces is the number of the session that the machine saved, the changes that keep it, and the one that counts it.
func (j *Job) pieces() (int, []api.Change, api.Errno) {
	id, e := session.Next(j.store)
	if e != api.OK {
		return 0, nil, e
	}
	l, e := session.Pack(id, j.session)
	if e != api.OK {
		return 0, nil, e
	}
	c, e := session.Count(id + 1)
	return id, append(l, c), e
}

// keepFull is the reply that there was no room; it is kept, if there is room for that.
func (j *Job) keepFull() api.Reply {
	r := api.Reply{ID: j.request.ID, Status: api.RepFailed, Why: int(api.ErrFull)}
	if c, e := session.Cache(r); e == api.OK {
		j.store.Batch([]api.Change{c})
	}
	return r
}
