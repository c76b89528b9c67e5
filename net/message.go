package net

import "rostrum/api"

// What a message begins with.
const (
	asks    = 1
	replies = 2
)

const (
	mostID      = 8    // bytes of a request's name
	mostSession = 9999 // the last session
	mostWhy     = 999  // the last number of an error
	mostReply   = 1000 // bytes of a reply's text
)

// Ask is a request as a message, ReadAsk the request of one.
func Ask(r api.Request) ([]byte, api.Errno) {
	if !mayAsk(r) {
		return nil, api.ErrArg
	}
	return asking(&r).message()
}

func ReadAsk(b []byte) (api.Request, api.Errno) {
	var r api.Request
	if !asking(&r).reads(b) || !mayAsk(r) {
		return api.Request{}, api.ErrForm
	}
	return r, api.OK
}

// asking is the codec of a request's message.
func asking(r *api.Request) codec {
	return join(mark(asks), number(&r.Kind), number(&r.Session), text(&r.ID, mostID), text(&r.Text, api.MaxText))
}

// mayAsk tells whether a request may be.
func mayAsk(r api.Request) bool {
	if !IsID(r.ID) || len(r.Text) > api.MaxText {
		return false
	}
	switch r.Kind {
	case api.AskRun:
		return r.Session == 0
	case api.AskResume:
		return isFrom1(r.Session, mostSession)
	}
	return false
}

// Reply and ReadReply are those of a reply.
func Reply(r api.Reply) ([]byte, api.Errno) {
	if !mayReply(r) {
		return nil, api.ErrArg
	}
	return replying(&r).message()
}

func ReadReply(b []byte) (api.Reply, api.Errno) {
	var r api.Reply
	if !replying(&r).reads(b) || !mayReply(r) {
		return api.Reply{}, api.ErrForm
	}
	return r, api.OK
}

// replying is the codec of a reply's message.
func replying(r *api.Reply) codec {
	return join(mark(replies), number(&r.Status), number(&r.Session), number(&r.Why), text(&r.ID, mostID), text(&r.Text, mostReply))
}

// mayReply tells whether a reply may be.
func mayReply(r api.Reply) bool {
	if !IsID(r.ID) || len(r.Text) > mostReply {
		return false
	}
	switch r.Status {
	case api.RepDone:
		return r.Session == 0 && r.Why == 0
	case api.RepFailed:
		return r.Session == 0 && isFrom1(r.Why, mostWhy) && r.Text == ""
	case api.RepSession:
		return isFrom1(r.Session, mostSession) && r.Why == 0
	}
	return false
}

func isFrom1(n, most int) bool { return n >= 1 && n <= most }

// IsID tells whether a text is a request's name.
func IsID(s string) bool {
	if s == "" || len(s) > mostID {
		return false
	}
	for _, c := range []byte(s) {
		if !isLetterOrDigit(c) {
			return false
		}
	}
	return true
}

func isLetterOrDigit(c byte) bool {
	return c >= 'a' && c <= 'z' || c >= 'A' && c <= 'Z' || c >= '0' && c <= '9'
}
