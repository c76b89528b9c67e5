package desk

import (
	"strconv"
	"strings"

	"rostrum/api"
	"rostrum/server"
)

const hexDigits = "0123456789abcdef"

func tellError(e api.Errno) string { return "error " + strconv.Itoa(int(e)) }

func tellReply(r api.Reply) string {
	words := []string{"reply", r.ID}
	switch r.Status {
	case api.RepDone:
		words = append(words, "done", escaped(r.Text))
	case api.RepFailed:
		words = append(words, "failed", strconv.Itoa(r.Why))
	case api.RepSession:
		words = append(words, "session", strconv.Itoa(r.Session), escaped(r.Text))
	}
	return strings.Join(words, " ")
}

// escaped is a text on one line, of bytes that can be seen.
func escaped(s string) string {
	var b strings.Builder
	for _, c := range []byte(s) {
		if isPlain(c) {
			b.WriteByte(c)
			continue
		}
		b.WriteByte('\\')
		b.WriteByte(hexDigits[c>>4])
		b.WriteByte(hexDigits[c&15])
	}
	return b.String()
}

func isPlain(c byte) bool { return c >= ' ' && c <= '~' && c != '\\' }

func tellRoots(s *server.Server) string {
	words := []string{"roots"}
	for _, x := range s.Roots() {
		words = append(words, x.Name+":"+strconv.Itoa(len(x.Bytes)))
	}
	return strings.Join(words, " ")
}

func tellSessions(s *server.Server) string {
	words := []string{"sessions"}
	for _, id := range s.Sessions() {
		words = append(words, strconv.Itoa(id))
	}
	return strings.Join(words, " ")
}

func tellBusy(s *server.Server) string {
	words := []string{"busy"}
	for _, id := range s.Busy() {
		if id == "" {
			id = "-"
		}
		words = append(words, id)
	}
	return strings.Join(words, " ")
}
