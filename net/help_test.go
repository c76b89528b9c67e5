package net_test

import (
	"bytes"
	"encoding/binary"
	"fmt"
	"hash/crc32"
	"math/rand"
	"testing"

	"rostrum/api"
	"rostrum/net"
)

func want(t *testing.T, what string, e, why api.Errno) {
	t.Helper()
	if e != why {
		t.Errorf("%s: %v, want %v", what, e, why)
	}
}

func send(t *testing.T, n *net.Net, l ...string) {
	t.Helper()
	for _, s := range l {
		if e := n.Send([]byte(s)); e != api.OK {
			t.Fatalf("Send(%.20q): %v", s, e)
		}
	}
}

// wantList: List and Look tell these messages, and there is none behind them.
func wantList(t *testing.T, what string, n *net.Net, l ...string) {
	t.Helper()
	got := n.List()
	if len(got) != len(l) {
		t.Fatalf("%s: %d messages, want %d", what, len(got), len(l))
	}
	for i, s := range l {
		if string(got[i]) != s {
			t.Errorf("%s: message %d is %.20q, want %.20q", what, i, got[i], s)
		}
		if b, e := n.Look(i); string(b) != s || e != api.OK {
			t.Errorf("%s: Look(%d) = %.20q, %v, want %.20q", what, i, b, e, s)
		}
	}
	if b, e := n.Look(len(l)); len(b) > 0 || e != api.ErrNet {
		t.Errorf("%s: Look behind the last one: %.20q, %v", what, b, e)
	}
}

// A second maker of messages, which takes what may not be as well.

func framed(p []byte) []byte {
	b := append(binary.AppendUvarint(nil, uint64(len(p))), p...)
	return binary.LittleEndian.AppendUint32(b, crc32.ChecksumIEEE(p))
}

func payload(mark byte, numbers []int, texts ...string) []byte {
	b := []byte{mark}
	for _, n := range numbers {
		b = binary.AppendUvarint(b, uint64(n))
	}
	for _, s := range texts {
		b = append(binary.AppendUvarint(b, uint64(len(s))), s...)
	}
	return b
}

func askPayload(r api.Request) []byte {
	return payload(1, []int{r.Kind, r.Session}, r.ID, r.Text)
}

func replyPayload(r api.Reply) []byte {
	return payload(2, []int{r.Status, r.Session, r.Why}, r.ID, r.Text)
}

func noise(random *rand.Rand, n int) string {
	b := make([]byte, n)
	random.Read(b)
	return string(b)
}

// someID is a request's name, or now and then nearly one.
func someID(random *rand.Rand) string {
	const letters = "abcxyzABCXYZ0189"
	b := make([]byte, 1+random.Intn(8))
	for i := range b {
		b[i] = letters[random.Intn(len(letters))]
	}
	switch random.Intn(12) {
	case 0:
		return ""
	case 1:
		return string(b) + "abcdefgh"
	case 2:
		b[random.Intn(len(b))] = byte(random.Intn(256))
	}
	return string(b)
}

// pick is one of some numbers.
func pick(random *rand.Rand, l ...int) int { return l[random.Intn(len(l))] }

// roomy is a copy with spare room behind it that holds something.
func roomy(b []byte) []byte {
	c := append(bytes.Clone(b), "spare room"...)
	return c[:len(b)]
}

// short is the beginning of what is told, without bytes that are no text.
func short(x any) string { return fmt.Sprintf("%.90s", fmt.Sprintf("%+q", fmt.Sprint(x))) }
