package net_test

import (
	"bytes"
	"math"
	"math/rand"
	"slices"
	"strings"
	"testing"

	"rostrum/api"
	"rostrum/net"
)

// P19.1

func TestNew(t *testing.T) {
	wantList(t, "new", net.New())
	a, b := net.New(), net.New()
	send(t, a, "x")
	wantList(t, "another one", b)
	wantList(t, "the first one", a, "x")
}

func TestSend(t *testing.T) {
	n := net.New()
	long := strings.Repeat("x", 4096)
	send(t, n, "b", "", "a", long, "b")
	want(t, "nil", n.Send(nil), api.OK)
	wantList(t, "sent", n, "b", "", "a", long, "b", "")
	for _, size := range []int{4097, 5000, 1 << 20} {
		want(t, "too long", n.Send(make([]byte, size)), api.ErrLong)
	}
	wantList(t, "refused", n, "b", "", "a", long, "b", "")
}

func TestSendFull(t *testing.T) {
	n := net.New()
	var l []string
	for i := range api.MaxQueue {
		l = append(l, strings.Repeat("m", i))
	}
	send(t, n, l...)
	wantList(t, "full", n, l...)
	want(t, "one more", n.Send([]byte("a")), api.ErrFull)
	want(t, "one more, empty", n.Send(nil), api.ErrFull)
	want(t, "one more, too long", n.Send(make([]byte, 4097)), api.ErrLong)
	want(t, "Twice", n.Twice(3), api.ErrFull)
	want(t, "Twice of none", n.Twice(api.MaxQueue), api.ErrNet)
	want(t, "Twice below", n.Twice(-1), api.ErrNet)
	wantList(t, "refused", n, l...)
	want(t, "Drop", n.Drop(10), api.OK)
	want(t, "Twice with room", n.Twice(10), api.OK)
	l = append(slices.Delete(l, 10, 11), strings.Repeat("m", 11))
	wantList(t, "full again", n, l...)
	want(t, "full again", n.Send(nil), api.ErrFull)
	if b, e := n.Take(63); string(b) != l[63] || e != api.OK {
		t.Errorf("Take: %q, %v", b, e)
	}
	send(t, n, "last")
	wantList(t, "the last one", n, append(l[:63], "last")...)
}

func TestDrop(t *testing.T) {
	n := net.New()
	send(t, n, "a", "b", "c", "d")
	want(t, "in the middle", n.Drop(1), api.OK)
	wantList(t, "in the middle", n, "a", "c", "d")
	want(t, "the last one", n.Drop(2), api.OK)
	wantList(t, "the last one", n, "a", "c")
	want(t, "the first one", n.Drop(0), api.OK)
	wantList(t, "the first one", n, "c")
	want(t, "the only one", n.Drop(0), api.OK)
	wantList(t, "the only one", n)
	want(t, "none", n.Drop(0), api.ErrNet)
}

func TestTwice(t *testing.T) {
	n := net.New()
	send(t, n, "a", "", "c")
	want(t, "the first one", n.Twice(0), api.OK)
	want(t, "one in the middle", n.Twice(1), api.OK)
	want(t, "the last one", n.Twice(4), api.OK)
	wantList(t, "behind all", n, "a", "", "c", "a", "", "")
}

func TestTakeAndLook(t *testing.T) {
	n := net.New()
	send(t, n, "a", "b", "", "d")
	for _, c := range []struct {
		i    int
		want string
		left []string
	}{
		{1, "b", []string{"a", "", "d"}},
		{1, "", []string{"a", "d"}},
		{0, "a", []string{"d"}},
		{0, "d", nil},
	} {
		if b, e := n.Look(c.i); string(b) != c.want || e != api.OK {
			t.Errorf("Look(%d) = %q, %v, want %q", c.i, b, e, c.want)
		}
		if b, e := n.Take(c.i); string(b) != c.want || e != api.OK {
			t.Errorf("Take(%d) = %q, %v, want %q", c.i, b, e, c.want)
		}
		wantList(t, "taken", n, c.left...)
	}
}

// The chapter's example.
func TestTwiceThenTake(t *testing.T) {
	n := net.New()
	send(t, n, "a")
	want(t, "Twice", n.Twice(0), api.OK)
	if b, e := n.Take(0); string(b) != "a" || e != api.OK {
		t.Errorf("Take: %q, %v", b, e)
	}
	wantList(t, "still", n, "a")
}

func TestNoSuchMessage(t *testing.T) {
	for _, l := range [][]string{nil, {"a"}, {"a", "b", "c"}} {
		n := net.New()
		send(t, n, l...)
		for _, i := range []int{-1, len(l), len(l) + 1, 64, math.MinInt, math.MaxInt, math.MinInt + 1, -64} {
			want(t, "Drop", n.Drop(i), api.ErrNet)
			want(t, "Twice", n.Twice(i), api.ErrNet)
			if b, e := n.Take(i); len(b) > 0 || e != api.ErrNet {
				t.Errorf("Take(%d): %q, %v", i, b, e)
			}
			if b, e := n.Look(i); len(b) > 0 || e != api.ErrNet {
				t.Errorf("Look(%d): %q, %v", i, b, e)
			}
		}
		wantList(t, "refused", n, l...)
	}
}

// Rules that hold everywhere: Objects, Memory.

func TestNetsThatNoCallMade(t *testing.T) {
	for _, n := range []*net.Net{nil, {}, new(net.Net)} {
		for _, i := range []int{-1, 0, 1} {
			want(t, "Drop", n.Drop(i), api.ErrNil)
			want(t, "Twice", n.Twice(i), api.ErrNil)
			if b, e := n.Take(i); len(b) > 0 || e != api.ErrNil {
				t.Errorf("Take: %q, %v", b, e)
			}
			if b, e := n.Look(i); len(b) > 0 || e != api.ErrNil {
				t.Errorf("Look: %q, %v", b, e)
			}
		}
		want(t, "Send", n.Send([]byte("a")), api.ErrNil)
		want(t, "Send of none", n.Send(nil), api.ErrNil)
		want(t, "Send of too many", n.Send(make([]byte, 5000)), api.ErrNil)
		if l := n.List(); len(l) > 0 {
			t.Errorf("List: %q", l)
		}
	}
}

// spoil writes over bytes, the spare room behind them included.
func spoil(b []byte) {
	for i := range b[:cap(b)] {
		b[:cap(b)][i] = '!'
	}
}

func TestMessagesAreNewMemory(t *testing.T) {
	n := net.New()
	given := roomy([]byte("abc"))
	all := bytes.Clone(given[:cap(given)])
	send(t, n, "first")
	want(t, "Send", n.Send(given), api.OK)
	if !bytes.Equal(given[:cap(given)], all) {
		t.Error("Send wrote into what it was given")
	}
	spoil(given)
	want(t, "Twice", n.Twice(1), api.OK)
	now := []string{"first", "abc", "abc"}
	wantList(t, "given", n, now...)
	look, _ := n.Look(1)
	spoil(look)
	wantList(t, "Look", n, now...)
	list, again := n.List(), n.List()
	for i := range list {
		spoil(list[i])
		if string(again[i]) != now[i] {
			t.Error("two answers of List share memory")
		}
		for k := i + 1; k < len(list); k++ {
			if string(list[k]) != now[k] {
				t.Error("messages of one List share memory")
			}
		}
	}
	list = append(list[:0], nil, nil, nil)
	wantList(t, "List", n, now...)
	taken, _ := n.Take(1)
	spoil(taken)
	wantList(t, "Take", n, "first", "abc")
	look, _ = n.Look(1)
	taken, _ = n.Take(1)
	send(t, n, "later", "more")
	if string(look) != "abc" || string(taken) != "abc" {
		t.Error("what was answered has changed")
	}
	spoil(taken)
	wantList(t, "all", n, "first", "later", "more")
}

// TestAnyCalls holds a net against a list of texts.
func TestAnyCalls(t *testing.T) {
	for seed := range int64(20) {
		random := rand.New(rand.NewSource(seed))
		n, l := net.New(), []string(nil)
		for range 600 {
			i := random.Intn(len(l)+3) - 1
			there, full := i >= 0 && i < len(l), len(l) == 64
			why := api.OK
			if !there {
				why = api.ErrNet
			}
			switch random.Intn(6) {
			case 0, 1:
				s := noise(random, pick(random, 0, 1, 20, 4095, 4096, 4097))
				why = api.OK
				if len(s) > 4096 {
					why = api.ErrLong
				} else if full {
					why = api.ErrFull
				} else {
					l = append(l, s)
				}
				want(t, "Send", n.Send([]byte(s)), why)
			case 2, 3:
				if there && full {
					why = api.ErrFull
				} else if there {
					l = append(l, l[i])
				}
				want(t, "Twice", n.Twice(i), why)
			case 4:
				want(t, "Drop", n.Drop(i), why)
				if there {
					l = slices.Delete(l, i, i+1)
				}
			case 5:
				s := ""
				if there {
					s = l[i]
					l = slices.Delete(l, i, i+1)
				}
				if b, e := n.Take(i); e != why || string(b) != s {
					t.Fatalf("Take(%d): %v, want %v, or other bytes", i, e, why)
				}
			}
			wantList(t, "by chance", n, l...)
		}
	}
}
