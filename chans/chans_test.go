package chans_test

import (
	"bytes"
	"math"
	"math/rand"
	"testing"

	"euphroe/api"
	"euphroe/chans"
)

// counts tells whether a way has these counts, and these bytes under way.
func counts(c *chans.Chan, way, put, taken, lost int, rest string) bool {
	p, t, l := c.Counts(way)
	return p == put && t == taken && l == lost && string(c.Peek(way)) == rest && c.Len(way) == len(rest)
}

// P38.1, P38.2: of a new one.
func TestNew(t *testing.T) {
	if chans.Up != 0 || chans.Down != 1 || chans.Room != 65536 {
		t.Error("other numbers")
	}
	c := chans.New([32]byte{5, 6})
	if c.Hash() != [32]byte{5, 6} || !c.Open() || !counts(c, 0, 0, 0, 0, "") || !counts(c, 1, 0, 0, 0, "") {
		t.Error(c.Hash(), c.Open())
	}
}

// P38.1: bytes come in the order in which they were put, each way by itself.
func TestPutAndTake(t *testing.T) {
	c := chans.New([32]byte{})
	for _, s := range []string{"abc", "", "de"} {
		if e := c.Put(0, []byte(s)); e != api.OK {
			t.Fatal(e)
		}
	}
	c.Put(1, []byte("xyz"))
	if !counts(c, 0, 5, 0, 0, "abcde") || !counts(c, 1, 3, 0, 0, "xyz") {
		t.Error("put")
	}
	if b, e := c.Take(0, 2); string(b) != "ab" || e != api.OK || !counts(c, 0, 5, 2, 0, "cde") {
		t.Error(b, e)
	}
	if b, e := c.Take(0, 0); len(b) != 0 || e != api.OK {
		t.Error(b, e)
	}
	if n, e := c.Lose(0, 1); n != 1 || e != api.OK || !counts(c, 0, 5, 2, 1, "de") {
		t.Error(n, e)
	}
	c.Put(0, []byte("f"))
	if b, e := c.Take(0, math.MaxInt); string(b) != "def" || e != api.OK || !counts(c, 0, 6, 5, 1, "") {
		t.Error(b, e)
	}
	if n, e := c.Lose(1, 99); n != 3 || e != api.OK || !counts(c, 1, 3, 0, 3, "") {
		t.Error(n, e)
	}
	if b, e := c.Take(1, 5); len(b) != 0 || e != api.OK {
		t.Error(b, e)
	}
	if n, e := c.Lose(1, 0); n != 0 || e != api.OK {
		t.Error(n, e)
	}
}

// P38.1: which arguments may not be; a way's end, and a channel that is shut.
func TestRefuses(t *testing.T) {
	c := chans.New([32]byte{})
	c.Put(0, []byte("ab"))
	for _, way := range []int{-1, 2, math.MinInt, math.MaxInt} {
		_, e1 := c.Take(way, 1)
		_, e2 := c.Lose(way, 1)
		if c.Put(way, nil) != api.ErrArg || c.Put(way, make([]byte, 70000)) != api.ErrArg || e1 != api.ErrArg || e2 != api.ErrArg || !counts(c, way, 0, 0, 0, "") {
			t.Error(way)
		}
	}
	for _, n := range []int{-1, math.MinInt} {
		b, e1 := c.Take(0, n)
		lost, e2 := c.Lose(0, n)
		if len(b) != 0 || lost != 0 || e1 != api.ErrArg || e2 != api.ErrArg {
			t.Error(n, e1, e2)
		}
	}
	if e := c.Put(0, make([]byte, 65535)); e != api.ErrFull || !counts(c, 0, 2, 0, 0, "ab") {
		t.Error(e)
	}
	if e := c.Put(0, make([]byte, 65534)); e != api.OK || c.Len(0) != 65536 {
		t.Error(e)
	}
	if e := c.Put(0, []byte{1}); e != api.ErrFull {
		t.Error(e)
	}
	if e := c.Put(0, nil); e != api.OK {
		t.Error(e)
	}
	if e := c.Put(1, make([]byte, 65536)); e != api.OK {
		t.Error("the other way has its own room", e)
	}
	c.Take(0, 10)
	if e := c.Put(0, make([]byte, 10)); e != api.OK {
		t.Error(e)
	}
}

// P38.1, P38.2: of a shut one bytes go, but none come.
func TestShut(t *testing.T) {
	c := chans.New([32]byte{9})
	c.Put(0, []byte("abcd"))
	c.Shut()
	if c.Open() || c.Hash() != [32]byte{9} || string(c.Peek(0)) != "abcd" {
		t.Error("shut")
	}
	if c.Put(0, []byte("e")) != api.ErrState || c.Put(1, nil) != api.ErrState || c.Put(2, nil) != api.ErrArg || c.Put(1, make([]byte, 70000)) != api.ErrState {
		t.Error("put into a shut one")
	}
	if b, e := c.Take(0, 2); string(b) != "ab" || e != api.OK {
		t.Error(b, e)
	}
	if n, e := c.Lose(0, 1); n != 1 || e != api.OK || !counts(c, 0, 4, 2, 1, "d") {
		t.Error(n, e)
	}
	c.Shut()
	if c.Open() {
		t.Error("shut twice")
	}
}

// P38.2: bytes go from one way to another one.
func TestRelay(t *testing.T) {
	a, b := chans.New([32]byte{1}), chans.New([32]byte{2})
	a.Put(0, []byte("abcdef"))
	b.Put(1, []byte("x"))
	if n, e := chans.Relay(a, 0, b, 1, 2); n != 2 || e != api.OK || !counts(a, 0, 6, 2, 0, "cdef") || !counts(b, 1, 3, 0, 0, "xab") {
		t.Error(n, e)
	}
	if n, e := chans.Relay(a, 0, a, 1, 1); n != 1 || e != api.OK || !counts(a, 0, 6, 3, 0, "def") || !counts(a, 1, 1, 0, 0, "c") {
		t.Error("of one channel", n, e)
	}
	if n, e := chans.Relay(a, 0, b, 0, math.MaxInt); n != 3 || e != api.OK || !counts(a, 0, 6, 6, 0, "") || !counts(b, 0, 3, 0, 0, "def") {
		t.Error(n, e)
	}
	if n, e := chans.Relay(a, 0, b, 0, 0); n != 0 || e != api.OK {
		t.Error(n, e)
	}
	if n, e := chans.Relay(a, 0, b, 0, 5); n != 0 || e != api.OK {
		t.Error(n, e)
	}
}

// P38.2: each error of a Relay, and which of two comes first.
func TestRelayRefuses(t *testing.T) {
	a, shut := chans.New([32]byte{}), chans.New([32]byte{})
	full := chans.New([32]byte{})
	a.Put(0, []byte("abc"))
	full.Put(0, make([]byte, 65534))
	shut.Put(0, make([]byte, 65536))
	shut.Put(1, []byte("q"))
	shut.Shut()
	for i, c := range []struct {
		from  *chans.Chan
		way   int
		to    *chans.Chan
		other int
		n     int
		want  api.Errno
	}{
		{nil, 0, a, 0, 1, api.ErrNil}, {a, 0, nil, 9, -1, api.ErrNil}, {&chans.Chan{}, 0, a, 0, 1, api.ErrNil}, {a, 0, &chans.Chan{}, 0, 1, api.ErrNil}, {nil, 7, nil, 7, -7, api.ErrNil},
		{a, 2, shut, 0, 1, api.ErrArg}, {a, -1, full, 0, 1, api.ErrArg}, {a, 0, shut, 2, 1, api.ErrArg}, {a, 0, shut, 0, -1, api.ErrArg}, {a, 0, a, 0, 1, api.ErrArg}, {a, 1, a, 1, 0, api.ErrArg}, {shut, 0, shut, 0, 1, api.ErrArg}, {a, 0, full, 0, math.MinInt, api.ErrArg},
		{a, 0, shut, 0, 1, api.ErrState}, {a, 0, shut, 1, 0, api.ErrState}, {shut, 0, shut, 1, 1, api.ErrState}, {a, 0, full, 0, 3, api.ErrFull}, {a, 0, full, 0, math.MaxInt, api.ErrFull},
	} {
		if n, e := chans.Relay(c.from, c.way, c.to, c.other, c.n); n != 0 || e != c.want {
			t.Errorf("%d: %d, %d, not %d", i, n, e, c.want)
		}
	}
	if !counts(a, 0, 3, 0, 0, "abc") || full.Len(0) != 65534 {
		t.Error("something moved")
	}
	if n, e := chans.Relay(a, 0, full, 0, 2); n != 2 || e != api.OK || full.Len(0) != 65536 {
		t.Error(n, e)
	}
	if n, e := chans.Relay(shut, 1, a, 1, 1); n != 1 || e != api.OK {
		t.Error("out of a shut one", n, e)
	}
	empty := chans.New([32]byte{})
	if n, e := chans.Relay(empty, 0, full, 0, 99); n != 0 || e != api.OK {
		t.Error("of nothing into a full one", n, e)
	}
}

// P38.2: nil, and one that New did not give.
func TestNobody(t *testing.T) {
	for _, c := range []*chans.Chan{nil, {}} {
		b, e1 := c.Take(0, 1)
		n, e2 := c.Lose(7, -1)
		c.Shut()
		if c.Put(0, []byte("a")) != api.ErrNil || c.Put(9, nil) != api.ErrNil || e1 != api.ErrNil || e2 != api.ErrNil || len(b) != 0 || n != 0 || c.Open() || c.Hash() != [32]byte{} || !counts(c, 0, 0, 0, 0, "") {
			t.Error("something is told")
		}
	}
}

// P38.3: what was put is what was taken, lost, and is under way.
func TestSums(t *testing.T) {
	r := rand.New(rand.NewSource(38))
	c := chans.New([32]byte{})
	var under, taken []byte
	next := byte(0)
	for range 4000 {
		switch r.Intn(4) {
		case 0, 1:
			b := make([]byte, r.Intn(300))
			for i := range b {
				b[i] = next
				next++
			}
			if e := c.Put(1, b); e == api.OK {
				under = append(under, b...)
			} else if len(under)+len(b) <= 65536 {
				t.Fatal(e)
			}
		case 2:
			n := min(r.Intn(300), len(under))
			b, _ := c.Take(1, n)
			if !bytes.Equal(b, under[:n]) {
				t.Fatal("another order")
			}
			under, taken = under[n:], append(taken, b...)
		case 3:
			n := min(r.Intn(100), len(under))
			c.Lose(1, n)
			under = under[n:]
		}
		put, took, lost := c.Counts(1)
		if put != took+lost+c.Len(1) || took != len(taken) || !bytes.Equal(c.Peek(1), under) {
			t.Fatal(put, took, lost, c.Len(1))
		}
	}
}

// R4 of the document: nothing is written into what is handed in, and nothing is shared.
func TestNothingIsShared(t *testing.T) {
	c := chans.New([32]byte{})
	b := []byte("abcd")
	c.Put(0, b)
	clear(b)
	clear(c.Peek(0))
	got, _ := c.Take(0, 2)
	clear(got)
	c.Put(0, []byte("ef"))
	if string(c.Peek(0)) != "cdef" {
		t.Errorf("%q", c.Peek(0))
	}
	clear(got[:cap(got)])
	if string(c.Peek(0)) != "cdef" {
		t.Errorf("%q", c.Peek(0))
	}
}
