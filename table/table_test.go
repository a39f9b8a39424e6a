package table_test

import (
	"bytes"
	"math"
	"math/rand"
	"reflect"
	"slices"
	"testing"

	"euphroe/api"
	"euphroe/chaps"
	"euphroe/httpp"
	"euphroe/httpq"
	"euphroe/ipcp"
	"euphroe/ipcpo"
	"euphroe/link"
	"euphroe/packet"
	"euphroe/sclient"
	"euphroe/sserver"
	"euphroe/table"
)

const first = 100 // the first address

func config() table.Config {
	return table.Config{Name: "srv", Users: []chaps.User{{Name: "ann", Password: "secret"}, {Name: "bob", Password: "pass"}}, MRU: 1400, Own: 7, DNS: 8, First: first, Many: 3, Max: 5}
}

func draw() table.Draw { return table.Draw{Nonce: [32]byte{3}, Chal: [16]byte{4}, Magic: 5} }
func hash() [32]byte   { return [32]byte{1, 2} }

// of is a server.
func of(t *testing.T, c table.Config) *table.Server {
	s, e := table.New(c)
	if e != api.OK {
		t.Fatal(e)
	}
	return s
}

// twin is a session as the server must have it on a channel with that address.
func twin(addr api.Addr) *sserver.Session {
	return sserver.New(sserver.Config{Hash: hash(), Nonce: draw().Nonce, Link: link.Config{Server: true, Name: "srv", Users: config().Users, MRU: 1400, Magic: 5, Random: [16]byte{4}, Side: ipcpo.Side{Server: true, Own: 7, Give: addr, DNS: 8}}})
}

// client is one.
func client() *sclient.Client {
	return sclient.New(sclient.Config{Request: httpq.Request{Host: "h"}, Hash: hash(), Link: link.Config{Name: "ann", Password: "secret", MRU: 1400, Magic: 6, Random: [16]byte{9}, Side: ipcpo.Side{Asks: true}}})
}

// same tells whether what is told is what a session did.
func same(o table.Out, ch int, s sserver.Out) bool {
	return o.Chan == ch && bytes.Equal(o.Bytes, s.Bytes) && slices.EqualFunc(o.Data, s.Data, bytes.Equal) && o.Bound == s.Bound && o.Closed == s.Closed
}

// bound lets a client and a channel's session be bound, each step held against the twin.
func bound(t *testing.T, s *table.Server, ch int, addr api.Addr) *sclient.Client {
	c, w := client(), twin(addr)
	up := c.Start().Bytes
	told := false
	for len(up) > 0 {
		o, e := s.Bytes(ch, up)
		if want := w.Bytes(up); e != api.OK || !same(o, ch, want) {
			t.Fatal(e, o, want)
		}
		told = told || o.Bound
		up = c.Bytes(o.Bytes).Bytes
	}
	if state, is := s.State(ch); state != 3 || !is || !told || c.State() != 4 || c.Addr() != addr {
		t.Fatal(state, told, c.State(), c.Addr())
	}
	return c
}

// datagram is one.
func datagram(src, dst api.Addr) []byte {
	b, _ := ipcp.Lay(ipcp.Datagram{TTL: 3, Src: src, Dst: dst, Data: []byte("data")})
	return b
}

// empty tells whether nothing is told.
func empty(o table.Out) bool { return reflect.DeepEqual(o, table.Out{}) }

// P37.1: which configs may be.
func TestNew(t *testing.T) {
	for _, c := range []struct {
		max, many int
		first     api.Addr
		want      api.Errno
	}{
		{0, 0, 1, api.OK}, {64, 256, 1, api.OK}, {5, 3, math.MaxUint32 - 2, api.OK}, {-1, 3, 1, api.ErrArg}, {65, 3, 1, api.ErrArg}, {math.MinInt, 3, 1, api.ErrArg}, {math.MaxInt, 3, 1, api.ErrArg}, {5, -1, 1, api.ErrArg}, {5, 257, 1, api.ErrArg}, {5, 3, 0, api.ErrArg}, {5, 4, math.MaxUint32 - 2, api.ErrArg},
	} {
		x := config()
		x.Max, x.Many, x.First = c.max, c.many, c.first
		s, e := table.New(x)
		if e != c.want || (s != nil) != (e == api.OK) {
			t.Errorf("%v: %d", c, e)
		}
		if s != nil && (len(s.Chans()) != 0 || s.Free() != c.many) {
			t.Errorf("%v: %v, %d", c, s.Chans(), s.Free())
		}
	}
}

// P37.1: a session has the first address that is free; there is one a channel.
func TestOpen(t *testing.T) {
	s := of(t, config())
	for i, ch := range []int{9, -4, 0} {
		if o, e := s.Open(ch, hash(), draw()); e != api.OK || !reflect.DeepEqual(o, table.Out{Chan: ch}) {
			t.Fatal(ch, o, e)
		}
		if a, is := s.Addr(ch); a != api.Addr(first+i) || !is || s.Free() != 2-i {
			t.Error(ch, a, is)
		}
		if state, is := s.State(ch); state != 0 || !is {
			t.Error(ch, state, is)
		}
		if o, e := s.Open(ch, hash(), draw()); e != api.ErrThere || !empty(o) {
			t.Error(ch, o, e)
		}
	}
	if !slices.Equal(s.Chans(), []int{-4, 0, 9}) {
		t.Error(s.Chans())
	}
	busy, _ := httpp.Lay(503)
	if o, e := s.Open(5, hash(), draw()); e != api.ErrFull || !reflect.DeepEqual(o, table.Out{Chan: 5, Bytes: busy, Closed: true}) {
		t.Error(o, e)
	}
	if _, is := s.State(5); is || len(s.Chans()) != 3 {
		t.Error("one that was not opened is there")
	}
	if o, e := s.Open(9, hash(), draw()); e != api.ErrThere || !empty(o) {
		t.Error("there ahead of full", o, e)
	}
}

// P37.1, P37.3: Max ends it, too.
func TestMax(t *testing.T) {
	for _, n := range []int{0, 1, 2} {
		c := config()
		c.Max = n
		s := of(t, c)
		for ch := range 5 {
			o, e := s.Open(ch, hash(), draw())
			if ch < n && e != api.OK || ch >= n && (e != api.ErrFull || len(o.Bytes) == 0 || !o.Closed || o.Chan != ch) {
				t.Error(n, ch, o, e)
			}
		}
		if len(s.Chans()) != n || s.Free() != 3-n {
			t.Error(n, s.Chans(), s.Free())
		}
	}
}

// P37.1: of a channel without a session.
func TestNone(t *testing.T) {
	s := of(t, config())
	s.Open(1, hash(), draw())
	for _, ch := range []int{0, 2, -1, math.MaxInt} {
		o, e := s.Bytes(ch, []byte("x"))
		p, f := s.Close(ch)
		g := s.Drop(ch)
		state, is := s.State(ch)
		a, has := s.Addr(ch)
		if !empty(o) || e != api.ErrNone || !empty(p) || f != api.ErrNone || g != api.ErrNone || state != 0 || is || a != 0 || has {
			t.Error(ch, o, e, p, f, g, state, is, a, has)
		}
	}
	if len(s.Chans()) != 1 {
		t.Error(s.Chans())
	}
}

// P37.1: what a session does by bytes, with its own address.
func TestBytes(t *testing.T) {
	s := of(t, config())
	s.Open(3, hash(), draw())
	s.Open(1, hash(), draw())
	bound(t, s, 1, first+1)
	bound(t, s, 3, first)
	if o, e := s.Bytes(1, nil); e != api.OK || !reflect.DeepEqual(o, table.Out{Chan: 1}) {
		t.Error("the channel is told where nothing else is", o, e)
	}
}

// P37.1: a session that is closed goes, and its address is free.
func TestClosed(t *testing.T) {
	s := of(t, config())
	for ch := range 3 {
		s.Open(ch, hash(), draw())
	}
	refused, _ := httpp.Lay(400)
	if o, e := s.Bytes(1, []byte("\x00")); e != api.OK || !reflect.DeepEqual(o, table.Out{Chan: 1, Bytes: refused, Closed: true}) {
		t.Error(o, e)
	}
	if _, is := s.Addr(1); is || s.Free() != 1 || !slices.Equal(s.Chans(), []int{0, 2}) {
		t.Error(s.Chans(), s.Free())
	}
	if o, e := s.Close(2); e != api.OK || !reflect.DeepEqual(o, table.Out{Chan: 2, Closed: true}) || s.Free() != 2 {
		t.Error(o, e)
	}
	if e := s.Drop(0); e != api.OK || s.Free() != 3 || len(s.Chans()) != 0 {
		t.Error(e, s.Free())
	}
	if e := s.Drop(0); e != api.ErrNone {
		t.Error(e)
	}
	s.Open(7, hash(), draw())
	if a, _ := s.Addr(7); a != first {
		t.Error(a)
	}
	bound(t, s, 7, first)
	if o, e := s.Close(7); e != api.OK || o.Closed || len(o.Bytes) == 0 || s.Free() != 2 {
		t.Error("one that leaves is there", o, e)
	}
	if state, is := s.State(7); state != 5 || !is {
		t.Error(state, is)
	}
	b, _ := packet.Lay(packet.Of(packet.DiscAck))
	if o, e := s.Bytes(7, b); e != api.OK || !o.Closed || s.Free() != 3 {
		t.Error(o, e)
	}
}

// P37.2: ticks, by rising channels, of those that do something.
func TestTick(t *testing.T) {
	c := config()
	c.Many = 10
	s := of(t, c)
	for _, ch := range []int{5, -1, 3} {
		s.Open(ch, hash(), draw())
	}
	bound(t, s, 3, first+2)
	w := twin(first + 1)
	request, _ := httpq.Lay(httpq.Request{Host: "h"})
	s.Bytes(-1, request)
	w.Bytes(request)
	for tick := 1; tick <= 23; tick++ {
		l := s.Tick()
		want := w.Tick()
		var chans []int
		for _, o := range l {
			chans = append(chans, o.Chan)
			if o.Chan == -1 && !same(o, -1, want) {
				t.Error(tick, o, want)
			}
		}
		must := map[int][]int{10: {3}, 20: {-1, 3, 5}, 23: {-1, 3}}[tick]
		if !slices.Equal(chans, must) {
			t.Error(tick, chans, must)
		}
	}
	if len(s.Chans()) != 0 || s.Free() != 10 || len(s.Tick()) != 0 {
		t.Error(s.Chans(), s.Free())
	}
}

// P37.2: where datagrams go, and which don't.
func TestRoute(t *testing.T) {
	s := of(t, config())
	for _, ch := range []int{4, 2} {
		s.Open(ch, hash(), draw())
	}
	if o, e := s.Route(datagram(1, first)); !empty(o) || e != api.ErrNone {
		t.Error("ahead of the binding", o, e)
	}
	c := bound(t, s, 2, first+1)
	o, e := s.Route(datagram(1, first+1))
	if e != api.OK || o.Chan != 2 || o.Bound || o.Closed || len(o.Data) != 0 {
		t.Fatal(o, e)
	}
	if got := c.Bytes(o.Bytes).Data; len(got) != 1 || !bytes.Equal(got[0], datagram(1, first+1)) {
		t.Error(got)
	}
	for _, dst := range []api.Addr{0, first, first + 2, 7, first - 1, first + 3} {
		if o, e := s.Route(datagram(1, dst)); !empty(o) || e != api.ErrNone {
			t.Error(dst, o, e)
		}
	}
	big, _ := ipcp.Lay(ipcp.Datagram{Dst: first + 1, Data: make([]byte, 1400)})
	if o, e := s.Route(big); !empty(o) || e != api.ErrNone {
		t.Error("above the MRU", e)
	}
	for _, b := range [][]byte{nil, []byte("none"), datagram(1, first+1)[:22]} {
		if o, e := s.Route(b); !empty(o) || e != api.ErrArg {
			t.Errorf("%x: %v, %d", b, o, e)
		}
	}
	zero := of(t, config())
	zero.Open(0, hash(), draw())
	bound(t, zero, 0, first)
	for _, dst := range []api.Addr{0, first + 1, first + 2, 7} {
		if o, e := zero.Route(datagram(1, dst)); !empty(o) || e != api.ErrNone {
			t.Error("to nobody, as the channel 0 is bound", dst, o, e)
		}
	}
	s.Drop(2)
	if o, e := s.Route(datagram(1, first+1)); !empty(o) || e != api.ErrNone {
		t.Error("of one that is gone", o, e)
	}
}

// P37.2: data that come are told of their channel.
func TestData(t *testing.T) {
	s := of(t, config())
	s.Open(6, hash(), draw())
	c := bound(t, s, 6, first)
	d := datagram(first, 7)
	up, _ := c.Send(d)
	if o, e := s.Bytes(6, up.Bytes); e != api.OK || o.Chan != 6 || len(o.Data) != 1 || !bytes.Equal(o.Data[0], d) {
		t.Error(o, e)
	}
}

// P37.2: nil, and one that New did not give.
func TestNobody(t *testing.T) {
	for _, s := range []*table.Server{nil, {}} {
		o, e1 := s.Open(0, hash(), draw())
		p, e2 := s.Bytes(0, nil)
		q, e3 := s.Close(0)
		r, e4 := s.Route(datagram(1, 1))
		x, e5 := s.Route(nil)
		state, is := s.State(0)
		a, has := s.Addr(0)
		if !empty(o) || !empty(p) || !empty(q) || !empty(r) || !empty(x) || s.Drop(0) != api.ErrNil || len(s.Tick()) != 0 || len(s.Chans()) != 0 || state != 0 || is || a != 0 || has || s.Free() != 0 {
			t.Error("something is told")
		}
		if [5]api.Errno{e1, e2, e3, e4, e5} != [5]api.Errno{api.ErrNil, api.ErrNil, api.ErrNil, api.ErrNil, api.ErrNil} {
			t.Error(e1, e2, e3, e4, e5)
		}
	}
}

// P37.3: never more than Max, each with an address of its own.
func TestMany(t *testing.T) {
	r := rand.New(rand.NewSource(37))
	c := config()
	c.Many, c.Max = 9, 7
	s := of(t, c)
	for range 3000 {
		ch := r.Intn(14)
		switch r.Intn(4) {
		case 0, 1:
			s.Open(ch, hash(), draw())
		case 2:
			s.Close(ch)
		case 3:
			s.Drop(ch)
		}
		seen := map[api.Addr]int{}
		for _, ch := range s.Chans() {
			a, is := s.Addr(ch)
			if seen[a]++; !is || a < first || a >= first+9 || seen[a] > 1 {
				t.Fatal(ch, a)
			}
		}
		if len(seen) > 7 || s.Free() != 9-len(seen) {
			t.Fatal(len(seen), s.Free())
		}
	}
}

// P37.4: without bytes all sessions are gone behind 30 ticks, in whatever state they are.
func TestGone(t *testing.T) {
	c := config()
	c.Many, c.Max = 60, 60
	s := of(t, c)
	request, _ := httpq.Lay(httpq.Request{Host: "h"})
	for ch := range 60 {
		s.Open(ch, hash(), draw())
		x := client()
		up := x.Start().Bytes
		for range ch / 6 {
			o, _ := s.Bytes(ch, up)
			up = x.Bytes(o.Bytes).Bytes
		}
		if ch%6 == 1 {
			s.Bytes(ch, request[:20])
		}
		if ch%6 == 2 {
			s.Close(ch)
		}
		for range ch % 3 {
			s.Tick()
		}
	}
	for range 30 {
		s.Tick()
	}
	if len(s.Chans()) != 0 || s.Free() != 60 {
		t.Error(s.Chans(), s.Free())
	}
}

// R7 of the language: what is handed in is not kept.
func TestUsersAreNotKept(t *testing.T) {
	c := config()
	s := of(t, c)
	c.Users[0].Password = "changed"
	s.Open(1, hash(), draw())
	bound(t, s, 1, first)
}
