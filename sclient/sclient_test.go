package sclient_test

import (
	"bytes"
	"math/rand"
	"reflect"
	"slices"
	"testing"

	"euphroe/api"
	"euphroe/attr"
	"euphroe/bind"
	"euphroe/chaps"
	"euphroe/httpp"
	"euphroe/httpq"
	"euphroe/ipcp"
	"euphroe/ipcpo"
	"euphroe/link"
	"euphroe/packet"
	"euphroe/reframe"
	"euphroe/sclient"
)

func nonce() [32]byte { return [32]byte{7, 8, 9} }
func hash() [32]byte  { return [32]byte{1, 2, 3} }

func config() sclient.Config {
	return sclient.Config{
		Request: httpq.Request{Host: "h"}, Hash: hash(),
		Link: link.Config{Server: true, Name: "ann", Password: "secret", MRU: 1400, Magic: 6, Random: [16]byte{9}, Side: ipcpo.Side{Asks: true}},
	}
}

// peer is the link of a server.
func peer() link.Link {
	return link.New(link.Config{Server: true, Name: "srv", Users: []chaps.User{{Name: "ann", Password: "secret"}}, MRU: 1400, Magic: 5, Random: [16]byte{1}, Side: ipcpo.Side{Server: true, Own: 1, Give: 9}})
}

// laid are packets' bytes.
func laid(l ...api.Packet) []byte {
	var all []byte
	for _, p := range l {
		b, e := packet.Lay(p)
		if e != api.OK {
			panic(e)
		}
		all = append(all, b...)
	}
	return all
}

// ok is the response that opens a tunnel.
func ok() []byte {
	b, _ := httpp.Lay(200)
	return b
}

// abort is what is said by one that aborts.
func abort() []byte { return laid(packet.Of(5, attr.OfStatus(attr.Status{Code: 1}))) }

// is tells whether what is done is this: the flags b and c, and these bytes.
func is(o sclient.Out, flags string, b []byte) bool {
	told := ""
	if o.Bound {
		told += "b"
	}
	if o.Closed {
		told += "c"
	}
	return told == flags && bytes.Equal(o.Bytes, b) && len(o.Data) == 0
}

// frames are data packets' data among what is said, and the packets of control.
func frames(t *testing.T, b []byte) ([][]byte, []api.Packet) {
	l, e := reframe.New().Write(b)
	if e != api.OK {
		t.Fatal(e)
	}
	var data [][]byte
	var others []api.Packet
	for _, p := range l {
		if p.Control {
			others = append(others, p)
		} else {
			data = append(data, p.Data)
		}
	}
	return data, others
}

// started is one that asked for a tunnel, and was answered.
func started(t *testing.T, c sclient.Config) *sclient.Client {
	x := sclient.New(c)
	x.Start()
	if out := x.Bytes(ok()); !is(out, "", laid(packet.Of(1, attr.Proto(1)))) || x.State() != 2 {
		t.Fatal(out, x.State())
	}
	return x
}

// talks lets a client and a server's link hear each other, till nothing is under way, or the client's state is as wanted.
func talks(t *testing.T, x *sclient.Client, l link.Link, up []byte, state int) (link.Link, sclient.Out) {
	var all sclient.Out
	l, out := l.Start()
	down := out.Frames
	for {
		data, others := frames(t, up)
		up = nil
		for _, p := range others {
			if p.Type != packet.Connected {
				return l, all
			}
		}
		for _, f := range data {
			l, out = l.Take(f)
			down = append(down, out.Frames...)
		}
		if len(down) == 0 {
			return l, all
		}
		for i, f := range down {
			if x.State() == state && state == 3 && i > 0 {
				return l, all
			}
			did := x.Bytes(laid(packet.OfData(f)))
			up = append(up, did.Bytes...)
			all.Bytes = append(all.Bytes, did.Bytes...)
			all.Bound = all.Bound || did.Bound
			all.Closed = all.Closed || did.Closed
		}
		down = nil
	}
}

// at is a client in a state.
func at(t *testing.T, state int) *sclient.Client {
	x := sclient.New(config())
	if state == 0 {
		return x
	}
	x.Start()
	if state == 1 {
		return x
	}
	x.Bytes(ok())
	switch state {
	case 3, 4, 6:
		out := x.Bytes(laid(bind.Ask(nonce())))
		if state != 3 {
			talks(t, x, peer(), out.Bytes, 4)
		}
		if state == 6 {
			x.Close()
		}
	case 5:
		x.Bytes(laid(packet.Of(4, attr.OfBinding(attr.Binding{Method: 2}))))
	case 7:
		x.Close()
	}
	if x.State() != state {
		t.Fatal(state, x.State())
	}
	return x
}

// looks is all that can be seen of a client.
type looks struct {
	state, left, held int
	nonce, key        [32]byte
	addr              api.Addr
}

func seen(x *sclient.Client) looks {
	return looks{x.State(), x.Left(), x.Held(), x.Nonce(), x.Key(), x.Addr()}
}

// P35.1, P35.3: of an idle one.
func TestIdle(t *testing.T) {
	x := sclient.New(config())
	if seen(x) != (looks{}) {
		t.Error(seen(x))
	}
	out, sent := x.Send(nil)
	for _, o := range []sclient.Out{x.Bytes(ok()), x.Tick(), x.Close(), out} {
		if !is(o, "", nil) || sent || seen(x) != (looks{}) {
			t.Error(o, seen(x))
		}
	}
}

// P35.1: its request is said, once.
func TestStart(t *testing.T) {
	x := sclient.New(config())
	want, _ := httpq.Lay(httpq.Request{Host: "h"})
	if out := x.Start(); !is(out, "", want) || seen(x) != (looks{state: 1, left: 20}) {
		t.Error(out, seen(x))
	}
	for state := 1; state <= 7; state++ {
		x := at(t, state)
		before := seen(x)
		if out := x.Start(); !is(out, "", nil) || seen(x) != before {
			t.Error(state, out)
		}
	}
	for _, r := range []httpq.Request{{}, {Host: "a b"}, {Host: "a", ID: "x"}} {
		c := config()
		c.Request = r
		x := sclient.New(c)
		if out := x.Start(); !is(out, "c", nil) || seen(x) != (looks{state: 7}) {
			t.Error(r, out, seen(x))
		}
	}
}

// P35.1: the response, byte by byte, and what it may be.
func TestResponse(t *testing.T) {
	x := at(t, 1)
	b := ok()
	for i := range b[:len(b)-1] {
		if out := x.Bytes(b[i : i+1]); !is(out, "", nil) || seen(x) != (looks{state: 1, left: 20, held: i + 1}) {
			t.Fatal(i, out, seen(x))
		}
	}
	x.Tick()
	if out := x.Bytes(b[len(b)-1:]); !is(out, "", laid(packet.Of(1, attr.Proto(1)))) || seen(x) != (looks{state: 2, left: 20}) {
		t.Error(out, seen(x))
	}
	for _, status := range []int{100, 201, 400, 404, 405, 431, 503, 505} {
		b, _ := httpp.Lay(status)
		x := at(t, 1)
		if out := x.Bytes(b); !is(out, "c", nil) || seen(x) != (looks{state: 7}) {
			t.Error(status, out, seen(x))
		}
	}
	for _, s := range []string{"\x00", "HTTP/1.0 200 OK\r\n\r\n", "HTTP/1.1 200 OK\r\n\r\n", "HTTP/1.1 200 OK\r\nContent-Length: 0\r\n\r\n", string(make([]byte, 3000)), "HTTP/1.1 200 OK\n"} {
		x := at(t, 1)
		if out := x.Bytes([]byte(s)); !is(out, "c", nil) || seen(x) != (looks{state: 7}) {
			t.Errorf("%q: %v, %v", s, out, seen(x))
		}
	}
	x = at(t, 1)
	x.Bytes(bytes.Repeat([]byte("a"), 2047))
	if x.Held() != 2047 || x.State() != 1 {
		t.Error(seen(x))
	}
	if out := x.Bytes([]byte("a")); !is(out, "c", nil) || x.Held() != 0 {
		t.Error(out, seen(x))
	}
}

// P35.1: what stands behind the head comes.
func TestBehindTheHead(t *testing.T) {
	x := at(t, 1)
	out := x.Bytes(slices.Concat(ok(), laid(bind.Ask(nonce())), []byte{16, 1}))
	data, others := frames(t, out.Bytes)
	if len(data) != 1 || len(others) != 1 || others[0].Type != 1 || x.State() != 3 || x.Nonce() != nonce() || x.Held() != 2 || x.Left() != 20 {
		t.Error(data, others, seen(x))
	}
	x = at(t, 1)
	if out := x.Bytes(append(ok(), 99, 0, 0, 0)); !is(out, "", append(laid(packet.Of(1, attr.Proto(1))), abort()...)) || seen(x) != (looks{state: 5, left: 3}) {
		t.Error(out, seen(x))
	}
}

// P35.1: a ConnectAck, and the nonce that it asks by.
func TestConnectAck(t *testing.T) {
	x := at(t, 2)
	x.Tick()
	want := laid(packet.OfData(append([]byte{0xFF, 3, 0xC0, 0x21}, 1, 1, 0, 14, 1, 4, 5, 120, 5, 6, 0, 0, 0, 6)))
	if out := x.Bytes(laid(bind.Ask(nonce()))); !is(out, "", want) || seen(x) != (looks{state: 3, left: 20, nonce: nonce()}) {
		t.Error(out, seen(x))
	}
	x = at(t, 2)
	x.Bytes(laid(packet.Of(2, attr.OfAsk(attr.Ask{Methods: 3, Nonce: nonce()}))))
	if x.State() != 3 {
		t.Error("of both methods", x.State())
	}
	x = at(t, 2)
	if out := x.Bytes(laid(packet.Of(2, attr.OfAsk(attr.Ask{Methods: 1, Nonce: nonce()})))); !is(out, "", abort()) || seen(x) != (looks{state: 5, left: 3}) {
		t.Error("of the other method", out, seen(x))
	}
}

// P35.1: it is bound by its own key, the nonce and the hash that it saw.
func TestBound(t *testing.T) {
	x := at(t, 3)
	l := peer()
	l, out := l.Start()
	down := out.Frames
	request := []byte{0xFF, 3, 0xC0, 0x21, 1, 1, 0, 14, 1, 4, 5, 120, 5, 6, 0, 0, 0, 6}
	l, out = l.Take(request)
	down = append(down, out.Frames...)
	bound := false
	for len(down) > 0 {
		did := x.Bytes(laid(packet.OfData(down[0])))
		down = down[1:]
		data, others := frames(t, did.Bytes)
		for _, f := range data {
			l, out = l.Take(f)
			down = append(down, out.Frames...)
		}
		if len(others) > 0 {
			if len(others) != 1 || bound || !did.Bound || x.State() != 4 || x.Left() != 10 || !packet.Same(others[0], bind.Connected(l.Key(), nonce(), hash())) || x.Key() != l.Key() {
				t.Error(others, seen(x))
			}
			bound = true
			// What its link does is said ahead of it.
			if last := laid(others[0]); !bytes.HasSuffix(did.Bytes, last) || len(data) != 1 {
				t.Error("another order", did)
			}
		} else if did.Bound {
			t.Error("bound without a packet")
		}
	}
	if !bound || x.State() != 4 || x.Addr() != 9 || l.Phase() != 4 || x.Key() == [32]byte{} || x.Nonce() != nonce() {
		t.Error(bound, seen(x), l.Phase())
	}
}

// all are packets of each type, as they may be.
func all() map[string]api.Packet {
	return map[string]api.Packet{
		"req": packet.Of(1, attr.Proto(1)), "ack": bind.Ask(nonce()), "nak": packet.Of(3, attr.OfStatus(attr.Status{About: 1, Code: 5})), "con": bind.Connected([32]byte{1}, nonce(), hash()), "abort": packet.Of(5), "status": packet.Of(5, attr.OfStatus(attr.Status{})),
		"disc": packet.Of(6), "dack": packet.Of(7), "echo": packet.Of(8), "resp": packet.Of(9), "data": packet.OfData([]byte{0}), "bad": packet.Of(1), "none": packet.Of(77), "form": packet.Of(2, attr.OfAsk(attr.Ask{Methods: 9})), "late": packet.Of(7, attr.Proto(1)),
		"abortx": packet.Of(5, attr.Proto(1)), "discx": packet.Of(6, attr.OfStatus(attr.Status{About: 9})), "echox": packet.Of(8, attr.Proto(1)), "respx": packet.Of(9, attr.Proto(1)),
	}
}

// P35.1: each packet in each state: what is said, and which state comes; `a` aborts, `c` closes, `-` is nothing.
func TestPackets(t *testing.T) {
	echo, dack, bare := laid(packet.Of(9)), laid(packet.Of(7)), laid(packet.Of(5))
	for state := 2; state <= 6; state++ {
		for name, p := range all() {
			if state == 2 && name == "ack" {
				continue
			}
			want, next, flags := abort(), 5, ""
			switch name {
			case "abort", "status":
				want, next, flags = bare, 7, "c"
			case "disc":
				want, next, flags = dack, 7, "c"
			case "echo":
				want, next = echo, state
			case "resp", "data":
				want, next = nil, state
			}
			if state >= 5 {
				want, next, flags = nil, state, ""
				switch {
				case name == "abort" || name == "status" || name == "abortx" || state == 6 && (name == "dack" || name == "late"):
					next, flags = 7, "c"
				case state == 6 && (name == "disc" || name == "discx"):
					want = dack
				}
			}
			x := at(t, state)
			x.Tick()
			x.Tick()
			out := x.Bytes(laid(p))
			if !is(out, flags, want) || x.State() != next {
				t.Errorf("%s in %d: %v, %d, not %v, %d", name, state, out, x.State(), want, next)
			}
			if next >= 5 && (x.Key() != [32]byte{} || x.Nonce() != [32]byte{} || x.Addr() != 0) {
				t.Errorf("%s in %d: %v", name, state, seen(x))
			}
			if wound := map[int]int{2: 18, 3: 18, 4: 10, 5: 1, 6: 3}; next == state && x.Left() != wound[state] {
				t.Errorf("%s in %d: %d left", name, state, x.Left())
			}
			if left := map[int]int{5: 3, 7: 0}; next != state && x.Left() != left[next] {
				t.Errorf("%s in %d: %d left", name, state, x.Left())
			}
		}
	}
}

// P35.1: in the states 0 and 7 bytes are nothing.
func TestNothingComes(t *testing.T) {
	for _, state := range []int{0, 7} {
		x := at(t, state)
		for _, b := range [][]byte{ok(), laid(packet.Of(5)), {99, 9, 9, 9}} {
			if out := x.Bytes(b); !is(out, "", nil) || seen(x) != (looks{state: state}) {
				t.Error(state, out, seen(x))
			}
		}
	}
}

// P35.1: what breaks the stream, and that bytes do nothing behind it.
func TestBroken(t *testing.T) {
	for state := 2; state <= 6; state++ {
		x := at(t, state)
		want, next, flags := abort(), 5, ""
		if state >= 5 {
			want, next, flags = nil, 7, "c"
		}
		if out := x.Bytes([]byte{17, 0, 0, 5}); !is(out, flags, want) || x.State() != next || x.Held() != 0 {
			t.Error(state, out, x.State())
		}
		for _, b := range [][]byte{laid(packet.Of(5)), {17, 0, 0, 0}, nil} {
			if out := x.Bytes(b); !is(out, "", nil) || x.State() != next {
				t.Error(state, out, x.State())
			}
		}
	}
	// Packets ahead of it come first; none comes behind what closes.
	x := at(t, 2)
	if out := x.Bytes(append(laid(packet.Of(8)), 17, 0, 0, 0)); !is(out, "", append(laid(packet.Of(9)), abort()...)) {
		t.Error(out)
	}
	x = at(t, 2)
	if out := x.Bytes(append(laid(packet.Of(7)), 17, 0, 0, 0)); !is(out, "c", abort()) || x.State() != 7 {
		t.Error(out, x.State())
	}
	x = at(t, 2)
	if out := x.Bytes(append(laid(packet.Of(6), packet.Of(8), packet.Of(6)), 17, 0, 0, 0)); !is(out, "c", laid(packet.Of(7))) || x.State() != 7 {
		t.Error(out, x.State())
	}
}

// P35.2: ticks till each timer ends.
func TestTick(t *testing.T) {
	for _, c := range []struct {
		state, ticks int
		flags        string
		want         []byte
		next         int
	}{{1, 20, "c", nil, 7}, {2, 20, "", abort(), 5}, {5, 3, "c", nil, 7}, {6, 5, "c", nil, 7}} {
		x := at(t, c.state)
		for tick := 1; tick < c.ticks; tick++ {
			if out := x.Tick(); !is(out, "", nil) || x.State() != c.state || x.Left() != c.ticks-tick {
				t.Fatal(c.state, tick, out, seen(x))
			}
		}
		if out := x.Tick(); !is(out, c.flags, c.want) || x.State() != c.next {
			t.Error(c.state, out, seen(x))
		}
	}
	x := at(t, 3)
	for tick := 1; tick <= 20; tick++ {
		out := x.Tick()
		data, others := frames(t, out.Bytes)
		if tick%3 == 0 != (len(data) == 1) || tick == 20 != (len(others) == 1) || tick == 20 != (x.State() == 5) {
			t.Error(tick, out, seen(x))
		}
	}
}

// P35.2: echoes, and what becomes of one without an answer.
func TestEcho(t *testing.T) {
	x := at(t, 4)
	for round := range 3 {
		for tick := 1; tick <= 10; tick++ {
			out := x.Tick()
			if tick < 10 && !is(out, "", nil) || tick == 10 && (!is(out, "", laid(packet.Of(8))) || x.Left() != 10) {
				t.Fatal(round, tick, out)
			}
		}
		x.Tick()
		if out := x.Bytes(laid(packet.Of(9))); !is(out, "", nil) || x.Left() != 10 {
			t.Fatal(out, x.Left())
		}
	}
	for tick := 1; tick <= 20; tick++ {
		out := x.Tick()
		switch tick {
		case 10:
			if !is(out, "", laid(packet.Of(8))) {
				t.Error(out)
			}
		case 20:
			if !is(out, "", abort()) || x.State() != 5 {
				t.Error(out, x.State())
			}
		default:
			if !is(out, "", nil) {
				t.Error(tick, out)
			}
		}
	}
	x = at(t, 4)
	x.Tick()
	if x.Bytes(laid(packet.OfData([]byte{0}))); x.Left() != 10 {
		t.Error("data wind it up", x.Left())
	}
	x.Tick()
	if x.Bytes(laid(packet.Of(8))[:7]); x.Left() != 9 {
		t.Error("pieces don't", x.Left())
	}
}

// P35.2: closing.
func TestClose(t *testing.T) {
	for _, c := range []struct {
		state int
		flags string
		want  []byte
		next  int
	}{{0, "", nil, 0}, {1, "c", nil, 7}, {2, "c", nil, 7}, {3, "", laid(packet.Of(6)), 6}, {4, "", laid(packet.Of(6)), 6}, {5, "", nil, 5}, {6, "", nil, 6}, {7, "", nil, 7}} {
		x := at(t, c.state)
		if out := x.Close(); !is(out, c.flags, c.want) || x.State() != c.next {
			t.Error(c.state, out, x.State())
		}
		if c.next == 6 && c.state != 6 && (seen(x) != looks{state: 6, left: 5}) {
			t.Error(seen(x))
		}
	}
}

// P35.1, P35.2: a link that is over leaves, and one tick of the timer is gone already, if it is over by a tick.
func TestOver(t *testing.T) {
	x := at(t, 4)
	x.Bytes(laid(packet.OfData([]byte{0xFF, 3, 0xC0, 0x21, 5, 9, 0, 4})))
	for range 2 {
		x.Tick()
	}
	if out := x.Tick(); !is(out, "", laid(packet.Of(6))) || seen(x) != (looks{state: 6, left: 4}) {
		t.Error(out, seen(x))
	}
	x = at(t, 3)
	out := x.Bytes(laid(packet.OfData([]byte{0xFF, 3, 0xC0, 0x21, 7, 9, 0, 5, 1})))
	if !is(out, "", laid(packet.Of(6))) || seen(x) != (looks{state: 6, left: 5}) {
		t.Error(out, seen(x))
	}
}

// P35.1, P35.3: data, in the state 4 alone.
func TestData(t *testing.T) {
	up, _ := ipcp.Lay(ipcp.Datagram{Src: 9, Dst: 1, Data: []byte("up")})
	down, _ := ipcp.Lay(ipcp.Datagram{Src: 1, Dst: 9, Data: []byte("down")})
	other, _ := ipcp.Lay(ipcp.Datagram{Src: 1, Dst: 8, Data: []byte("other")})
	x := at(t, 4)
	if out, sent := x.Send(up); !sent || !is(out, "", laid(packet.OfData(append([]byte{0xFF, 3, 0, 0x21}, up...)))) {
		t.Error(out, sent)
	}
	if out, sent := x.Send([]byte("none")); sent || !is(out, "", nil) {
		t.Error(out, sent)
	}
	d := func(b []byte) []byte { return laid(packet.OfData(append([]byte{0x21}, b...))) }
	out := x.Bytes(slices.Concat(d(down), d(other), d(down)))
	if len(out.Data) != 2 || !bytes.Equal(out.Data[0], down) || !bytes.Equal(out.Data[1], down) || len(out.Bytes) != 0 {
		t.Error(out)
	}
	for state := range 8 {
		if state == 4 {
			continue
		}
		x := at(t, state)
		before := seen(x)
		if out, sent := x.Send(up); sent || !is(out, "", nil) || seen(x) != before {
			t.Error(state, out, sent)
		}
	}
}

// P35.1: another password leaves, and has no key.
func TestRefused(t *testing.T) {
	c := config()
	c.Link.Password = "other"
	x := started(t, c)
	out := x.Bytes(laid(bind.Ask(nonce())))
	l, did := talks(t, x, peer(), out.Bytes, 0)
	if did.Bound || x.State() != 6 || x.Key() != [32]byte{} || l.Phase() != 5 {
		t.Error(did, seen(x), l.Phase())
	}
}

// P35.1: a link that proves itself anew, as it is connected, binds nothing more.
func TestAnew(t *testing.T) {
	x := at(t, 4)
	l, out := peer().Start()
	up := x.Bytes(laid(packet.OfData(out.Frames[0])))
	data, others := frames(t, up.Bytes)
	proved := 0
	for range 40 {
		var down [][]byte
		for _, f := range data {
			l, out = l.Take(f)
			down = append(down, out.Frames...)
			if out.Proved {
				proved++
			}
		}
		data = nil
		for _, f := range down {
			did := x.Bytes(laid(packet.OfData(f)))
			said, more := frames(t, did.Bytes)
			data, others = append(data, said...), append(others, more...)
			if did.Bound || did.Closed {
				t.Error("bound again", did)
			}
		}
	}
	if proved != 1 || len(others) != 0 || x.State() != 4 || x.Key() != l.Key() {
		t.Error(proved, others, seen(x))
	}
}

// P35.3: nil, and one that New did not give.
func TestNobody(t *testing.T) {
	for _, x := range []*sclient.Client{nil, {}} {
		out, sent := x.Send(nil)
		for _, o := range []sclient.Out{x.Start(), x.Bytes(ok()), x.Tick(), x.Close(), out} {
			if !is(o, "", nil) || sent {
				t.Error(o)
			}
		}
		if seen(x) != (looks{}) {
			t.Error(seen(x))
		}
	}
}

// P35.4: once it is closed it does nothing more, and has no key.
func TestClosed(t *testing.T) {
	for _, x := range []*sclient.Client{at(t, 7), at(t, 4), at(t, 6)} {
		x.Bytes(laid(packet.Of(5)))
		out, sent := x.Send(nil)
		for _, o := range []sclient.Out{x.Start(), x.Bytes(ok()), x.Bytes(laid(packet.Of(8))), x.Tick(), x.Close(), out} {
			if !is(o, "", nil) || sent || seen(x) != (looks{state: 7}) {
				t.Error(o, seen(x))
			}
		}
	}
}

// P35.5: however bytes are cut, what it does is the same, and few are held.
func TestCuts(t *testing.T) {
	r := rand.New(rand.NewSource(35))
	l := peer()
	_, out := l.Start()
	whole := slices.Concat(ok(), laid(packet.Of(8), bind.Ask(nonce()), packet.OfData(out.Frames[0]), packet.OfData(make([]byte, 4000)), packet.Of(8), packet.OfData([]byte{0xFF, 3, 2, 1, 9})))
	for _, end := range [][]byte{nil, laid(packet.Of(6)), {17, 1, 1, 1, 1}, laid(packet.Of(5), packet.Of(8)), laid(packet.Of(4))} {
		b := append(bytes.Clone(whole), end...)
		one := at(t, 1)
		want := one.Bytes(b)
		for round := range 30 {
			x := at(t, 1)
			var got sclient.Out
			for i := 0; i < len(b); {
				n := min(len(b)-i, 1+r.Intn(1+round*100))
				o := x.Bytes(b[i : i+n])
				got.Bytes = append(got.Bytes, o.Bytes...)
				got.Closed = got.Closed || o.Closed
				i += n
				if x.Held() >= api.MaxPacket {
					t.Fatal(x.Held())
				}
			}
			if !bytes.Equal(got.Bytes, want.Bytes) || got.Closed != want.Closed || !reflect.DeepEqual(seen(x), seen(one)) {
				t.Fatalf("%x: %d: %x, not %x", end, round, got.Bytes, want.Bytes)
			}
		}
	}
}

// R4 of the document: nothing is written into what is handed in, and nothing of it is kept.
func TestNothingIsShared(t *testing.T) {
	x := at(t, 1)
	b := ok()
	x.Bytes(b[:9])
	clear(b)
	if out := x.Bytes(ok()[9:]); len(out.Bytes) == 0 || x.State() != 2 {
		t.Error("kept", out)
	}
	b = laid(bind.Ask(nonce()))
	before := bytes.Clone(b)
	x.Bytes(b[:20])
	if !bytes.Equal(b, before) {
		t.Error("written into")
	}
	clear(b)
	if x.Bytes(before[20:]); x.State() != 3 {
		t.Error("kept", x.State())
	}
}

// P35.1: the link is a client's, whatever its config tells.
func TestLinkIsAClients(t *testing.T) {
	if x := at(t, 4); x.Key() == [32]byte{} || x.Addr() != 9 {
		t.Error(seen(x))
	}
	if sclient.Wait != 20 || sclient.Hello != 10 || sclient.Last != 3 || sclient.Leave != 5 {
		t.Error("other numbers")
	}
}
