package sserver_test

import (
	"bytes"
	"math/rand"
	"slices"
	"testing"

	"euphroe/api"
	"euphroe/attr"
	"euphroe/bind"
	"euphroe/chaps"
	"euphroe/httpp"
	"euphroe/httpq"
	"euphroe/ipcp"
	"euphroe/ipcpo"
	"euphroe/link"
	"euphroe/packet"
	"euphroe/reframe"
	"euphroe/sclient"
	"euphroe/sserver"
)

func nonce() [32]byte { return [32]byte{7, 8, 9} }
func hash() [32]byte  { return [32]byte{1, 2, 3} }

// config is a session's; its link's flag plays no part.
func config() sserver.Config {
	return sserver.Config{Hash: hash(), Nonce: nonce(), Link: link.Config{Name: "srv", Users: []chaps.User{{Name: "ann", Password: "secret"}}, MRU: 1400, Magic: 5, Random: [16]byte{1}, Side: ipcpo.Side{Server: true, Own: 1, Give: 9}}}
}

// peer is the link of a client.
func peer(password string) link.Link {
	return link.New(link.Config{Name: "ann", Password: password, MRU: 1400, Magic: 6, Random: [16]byte{9}})
}

// laid are packets' bytes.
func laid(l ...api.Packet) []byte {
	var all []byte
	for _, p := range l {
		b, e := packet.Lay(p)
		if e != api.OK {
			panic(e)
		}
		all = append(all, b...)
	}
	return all
}

// request is one that may be.
func request() []byte {
	b, _ := httpq.Lay(httpq.Request{Host: "h"})
	return b
}

// response is one of a status.
func response(status int) []byte {
	b, _ := httpp.Lay(status)
	return b
}

// abort is what is said by one that refuses with a code.
func abort(code uint32) []byte { return laid(packet.Of(5, attr.OfStatus(attr.Status{Code: code}))) }

// proto is a ConnectReq of a protocol.
func proto(n uint16) []byte { return laid(packet.Of(1, attr.Proto(n))) }

// nak is a ConnectNak of another protocol.
func nak() []byte { return laid(packet.Of(3, attr.OfStatus(attr.Status{About: 1, Code: 5}))) }

// is tells whether what is done is this: the flags b and c, and these bytes.
func is(o sserver.Out, flags string, b []byte) bool {
	told := ""
	if o.Bound {
		told += "b"
	}
	if o.Closed {
		told += "c"
	}
	return told == flags && bytes.Equal(o.Bytes, b) && len(o.Data) == 0
}

// data are data packets' data among what is said.
func data(t *testing.T, b []byte) [][]byte {
	l, e := reframe.New().Write(b)
	if e != api.OK {
		t.Fatal(e)
	}
	var all [][]byte
	for _, p := range l {
		if !p.Control {
			all = append(all, p.Data)
		}
	}
	return all
}

// proves lets a session and a client's link hear each other till nothing is under way.
func proves(t *testing.T, x *sserver.Session, l link.Link, down []byte) link.Link {
	l, out := l.Start()
	up := out.Frames
	for {
		for _, f := range data(t, down) {
			l, out = l.Take(f)
			up = append(up, out.Frames...)
		}
		down = nil
		if len(up) == 0 {
			return l
		}
		for _, f := range up {
			if x.State() < 4 {
				down = append(down, x.Bytes(laid(packet.OfData(f))).Bytes...)
			}
		}
		up = nil
		if x.State() >= 4 {
			return l
		}
	}
}

// proved is a session whose client proved itself, and its link.
func proved(t *testing.T) (*sserver.Session, link.Link) {
	x := sserver.New(config())
	x.Bytes(request())
	out := x.Bytes(proto(1))
	return x, proves(t, x, peer("secret"), out.Bytes)
}

// at is a session in a state.
func at(t *testing.T, state int) *sserver.Session {
	x := sserver.New(config())
	switch state {
	case 1:
		x.Bytes(request())
	case 2:
		x.Bytes(append(request(), proto(1)...))
	case 3, 5:
		var l link.Link
		x, l = proved(t)
		x.Bytes(laid(bind.Connected(l.Key(), nonce(), hash())))
		if state == 5 {
			x.Close()
		}
	case 4:
		x.Bytes(append(request(), laid(packet.Of(7))...))
	case 6:
		x.Close()
	}
	if x.State() != state {
		t.Fatal(state, x.State())
	}
	return x
}

// looks is all that can be seen of a session.
type looks struct {
	state, left, held int
	key               [32]byte
	name              string
	addr              api.Addr
}

func seen(x *sserver.Session) looks {
	return looks{x.State(), x.Left(), x.Held(), x.Key(), x.Name(), x.Addr()}
}

// P36.1, P36.3: of a new one.
func TestNew(t *testing.T) {
	if x := sserver.New(config()); seen(x) != (looks{left: 20}) {
		t.Error(seen(x))
	}
	if sserver.Wait != 20 || sserver.Hello != 10 || sserver.Last != 3 || sserver.Leave != 5 || sserver.MaxNak != 3 {
		t.Error("other numbers")
	}
}

// P36.1: a request, byte by byte.
func TestRequest(t *testing.T) {
	x := at(t, 0)
	b := request()
	for i := range b[:len(b)-1] {
		if out := x.Bytes(b[i : i+1]); !is(out, "", nil) || seen(x) != (looks{left: 20, held: i + 1}) {
			t.Fatal(i, out, seen(x))
		}
	}
	x.Tick()
	if out := x.Bytes(b[len(b)-1:]); !is(out, "", response(200)) || seen(x) != (looks{state: 1, left: 20}) {
		t.Error(out, seen(x))
	}
	x = at(t, 0)
	if out := x.Bytes(append(request(), 16, 1, 0)); !is(out, "", response(200)) || seen(x) != (looks{state: 1, left: 20, held: 3}) {
		t.Error("with more behind", out, seen(x))
	}
	x = at(t, 0)
	if out := x.Bytes(append(request(), laid(packet.Of(8), packet.Of(8))...)); !is(out, "", append(response(200), laid(packet.Of(9), packet.Of(9))...)) {
		t.Error(out)
	}
}

// P36.1: each error of a request has its response, and closes.
func TestRequestRefused(t *testing.T) {
	whole := string(request())
	for s, status := range map[string]int{
		"\x00": 400, "\r\n": 400, "GET " + whole[17:]: 405, "SSTP_DUPLEX_POST / HTTP/1.1\r\nHost: h\r\n\r\n": 404, "SSTP_DUPLEX_POST / HTTP/1.0\r\n\r\n": 505, string(bytes.Repeat([]byte("a"), 2048)): 431, string(bytes.Repeat([]byte("a"), 5000)): 431,
		whole[:len(whole)-2] + string(bytes.Repeat([]byte("X: y\r\n"), 40)) + "\r\n": 431, whole[:len(whole)-2] + "Host: i\r\n\r\n": 400, whole[:len(whole)-2] + "SSTPCORRELATIONID: x\r\n\r\n": 400,
	} {
		x := at(t, 0)
		if out := x.Bytes([]byte(s)); !is(out, "c", response(status)) || seen(x) != (looks{state: 6}) {
			t.Errorf("%.60q: %q, %v", s, out.Bytes, seen(x))
		}
	}
	x := at(t, 0)
	x.Bytes(bytes.Repeat([]byte("a"), 2047))
	if x.Held() != 2047 || x.State() != 0 {
		t.Error(seen(x))
	}
}

// P36.1: a ConnectReq: the nonce is told, and the link starts.
func TestConnectReq(t *testing.T) {
	x := at(t, 1)
	x.Tick()
	first := laid(packet.OfData([]byte{0xFF, 3, 0xC0, 0x21, 1, 1, 0, 19, 1, 4, 5, 120, 3, 5, 0xC2, 0x23, 0x81, 5, 6, 0, 0, 0, 5}))
	if out := x.Bytes(proto(1)); !is(out, "", append(laid(bind.Ask(nonce())), first...)) || seen(x) != (looks{state: 2, left: 20}) {
		t.Error(out, seen(x))
	}
	x = at(t, 1)
	for i := range 2 {
		if out := x.Bytes(proto(uint16(2 * i))); !is(out, "", nak()) || x.State() != 1 {
			t.Error(i, out, x.State())
		}
	}
	if out := x.Bytes(proto(65535)); !is(out, "", append(nak(), abort(3)...)) || seen(x) != (looks{state: 4, left: 3}) {
		t.Error(out, seen(x))
	}
	x = at(t, 1)
	x.Bytes(append(proto(7), proto(8)...))
	if out := x.Bytes(proto(1)); x.State() != 2 || len(out.Bytes) == 0 {
		t.Error("the right one behind two", x.State())
	}
}

// P36.1: who may bind, and by which codes others are refused.
func TestConnected(t *testing.T) {
	x, l := proved(t)
	if x.State() != 2 || x.Key() != l.Key() || x.Key() == [32]byte{} || x.Name() != "ann" || x.Addr() != 9 {
		t.Fatal(seen(x))
	}
	x.Tick()
	if out := x.Bytes(laid(bind.Connected(l.Key(), nonce(), hash()))); !is(out, "b", nil) || x.State() != 3 || x.Left() != 10 || x.Key() != l.Key() {
		t.Error(out, seen(x))
	}
	if out := x.Bytes(laid(bind.Connected(l.Key(), nonce(), hash()))); !is(out, "", abort(6)) || x.State() != 4 {
		t.Error("twice", out, x.State())
	}
	other := nonce()
	other[31] = 1
	wrongHash := hash()
	wrongHash[0]++
	key := l.Key()
	key[5]++
	for i, p := range []api.Packet{bind.Connected(l.Key(), other, hash()), bind.Connected(l.Key(), nonce(), wrongHash), bind.Connected(key, nonce(), hash()), packet.Of(4, attr.OfBinding(attr.Binding{Method: 1, Nonce: nonce(), Hash: hash()}))} {
		x, _ := proved(t)
		if out := x.Bytes(laid(p)); !is(out, "", abort(5)) || seen(x) != (looks{state: 4, left: 3}) {
			t.Error(i, out, seen(x))
		}
	}
	x = at(t, 2)
	if out := x.Bytes(laid(bind.Connected([32]byte{}, nonce(), hash()))); !is(out, "", abort(4)) || seen(x) != (looks{state: 4, left: 3}) {
		t.Error("without a proof", out, seen(x))
	}
}

// all are packets of each type, as they may be, and some that may not.
func all() map[string]api.Packet {
	return map[string]api.Packet{
		"req": packet.Of(1, attr.Proto(1)), "ack": bind.Ask(nonce()), "nak": packet.Of(3, attr.OfStatus(attr.Status{About: 1, Code: 5})), "con": bind.Connected([32]byte{1}, nonce(), hash()), "abort": packet.Of(5), "status": packet.Of(5, attr.OfStatus(attr.Status{})),
		"disc": packet.Of(6), "dack": packet.Of(7), "echo": packet.Of(8), "resp": packet.Of(9), "data": packet.OfData([]byte{0}), "bad": packet.Of(1), "none": packet.Of(77), "form": packet.Of(2, attr.OfAsk(attr.Ask{Methods: 9})), "late": packet.Of(7, attr.Proto(1)),
		"abortx": packet.Of(5, attr.Proto(1)), "discx": packet.Of(6, attr.OfStatus(attr.Status{About: 9})), "echox": packet.Of(8, attr.Proto(1)), "respx": packet.Of(9, attr.Proto(1)),
	}
}

// P36.1: each packet in each state: what is said, and which state comes.
func TestPackets(t *testing.T) {
	for state := 1; state <= 5; state++ {
		for name, p := range all() {
			if state == 1 && name == "req" {
				continue
			}
			want, next, flags := abort(6), 4, ""
			switch name {
			case "bad", "none", "form", "late", "abortx", "discx", "echox", "respx":
				want = abort(2)
			case "abort", "status":
				want, next, flags = laid(packet.Of(5)), 6, "c"
			case "disc":
				want, next, flags = laid(packet.Of(7)), 6, "c"
			case "echo":
				want, next = laid(packet.Of(9)), state
			case "resp", "data":
				want, next = nil, state
			case "con":
				if state == 2 {
					want = abort(4)
				}
			}
			if state >= 4 {
				want, next, flags = nil, state, ""
				switch {
				case name == "abort" || name == "status" || name == "abortx" || state == 5 && (name == "dack" || name == "late"):
					next, flags = 6, "c"
				case state == 5 && (name == "disc" || name == "discx"):
					want = laid(packet.Of(7))
				}
			}
			x := at(t, state)
			x.Tick()
			x.Tick()
			out := x.Bytes(laid(p))
			if !is(out, flags, want) || x.State() != next {
				t.Errorf("%s in %d: %v, %d, not %v, %d", name, state, out, x.State(), want, next)
			}
			if next >= 4 && (x.Key() != [32]byte{} || x.Name() != "" || x.Addr() != 0) {
				t.Errorf("%s in %d: %v", name, state, seen(x))
			}
			if wound := map[int]int{1: 18, 2: 18, 3: 10, 4: 1, 5: 3}; next == state && x.Left() != wound[state] {
				t.Errorf("%s in %d: %d left", name, state, x.Left())
			}
			if left := map[int]int{4: 3, 6: 0}; next != state && x.Left() != left[next] {
				t.Errorf("%s in %d: %d left", name, state, x.Left())
			}
		}
	}
}

// P36.1: what breaks the stream, and that bytes do nothing behind it.
func TestBroken(t *testing.T) {
	for state := 1; state <= 5; state++ {
		x := at(t, state)
		want, next, flags := abort(1), 4, ""
		if state >= 4 {
			want, next, flags = nil, 6, "c"
		}
		if out := x.Bytes([]byte{17, 0, 0, 5}); !is(out, flags, want) || x.State() != next || x.Held() != 0 {
			t.Error(state, out, x.State())
		}
		for _, b := range [][]byte{laid(packet.Of(5)), {17, 0, 0, 0}, nil} {
			if out := x.Bytes(b); !is(out, "", nil) || x.State() != next {
				t.Error(state, out, x.State())
			}
		}
	}
	x := at(t, 1)
	if out := x.Bytes(append(laid(packet.Of(8), packet.Of(9)), 17, 0, 0, 0)); !is(out, "", append(laid(packet.Of(9)), abort(1)...)) {
		t.Error(out)
	}
	x = at(t, 1)
	if out := x.Bytes(append(laid(packet.Of(7)), 17, 0, 0, 0)); !is(out, "c", abort(6)) || x.State() != 6 {
		t.Error(out, x.State())
	}
	x = at(t, 1)
	if out := x.Bytes(append(laid(packet.Of(6), packet.Of(8)), 17, 0, 0, 0)); !is(out, "c", laid(packet.Of(7))) || x.State() != 6 {
		t.Error(out, x.State())
	}
}

// P36.2: ticks till each timer ends.
func TestTick(t *testing.T) {
	for _, c := range []struct {
		state, ticks int
		flags        string
		want         []byte
		next         int
	}{{0, 20, "c", nil, 6}, {1, 20, "", abort(7), 4}, {4, 3, "c", nil, 6}, {5, 5, "c", nil, 6}} {
		x := at(t, c.state)
		for tick := 1; tick < c.ticks; tick++ {
			if out := x.Tick(); !is(out, "", nil) || x.State() != c.state || x.Left() != c.ticks-tick {
				t.Fatal(c.state, tick, out, seen(x))
			}
		}
		if out := x.Tick(); !is(out, c.flags, c.want) || x.State() != c.next {
			t.Error(c.state, out, seen(x))
		}
	}
	x := at(t, 2)
	for tick := 1; tick <= 20; tick++ {
		out := x.Tick()
		if tick%3 == 0 != (len(data(t, out.Bytes)) == 1) || tick == 20 != bytes.HasSuffix(out.Bytes, abort(7)) || tick == 20 != (x.State() == 4) {
			t.Error(tick, out, seen(x))
		}
	}
}

// P36.2: echoes, and what becomes of one without an answer.
func TestEcho(t *testing.T) {
	x := at(t, 3)
	for round := range 3 {
		for tick := 1; tick <= 10; tick++ {
			out := x.Tick()
			if tick < 10 && !is(out, "", nil) || tick == 10 && (!is(out, "", laid(packet.Of(8))) || x.Left() != 10) {
				t.Fatal(round, tick, out)
			}
		}
		x.Tick()
		if out := x.Bytes(laid(packet.Of(9))); !is(out, "", nil) || x.Left() != 10 {
			t.Fatal(out, x.Left())
		}
	}
	for tick := 1; tick <= 20; tick++ {
		out := x.Tick()
		switch tick {
		case 10:
			if !is(out, "", laid(packet.Of(8))) {
				t.Error(out)
			}
		case 20:
			if !is(out, "", abort(7)) || seen(x) != (looks{state: 4, left: 3}) {
				t.Error(out, seen(x))
			}
		default:
			if !is(out, "", nil) {
				t.Error(tick, out)
			}
		}
	}
	x = at(t, 3)
	x.Tick()
	if x.Bytes(laid(packet.OfData([]byte{0}))); x.Left() != 10 {
		t.Error("data wind it up", x.Left())
	}
}

// P36.2: closing.
func TestClose(t *testing.T) {
	for _, c := range []struct {
		state int
		flags string
		want  []byte
		next  int
	}{{0, "c", nil, 6}, {1, "c", nil, 6}, {2, "", laid(packet.Of(6)), 5}, {3, "", laid(packet.Of(6)), 5}, {4, "", nil, 4}, {5, "", nil, 5}, {6, "", nil, 6}} {
		x := at(t, c.state)
		if out := x.Close(); !is(out, c.flags, c.want) || x.State() != c.next {
			t.Error(c.state, out, x.State())
		}
		if c.next == 5 && c.state != 5 && (seen(x) != looks{state: 5, left: 5}) {
			t.Error(seen(x))
		}
	}
}

// P36.1, P36.2: a link that is over leaves.
func TestOver(t *testing.T) {
	for _, state := range []int{2, 3} {
		x := at(t, state)
		id := byte(1)
		out := x.Bytes(laid(packet.OfData([]byte{0xFF, 3, 0xC0, 0x21, 5, id, 0, 4})))
		if state == 3 {
			for range 2 {
				x.Tick()
			}
			out = x.Tick()
			if !is(out, "", laid(packet.Of(6))) || seen(x) != (looks{state: 5, left: 4}) {
				t.Error(out, seen(x))
			}
			continue
		}
		out = x.Bytes(laid(packet.OfData([]byte{0xFF, 3, 0xC0, 0x21, 7, id, 0, 5, 1})))
		if !is(out, "", laid(packet.Of(6))) || seen(x) != (looks{state: 5, left: 5}) {
			t.Error(out, seen(x))
		}
	}
	x := sserver.New(config())
	x.Bytes(request())
	out := x.Bytes(proto(1))
	if l := proves(t, x, peer("other"), out.Bytes); x.State() != 5 || x.Key() != [32]byte{} || x.Name() != "" {
		t.Error("another password", seen(x), l.Phase())
	}
}

// P36.3, P36.4: data come, and go, by a session that is bound alone.
func TestData(t *testing.T) {
	up, _ := ipcp.Lay(ipcp.Datagram{Src: 9, Dst: 1, Data: []byte("up")})
	down, _ := ipcp.Lay(ipcp.Datagram{Src: 1, Dst: 9, Data: []byte("down")})
	other, _ := ipcp.Lay(ipcp.Datagram{Src: 8, Dst: 1, Data: []byte("other")})
	d := func(b []byte) []byte { return laid(packet.OfData(append([]byte{0x21}, b...))) }
	x, l := proved(t)
	if out := x.Bytes(d(up)); !is(out, "", nil) || x.State() != 2 {
		t.Error("delivered ahead of the binding", out)
	}
	if out, sent := x.Send(down); sent || !is(out, "", nil) {
		t.Error("sent ahead of the binding", out)
	}
	x.Bytes(laid(bind.Connected(l.Key(), nonce(), hash())))
	out := x.Bytes(slices.Concat(d(up), d(other), d(up)))
	if len(out.Data) != 2 || !bytes.Equal(out.Data[0], up) || !bytes.Equal(out.Data[1], up) || len(out.Bytes) != 0 {
		t.Error(out)
	}
	if out, sent := x.Send(down); !sent || !is(out, "", laid(packet.OfData(append([]byte{0xFF, 3, 0, 0x21}, down...)))) {
		t.Error(out, sent)
	}
	if out, sent := x.Send([]byte("none")); sent || !is(out, "", nil) {
		t.Error(out, sent)
	}
	for state := range 7 {
		if state == 3 {
			continue
		}
		x := at(t, state)
		before := seen(x)
		if out, sent := x.Send(down); sent || !is(out, "", nil) || seen(x) != before {
			t.Error(state, out, sent)
		}
	}
}

// P36.3: nil, and one that New did not give.
func TestNobody(t *testing.T) {
	for _, x := range []*sserver.Session{nil, {}} {
		out, sent := x.Send(nil)
		for _, o := range []sserver.Out{x.Bytes(request()), x.Tick(), x.Close(), out} {
			if !is(o, "", nil) || sent {
				t.Error(o)
			}
		}
		if seen(x) != (looks{}) {
			t.Error(seen(x))
		}
	}
}

// P36.5: once it is closed it does nothing more, and has no key.
func TestClosed(t *testing.T) {
	for _, x := range []*sserver.Session{at(t, 6), at(t, 3), at(t, 5)} {
		x.Bytes(laid(packet.Of(5)))
		out, sent := x.Send(nil)
		for _, o := range []sserver.Out{x.Bytes(request()), x.Bytes(laid(packet.Of(8))), x.Bytes([]byte{9, 9, 9, 9}), x.Tick(), x.Close(), out} {
			if !is(o, "", nil) || sent || seen(x) != (looks{state: 6}) {
				t.Error(o, seen(x))
			}
		}
	}
}

// P36.1: however bytes are cut, what it does is the same, and few are held.
func TestCuts(t *testing.T) {
	r := rand.New(rand.NewSource(36))
	whole := slices.Concat(request(), laid(packet.Of(8)), proto(2), proto(1), laid(packet.OfData(make([]byte, 4000)), packet.Of(8), packet.OfData([]byte{0xFF, 3, 0xC0, 0x21, 1, 1, 0, 4})))
	for _, end := range [][]byte{nil, laid(packet.Of(6)), {17, 1, 1, 1, 1}, laid(packet.Of(5), packet.Of(8)), laid(packet.Of(4))} {
		b := append(bytes.Clone(whole), end...)
		one := at(t, 0)
		want := one.Bytes(b)
		for round := range 30 {
			x := at(t, 0)
			var got sserver.Out
			for i := 0; i < len(b); {
				n := min(len(b)-i, 1+r.Intn(1+round*100))
				o := x.Bytes(b[i : i+n])
				got.Bytes = append(got.Bytes, o.Bytes...)
				got.Closed = got.Closed || o.Closed
				i += n
				if x.Held() >= api.MaxPacket {
					t.Fatal(x.Held())
				}
			}
			if !bytes.Equal(got.Bytes, want.Bytes) || got.Closed != want.Closed || seen(x) != seen(one) {
				t.Fatalf("%x: %d: %x, not %x", end, round, got.Bytes, want.Bytes)
			}
		}
	}
}

// W1, W4: a client and a session come to be bound both, byte by byte, and say farewell.
func TestWithAClient(t *testing.T) {
	for _, size := range []int{1, 7, 100000} {
		x := sserver.New(config())
		c := sclient.New(sclient.Config{Request: httpq.Request{Host: "h"}, Hash: hash(), Link: link.Config{Name: "ann", Password: "secret", MRU: 1400, Magic: 6, Random: [16]byte{9}}})
		up, down := c.Start().Bytes, []byte(nil)
		var ours, theirs bool
		run := func() {
			for len(up)+len(down) > 0 {
				n := min(size, len(up))
				o := x.Bytes(up[:n])
				up, down, ours = up[n:], append(down, o.Bytes...), ours || o.Bound
				n = min(size, len(down))
				d := c.Bytes(down[:n])
				down, up, theirs = down[n:], append(up, d.Bytes...), theirs || d.Bound
			}
		}
		run()
		if !ours || !theirs || x.State() != 3 || c.State() != 4 || x.Key() != c.Key() || x.Addr() != 9 || c.Addr() != 9 {
			t.Fatal(size, ours, theirs, seen(x), c.State())
		}
		up = c.Close().Bytes
		run()
		if x.State() != 6 || c.State() != 7 {
			t.Error(size, x.State(), c.State())
		}
	}
}

// R4 of the document: nothing is written into what is handed in, and nothing of it is kept.
func TestNothingIsShared(t *testing.T) {
	x := at(t, 0)
	b := request()
	x.Bytes(b[:9])
	clear(b)
	if out := x.Bytes(request()[9:]); !is(out, "", response(200)) {
		t.Error("kept", out)
	}
	b = proto(1)
	before := bytes.Clone(b)
	x.Bytes(b[:9])
	if !bytes.Equal(b, before) {
		t.Error("written into")
	}
	clear(b)
	if x.Bytes(before[9:]); x.State() != 2 {
		t.Error("kept", x.State())
	}
}
