package nego_test

import (
	"bytes"
	"math/rand"
	"reflect"
	"slices"
	"testing"

	"euphroe/api"
	"euphroe/ctl"
	"euphroe/fsm"
	"euphroe/ipcpo"
	"euphroe/lcpo"
	"euphroe/nego"
)

// rules are a link's.
func rules() nego.Rules {
	return nego.Rules{Want: lcpo.Want{MRU: 1400, Magic: 7}, Proves: true}
}

// asked are the data of what these rules ask for.
func asked() []byte { return []byte{1, 4, 5, 120, 5, 6, 0, 0, 0, 7} }

// server and client are sides of addresses.
func server() nego.Rules {
	return nego.Rules{IP: true, Side: ipcpo.Side{Server: true, Own: 0x0A000001, Give: 0x0A000009, DNS: 0x0A000035}}
}
func client() nego.Rules { return nego.Rules{IP: true, Side: ipcpo.Side{Asks: true}} }

// pack is a packet.
func pack(code, id byte, data ...byte) api.Control {
	return api.Control{Code: code, ID: id, Data: data}
}

// good is a request that is acked.
func good(id byte) api.Control { return pack(1, id, 5, 6, 0, 0, 0, 9) }

// at is a negotiation that came to a state by the shortest way.
func at(t *testing.T, r nego.Rules, s fsm.State) nego.Nego {
	n := nego.New(r)
	do := func(l ...fsm.Event) {
		for _, e := range l {
			n, _ = n.Do(e)
		}
	}
	ack := func() {
		n, _ = n.Take(pack(2, 1, sentBy(r)...))
	}
	request := func() { n, _ = n.Take(fine(r)) }
	switch s {
	case fsm.Starting:
		do(fsm.Open)
	case fsm.Closed:
		do(fsm.Up)
	case fsm.Stopped:
		do(fsm.Open, fsm.Up)
		for range 30 {
			n, _ = n.Tick()
		}
	case fsm.Closing:
		do(fsm.Open, fsm.Up, fsm.Close)
	case fsm.Stopping:
		do(fsm.Open, fsm.Up)
		ack()
		request()
		n, _ = n.Take(pack(5, 77))
	case fsm.ReqSent:
		do(fsm.Open, fsm.Up)
	case fsm.AckRcvd:
		do(fsm.Open, fsm.Up)
		ack()
	case fsm.AckSent:
		do(fsm.Open, fsm.Up)
		request()
	case fsm.Opened:
		do(fsm.Open, fsm.Up)
		ack()
		request()
	}
	if n.State() != s {
		t.Fatalf("%d: came to %d", s, n.State())
	}
	return n
}

// sentBy are the data of the first request by rules.
func sentBy(r nego.Rules) []byte {
	_, out := first(r)
	return out.Packets[0].Data
}

func first(r nego.Rules) (nego.Nego, nego.Out) {
	n, _ := nego.New(r).Do(fsm.Open)
	return n.Do(fsm.Up)
}

// fine is a request that is acked by rules.
func fine(r nego.Rules) api.Control {
	if r.IP && r.Side.Server {
		return pack(1, 40, 3, 6, 10, 0, 0, 9)
	}
	if r.IP {
		return pack(1, 40, 3, 6, 10, 0, 0, 1)
	}
	return good(40)
}

// same tells whether what is done is this, and these packets.
func same(o nego.Out, flags string, l ...api.Control) bool {
	told := ""
	for _, f := range []struct {
		is   bool
		name string
	}{{o.Up, "u"}, {o.Down, "d"}, {o.Started, "s"}, {o.Finished, "f"}} {
		if f.is {
			told += f.name
		}
	}
	return told == flags && slices.EqualFunc(o.Packets, l, func(a, b api.Control) bool { return a.Code == b.Code && a.ID == b.ID && bytes.Equal(a.Data, b.Data) })
}

// P27.1, P27.2: of a new one.
func TestNew(t *testing.T) {
	n := nego.New(rules())
	count, left := n.Waits()
	if n.State() != fsm.Initial || n.Rules() != rules() || len(n.Acked()) != 0 || count != 0 || left != 0 {
		t.Error(n.State(), n.Rules(), n.Acked(), count, left)
	}
	n, out := n.Do(fsm.Open)
	if n.State() != fsm.Starting || !same(out, "s") {
		t.Error(n.State(), out)
	}
	n, out = n.Do(fsm.Up)
	count, left = n.Waits()
	if n.State() != fsm.ReqSent || !same(out, "", pack(1, 1, asked()...)) || count != 9 || left != 3 {
		t.Error(n.State(), out, count, left)
	}
}

// P27.2: the zero one is one of no rules.
func TestZero(t *testing.T) {
	var n nego.Nego
	if n.Rules() != (nego.Rules{}) || n.State() != fsm.Initial {
		t.Error(n.Rules(), n.State())
	}
	n, _ = n.Do(fsm.Open)
	if n, out := n.Do(fsm.Up); n.State() != fsm.ReqSent || !same(out, "", pack(1, 1)) {
		t.Error(n.State(), out)
	}
}

// P27.2: another number, and never 0.
func TestFresh(t *testing.T) {
	for _, n := range []uint32{0, 1, 2, 7, 0x9E3779B1, 1 << 31, 0xFFFFFFFF, 0x12345678} {
		want := uint32((uint64(n)*2654435761 + 1) % (1 << 32))
		if want == 0 {
			want = 1
		}
		if got := nego.Fresh(n); got != want {
			t.Errorf("Fresh(%d): %d, not %d", n, got, want)
		}
	}
	// 244002641 times 2654435761 is 1 modulo 2^32: of what is 1 less than a multiple of 2^32 it would be 0.
	inverse := uint32(244002641)
	if got := nego.Fresh(-inverse); got != 1 {
		t.Errorf("%d", got)
	}
}

// P27.1: events that are none of the four do nothing.
func TestDoOthers(t *testing.T) {
	for s := fsm.Initial; s <= fsm.Opened; s++ {
		n := at(t, rules(), s)
		for e := fsm.Event(-2); e < 20; e++ {
			if e >= fsm.Up && e <= fsm.Close {
				continue
			}
			if after, out := n.Do(e); !reflect.DeepEqual(after, n) || !same(out, "") {
				t.Errorf("%d in %d: %v", e, s, out)
			}
		}
	}
}

// sends are the packets that the table's actions send, of a negotiation whose identifier is id.
func sends(l []fsm.Action, id byte, came, answer api.Control) (string, []api.Control) {
	flags := ""
	var packets []api.Control
	for _, f := range []struct {
		a    fsm.Action
		name string
	}{{fsm.LayerUp, "u"}, {fsm.LayerDown, "d"}, {fsm.LayerStarted, "s"}, {fsm.LayerFinished, "f"}} {
		if slices.Contains(l, f.a) {
			flags += f.name
		}
	}
	for _, a := range l {
		switch a {
		case fsm.SendReq:
			id++
			packets = append(packets, pack(1, id, asked()...))
		case fsm.SendAck, fsm.SendNak:
			packets = append(packets, answer)
		case fsm.SendTerm:
			id++
			packets = append(packets, pack(5, id))
		case fsm.SendTermAck:
			packets = append(packets, pack(6, came.ID))
		case fsm.SendReject:
			id++
			b, _ := ctl.Lay(came)
			packets = append(packets, pack(7, id, b...))
		}
	}
	return flags, packets
}

// last is the identifier of the last packet that a negotiation sent on its way to a state.
func last(s fsm.State) byte {
	switch s {
	case fsm.Initial, fsm.Starting, fsm.Closed:
		return 0
	case fsm.Stopped:
		return 10
	case fsm.Closing:
		return 2
	}
	return 1
}

// P27.1: each event in each state is done by the table, with its packets.
func TestByTheTable(t *testing.T) {
	events := map[fsm.Event][]api.Control{
		fsm.TermReq: {pack(5, 33), pack(5, 34, 1, 2)}, fsm.TermAck: {pack(6, 33), pack(6, 200)}, fsm.Reject: {pack(7, 5), pack(7, 5, 8), pack(7, 5, 12, 1), pack(7, 5, 0), pack(8, 1, 0x80, 0x21), pack(8, 1)},
		fsm.Fatal: {pack(7, 5, 1), pack(7, 5, 7, 9, 9), pack(7, 1, 4)}, fsm.Echo: {pack(9, 1), pack(9, 1, 0, 0, 0, 0), pack(10, 9, 1), pack(11, 3)}, fsm.Unknown: {pack(0, 9), pack(12, 7, 1, 2, 3), pack(255, 1)},
		fsm.GoodReq: {good(90), pack(1, 91)}, fsm.BadReq: {pack(1, 90, 9, 2), pack(1, 91, 5, 6, 0, 0, 0, 0)},
	}
	answers := map[byte]api.Control{90: pack(2, 90, 5, 6, 0, 0, 0, 9), 91: pack(2, 91)}
	bad := map[byte]api.Control{90: pack(4, 90, 9, 2), 91: pack(3, 91, 5, 6, byte(nego.Fresh(7)>>24), byte(nego.Fresh(7)>>16), byte(nego.Fresh(7)>>8), byte(nego.Fresh(7)))}
	for s := fsm.Initial; s <= fsm.Opened; s++ {
		for e, l := range events {
			for _, c := range l {
				answer := answers[c.ID]
				if e == fsm.BadReq {
					answer = bad[c.ID]
				}
				check(t, s, e, c, answer, func(n nego.Nego) (nego.Nego, nego.Out) { return n.Take(c) })
			}
		}
		for e := fsm.Up; e <= fsm.Close; e++ {
			check(t, s, e, api.Control{}, api.Control{}, func(n nego.Nego) (nego.Nego, nego.Out) { return n.Do(e) })
		}
	}
}

// check does something in a state, and holds it against the table.
func check(t *testing.T, s fsm.State, e fsm.Event, came, answer api.Control, do func(n nego.Nego) (nego.Nego, nego.Out)) {
	n := at(t, rules(), s)
	count, left := n.Waits()
	next, actions, err := fsm.Next(s, e)
	if err != api.OK {
		next, actions = s, nil
	}
	flags, packets := sends(actions, last(s), came, answer)
	after, out := do(n)
	if after.State() != next || !same(out, flags, packets...) {
		t.Errorf("event %d in %d, %v: %d, %v, not %d, %v, %v", e, s, came, after.State(), out, next, flags, packets)
	}
	for _, a := range actions {
		switch a {
		case fsm.InitCount:
			count = 10
			if slices.Contains(actions, fsm.SendTerm) {
				count = 2
			}
		case fsm.ZeroCount:
			count, left = 0, 3
		case fsm.SendReq, fsm.SendTerm:
			count, left = max(0, count-1), 3
		}
	}
	if err == api.OK && !fsm.Timed(next) {
		left = 0
	}
	if c, l := after.Waits(); c != count || l != left {
		t.Errorf("event %d in %d, %v: waits %d, %d, not %d, %d", e, s, came, c, l, count, left)
	}
}

// P27.1: a ConfAck counts of the last identifier, and of the options that were sent.
func TestConfAck(t *testing.T) {
	for s := fsm.Initial; s <= fsm.Opened; s++ {
		n := at(t, rules(), s)
		for _, c := range []api.Control{pack(2, last(s)+1, asked()...), pack(2, last(s), asked()[:4]...), pack(2, last(s), 5, 6, 0, 0, 0, 7, 1, 4, 5, 120), pack(2, last(s), append(asked(), 7, 2)...), pack(2, last(s), 1), pack(2, last(s), 1, 4, 5, 121, 5, 6, 0, 0, 0, 7)} {
			if after, out := n.Take(c); !reflect.DeepEqual(after, n) || !same(out, "") {
				t.Errorf("%v in %d: %v", c, s, out)
			}
		}
		if s >= fsm.Stopped {
			check(t, s, fsm.Ack, pack(2, last(s)), api.Control{}, func(n nego.Nego) (nego.Nego, nego.Out) { return n.Take(pack(2, last(s), asked()...)) })
		}
	}
	n := at(t, rules(), fsm.Closed)
	if after, out := n.Take(pack(2, 0)); after.State() != fsm.Closed || !same(out, "", pack(6, 0)) {
		t.Error("of none that were sent, of identifier 0", out)
	}
}

// P27.1: a ConfNak, and a ConfRej, turn the rules, and ask again.
func TestRefused(t *testing.T) {
	fresh := nego.Fresh(7)
	magic := []byte{byte(fresh >> 24), byte(fresh >> 16), byte(fresh >> 8), byte(fresh)}
	for _, c := range []struct {
		c    api.Control
		want lcpo.Want
		data []byte
	}{
		{pack(3, 1, 1, 4, 4, 0), lcpo.Want{MRU: 1024, Magic: 7}, []byte{1, 4, 4, 0, 5, 6, 0, 0, 0, 7}},
		{pack(3, 1, 5, 6, 9, 9, 9, 9), lcpo.Want{MRU: 1400, Magic: fresh}, append([]byte{1, 4, 5, 120, 5, 6}, magic...)},
		{pack(3, 1, 9, 2), lcpo.Want{MRU: 1400, Magic: 7}, asked()},
		{pack(4, 1, 1, 4, 5, 120), lcpo.Want{Magic: 7}, []byte{5, 6, 0, 0, 0, 7}},
		{pack(4, 1, 5, 6, 0, 0, 0, 7), lcpo.Want{MRU: 1400}, []byte{1, 4, 5, 120}},
		{pack(4, 1, asked()...), lcpo.Want{}, nil},
	} {
		n, out := at(t, rules(), fsm.ReqSent).Take(c.c)
		if n.Rules().Want != c.want || n.State() != fsm.ReqSent || !same(out, "", pack(1, 2, c.data...)) {
			t.Errorf("%v: %v, %v", c.c, n.Rules(), out)
		}
		if count, left := n.Waits(); count != 9 || left != 3 {
			t.Error(count, left)
		}
	}
	n := at(t, rules(), fsm.ReqSent)
	for _, c := range []api.Control{
		pack(3, 1), pack(4, 1), pack(3, 2, 1, 4, 4, 0), pack(4, 0, 1, 4, 5, 120), pack(3, 1, 1, 4, 4), pack(4, 1, 1, 4, 5, 120, 5), pack(4, 1, 1, 4, 5, 121), pack(4, 1, 7, 2), pack(4, 1, 5, 6, 0, 0, 0, 7, 1, 4, 5, 120), pack(4, 1, 1, 4, 5, 120, 1, 4, 5, 120),
	} {
		if after, out := n.Take(c); !reflect.DeepEqual(after, n) || !same(out, "") {
			t.Errorf("%v: %v", c, out)
		}
	}
}

// P27.1: what one can't go on without is fatal.
func TestRejectedForGood(t *testing.T) {
	r := nego.Rules{Want: lcpo.Want{MRU: 1400, Magic: 7, Prove: true}}
	n, _ := first(r)
	n, out := n.Take(pack(4, 1, 3, 5, 0xC2, 0x23, 0x81, 5, 6, 0, 0, 0, 7))
	if n.State() != fsm.Stopped || !same(out, "f") || n.Rules().Want != (lcpo.Want{MRU: 1400, Prove: true}) {
		t.Error(n.State(), out, n.Rules())
	}
	n, _ = first(client())
	n, out = n.Take(pack(4, 1, 129, 6, 0, 0, 0, 0))
	if n.State() != fsm.ReqSent || !same(out, "", pack(1, 2, 3, 6, 0, 0, 0, 0)) || n.Rules().Side.Asks {
		t.Error(n.State(), out, n.Rules())
	}
	n, out = n.Take(pack(4, 2, 3, 6, 0, 0, 0, 0))
	if n.State() != fsm.Stopped || !same(out, "f") {
		t.Error(n.State(), out)
	}
}

// P27.1: of addresses, how a client is naked, and codes that are LCP's alone.
func TestAddresses(t *testing.T) {
	n, out := first(client())
	if !same(out, "", pack(1, 1, 3, 6, 0, 0, 0, 0, 129, 6, 0, 0, 0, 0)) {
		t.Error(out)
	}
	n, out = n.Take(pack(3, 1, 3, 6, 10, 0, 0, 9, 129, 6, 10, 0, 0, 53))
	if !same(out, "", pack(1, 2, 3, 6, 10, 0, 0, 9, 129, 6, 10, 0, 0, 53)) || n.Rules().Side != (ipcpo.Side{Own: 0x0A000009, DNS: 0x0A000035, Asks: true}) {
		t.Error(out, n.Rules())
	}
	s, out := first(server())
	if !same(out, "", pack(1, 1, 3, 6, 10, 0, 0, 1)) {
		t.Error(out)
	}
	if _, out = s.Take(pack(1, 8, 3, 6, 0, 0, 0, 0)); !same(out, "", pack(3, 8, 3, 6, 10, 0, 0, 9)) {
		t.Error(out)
	}
	for _, code := range []byte{8, 9, 10, 11, 12} {
		for _, r := range []nego.Rules{client(), server()} {
			n := at(t, r, fsm.Opened)
			if after, out := n.Take(pack(code, 6, 1)); after.State() != fsm.Opened || !same(out, "", pack(7, 2, code, 6, 0, 5, 1)) {
				t.Errorf("%d: %v", code, out)
			}
		}
	}
}

// P27.1: what is sent again, and when it is given up.
func TestTick(t *testing.T) {
	for _, c := range []struct {
		s    fsm.State
		code byte
		id   byte
		left int // how often it is sent again
		end  fsm.State
	}{{fsm.ReqSent, 1, 1, 9, fsm.Stopped}, {fsm.AckSent, 1, 1, 9, fsm.Stopped}, {fsm.Closing, 5, 2, 1, fsm.Closed}, {fsm.Stopping, 5, 1, 0, fsm.Stopped}} {
		n := at(t, rules(), c.s)
		for tick := 1; tick <= 40; tick++ {
			var out nego.Out
			n, out = n.Tick()
			times := tick / 3
			state := c.s
			if times > c.left {
				state = c.end
			}
			switch {
			case tick%3 == 0 && times <= c.left:
				want := pack(c.code, c.id+byte(times))
				if c.code == 1 {
					want.Data = asked()
				}
				if !same(out, "", want) {
					t.Errorf("%d at %d: %v", c.s, tick, out)
				}
			case tick == 3*c.left+3:
				if !same(out, "f") {
					t.Errorf("%d at %d: %v", c.s, tick, out)
				}
			default:
				if !same(out, "") {
					t.Errorf("%d at %d: %v", c.s, tick, out)
				}
			}
			if n.State() != state {
				t.Fatalf("%d at %d: %d", c.s, tick, n.State())
			}
		}
	}
	for _, s := range []fsm.State{fsm.Initial, fsm.Starting, fsm.Closed, fsm.Stopped, fsm.Opened} {
		n := at(t, rules(), s)
		if after, out := n.Tick(); !reflect.DeepEqual(after, n) || !same(out, "") {
			t.Error(s, out)
		}
	}
	n := at(t, rules(), fsm.AckRcvd)
	for range 3 {
		n, _ = n.Tick()
	}
	if n.State() != fsm.ReqSent {
		t.Error(n.State())
	}
}

// P27.1: who is naked more than five times is rejected, till it acks.
func TestNakedOften(t *testing.T) {
	r := nego.Rules{Want: lcpo.Want{Magic: 7}}
	n, _ := first(r)
	request := pack(1, 50, 7, 2, 1, 4, 0, 1, 5, 6, 0, 0, 0, 0)
	var out nego.Out
	for i := range 9 {
		n, out = n.Take(request)
		f := nego.Fresh(7)
		want := pack(3, 50, 1, 4, 5, 120, 5, 6, byte(f>>24), byte(f>>16), byte(f>>8), byte(f))
		if i >= 5 {
			want = pack(4, 50, 1, 4, 0, 1, 5, 6, 0, 0, 0, 0)
		}
		if !same(out, "", want) {
			t.Errorf("%d: %v", i, out)
		}
	}
	// Neither what is rejected at once, nor what is acked, nor another one's ConfAck, changes how often it was naked.
	n, _ = n.Take(pack(1, 51, 9, 2))
	n, _ = n.Take(pack(1, 52))
	n, _ = n.Take(pack(2, 9, 5, 6, 0, 0, 0, 7))
	if n, out = n.Take(request); out.Packets[0].Code != 4 {
		t.Error(out)
	}
	n, _ = n.Take(pack(2, 1, 5, 6, 0, 0, 0, 7))
	for i := range 6 {
		if n, out = n.Take(request); out.Packets[0].Code != map[bool]byte{false: 3, true: 4}[i == 5] {
			t.Errorf("%d, behind an ack: %v", i, out)
		}
	}
}

// P27.1: by the own number and the other end's together a number is fresh.
func TestFreshTogether(t *testing.T) {
	n, _ := first(nego.Rules{Want: lcpo.Want{Magic: 7}})
	f := nego.Fresh(14)
	if _, out := n.Take(pack(1, 1, 5, 6, 0, 0, 0, 7)); !same(out, "", pack(3, 1, 5, 6, byte(f>>24), byte(f>>16), byte(f>>8), byte(f))) {
		t.Error(out)
	}
}

// P27.1: options that can't be parsed are nothing; none at all can.
func TestBrokenRequests(t *testing.T) {
	for s := fsm.Initial; s <= fsm.Opened; s++ {
		n := at(t, rules(), s)
		for _, data := range [][]byte{{1}, {1, 1}, {1, 5, 1}, bytes.Repeat([]byte{7, 2}, 33)} {
			if after, out := n.Take(pack(1, 5, data...)); !reflect.DeepEqual(after, n) || !same(out, "") {
				t.Errorf("%x in %d: %v", data, s, out)
			}
		}
	}
	if _, out := at(t, rules(), fsm.ReqSent).Take(pack(1, 5)); !same(out, "", pack(2, 5)) {
		t.Error(out)
	}
}

// P27.1: what is noted in whatever state, also where nothing else is done.
func TestNotedAnywhere(t *testing.T) {
	for s := fsm.Initial; s <= fsm.Opened; s++ {
		n, _ := at(t, rules(), s).Take(pack(1, 3, 5, 6, 0, 0, 0, 8))
		if l := n.Acked(); len(l) != 1 || l[0].Type != 5 || !bytes.Equal(l[0].Data, []byte{0, 0, 0, 8}) {
			t.Errorf("acked in %d: %v", s, l)
		}
		n = at(t, rules(), s)
		before := n.Acked()
		for range 5 {
			n, _ = n.Take(pack(1, 3, 5, 6, 0, 0, 0, 0))
		}
		if !reflect.DeepEqual(n.Acked(), before) {
			t.Errorf("naked in %d: %v", s, n.Acked())
		}
		// The sixth time it is rejected, if it is answered at all; what was noted where it is not is seen later.
		for n.State() != fsm.ReqSent && n.State() != fsm.AckRcvd {
			n = forward(t, n)
		}
		if _, out := n.Take(pack(1, 3, 5, 6, 0, 0, 0, 0)); out.Packets[0].Code != 4 {
			t.Errorf("naked five times in %d, and once: %v", s, out)
		}
		if s < fsm.ReqSent && s != fsm.Initial && s != fsm.Starting && s != fsm.Closed {
			n, _ = at(t, rules(), s).Take(pack(3, last(s), 5, 6, 1, 1, 1, 1))
			if n.Rules().Want.Magic != nego.Fresh(7) {
				t.Errorf("naked itself in %d: %v", s, n.Rules())
			}
			n, _ = at(t, rules(), s).Take(pack(4, last(s), 1, 4, 5, 120))
			if n.Rules().Want.MRU != 0 {
				t.Errorf("rejected itself in %d: %v", s, n.Rules())
			}
		}
	}
	n, _ := nego.New(rules()).Take(pack(3, 0, 5, 6, 1, 1, 1, 1))
	if n.Rules().Want.Magic != nego.Fresh(7) {
		t.Error("naked itself ahead of all", n.Rules())
	}
}

// forward leads a negotiation towards asking again, without an acknowledgement.
func forward(t *testing.T, n nego.Nego) nego.Nego {
	switch n.State() {
	case fsm.Initial, fsm.Closed, fsm.Closing:
		n, _ = n.Do(fsm.Open)
	case fsm.Starting:
		n, _ = n.Do(fsm.Up)
	case fsm.Stopped, fsm.Stopping, fsm.Opened, fsm.AckSent:
		n, _ = n.Do(fsm.Down)
	default:
		t.Fatal(n.State())
	}
	return n
}

// P27.1: identifiers go on modulo 256, of what is asked for, of rejects, and of what asks for an end.
func TestIdentifiers(t *testing.T) {
	n := nego.New(rules())
	n, _ = n.Do(fsm.Open)
	id := byte(0)
	var out nego.Out
	for range 300 {
		n, out = n.Do(fsm.Up)
		id++
		if !same(out, "", pack(1, id, asked()...)) {
			t.Fatal(id, out)
		}
		for _, came := range []api.Control{pack(99, 1), pack(98, id), pack(99, 1)} {
			n, out = n.Take(came)
			id++
			if !same(out, "", pack(7, id, came.Code, came.ID, 0, 4)) {
				t.Fatal(id, out)
			}
		}
		for range 3 {
			n, out = n.Tick()
		}
		id++
		if !same(out, "", pack(1, id, asked()...)) {
			t.Fatal(id, out)
		}
		n, out = n.Do(fsm.Close)
		id++
		if !same(out, "", pack(5, id)) {
			t.Fatal(id, out)
		}
		n, _ = n.Take(pack(99, 1))
		id++
		n, _ = n.Do(fsm.Down)
		n, _ = n.Do(fsm.Open)
	}
	n = at(t, rules(), fsm.Opened)
	if _, out := n.Take(pack(99, 1, make([]byte, 3000)...)); len(out.Packets[0].Data) != 1396 {
		t.Error(len(out.Packets[0].Data))
	}
}

// P27.1: each reject is of an identifier one more, wherever it is sent, and what is sent behind it goes on.
func TestRejectsGoOn(t *testing.T) {
	for s := fsm.Closed; s <= fsm.Opened; s++ {
		n, id := at(t, rules(), s), last(s)
		for range 260 {
			var out nego.Out
			n, out = n.Take(pack(0, 0))
			id++
			if n.State() != s || !same(out, "", pack(7, id, 0, 0, 0, 4)) {
				t.Fatal(s, id, n.State(), out)
			}
		}
	}
	for _, r := range []nego.Rules{{}, rules(), client(), server()} {
		n, _ := nego.New(r).Do(fsm.Up)
		for id := byte(1); id < 3; id++ {
			var out nego.Out
			if n, out = n.Take(pack(0, 0)); !same(out, "", pack(7, id, 0, 0, 0, 4)) {
				t.Fatal(id, out)
			}
		}
		if _, out := n.Do(fsm.Open); !same(out, "", pack(1, 3, sentBy(r)...)) {
			t.Error(out)
		}
	}
}

// P27.1: where a reject may not be, nothing is sent, and no identifier is gone.
func TestNoReject(t *testing.T) {
	n := nego.New(rules())
	n, _ = n.Take(pack(99, 1))
	n, _ = n.Do(fsm.Open)
	n, out := n.Take(pack(99, 1))
	if !same(out, "") {
		t.Error(out)
	}
	if _, out := n.Do(fsm.Up); !same(out, "", pack(1, 1, asked()...)) {
		t.Error(out)
	}
}

// P27.1: the last identifier, by which a ConfAck, a ConfNak and a ConfRej count, is a reject's, too.
func TestAnsweredBehindAReject(t *testing.T) {
	n, _ := at(t, rules(), fsm.ReqSent).Take(pack(99, 1))
	for _, c := range []struct {
		code byte
		data []byte
		s    fsm.State
		sent []api.Control
	}{
		{2, asked(), fsm.AckRcvd, nil},
		{3, []byte{1, 4, 4, 0}, fsm.ReqSent, []api.Control{pack(1, 3, 1, 4, 4, 0, 5, 6, 0, 0, 0, 7)}},
		{4, []byte{1, 4, 5, 120}, fsm.ReqSent, []api.Control{pack(1, 3, 5, 6, 0, 0, 0, 7)}},
	} {
		for _, id := range []byte{0, 1, 3} {
			if after, out := n.Take(pack(c.code, id, c.data...)); !reflect.DeepEqual(after, n) || !same(out, "") {
				t.Errorf("%d of %d: %v", c.code, id, out)
			}
		}
		if after, out := n.Take(pack(c.code, 2, c.data...)); after.State() != c.s || !same(out, "", c.sent...) {
			t.Errorf("%d: %d, %v", c.code, after.State(), out)
		}
	}
	// What was not answered is sent again, and then it can be.
	for range 3 {
		n, _ = n.Tick()
	}
	if n, _ = n.Take(pack(2, 3, asked()...)); n.State() != fsm.AckRcvd {
		t.Error(n.State())
	}
}

// P27.2: no call turns the one that it is called of, and answers share nothing with it.
func TestNothingIsTurned(t *testing.T) {
	for s := fsm.Initial; s <= fsm.Opened; s++ {
		n, again := at(t, rules(), s), at(t, rules(), s)
		data := []byte{5, 6, 0, 0, 0, 8}
		after, out := n.Take(pack(1, 3, data...))
		n.Take(pack(3, last(s), 1, 4, 4, 0))
		n.Take(pack(99, 1))
		n.Do(fsm.Close)
		n.Do(fsm.Down)
		n.Tick()
		data[5] = 77
		for _, c := range out.Packets {
			clear(c.Data)
		}
		for _, o := range after.Acked() {
			clear(o.Data)
		}
		if !reflect.DeepEqual(n, again) {
			t.Errorf("%d is turned", s)
		}
		if l := after.Acked(); !bytes.Equal(l[0].Data, []byte{0, 0, 0, 8}) {
			t.Errorf("%d: %v", s, l)
		}
		_, out = n.Take(pack(1, 3, 5, 6, 0, 0, 0, 8))
		for _, c := range out.Packets {
			clear(c.Data)
		}
		if !reflect.DeepEqual(n, again) {
			t.Errorf("%d shares what it sends", s)
		}
	}
}

// P27.3: whatever comes, what is sent may be laid.
func TestWhatIsSentMayBeLaid(t *testing.T) {
	r := rand.New(rand.NewSource(27))
	for range 200 {
		n, _ := first([]nego.Rules{rules(), client(), server()}[r.Intn(3)])
		for range 60 {
			var out nego.Out
			data := make([]byte, r.Intn(30))
			for i := range data {
				data[i] = byte(r.Intn(9))
			}
			switch r.Intn(8) {
			case 0:
				n, out = n.Tick()
			case 1:
				n, out = n.Do(fsm.Event(r.Intn(4)))
			case 2:
				n, out = n.Take(pack(1, 1, slices.Repeat(append([]byte{99, 255}, make([]byte, 253)...), r.Intn(33))...))
			default:
				n, out = n.Take(pack(byte(r.Intn(14)), byte(r.Intn(5)), data...))
			}
			for _, c := range out.Packets {
				if _, e := ctl.Lay(c); e != api.OK {
					t.Fatal(c.Code, len(c.Data), e)
				}
			}
		}
	}
}

// P27.4: two ends come to Opened both, with what they want.
func TestTwoEnds(t *testing.T) {
	for _, c := range [][2]nego.Rules{
		{rules(), {Want: lcpo.Want{MRU: 1500, Magic: 9, Prove: true}}},
		{rules(), {Want: lcpo.Want{MRU: 128, Magic: 7, Prove: true}, Proves: true}},
		{{Proves: true}, {Want: lcpo.Want{Prove: true}}},
		{client(), server()}, {{IP: true}, server()},
		{{IP: true, Side: ipcpo.Side{Own: 5, DNS: 6, Asks: true}}, {IP: true, Side: ipcpo.Side{Server: true, Own: 1, Give: 2}}},
	} {
		a, out := first(c[0])
		b, other := first(c[1])
		up, down := out.Packets, other.Packets
		rounds := 0
		for ; rounds < 20 && len(up)+len(down) > 0; rounds++ {
			now, then := up, down
			up, down = nil, nil
			for _, p := range now {
				b, out = b.Take(p)
				down = append(down, out.Packets...)
			}
			for _, p := range then {
				a, out = a.Take(p)
				up = append(up, out.Packets...)
			}
		}
		if a.State() != fsm.Opened || b.State() != fsm.Opened || rounds > 16 {
			t.Errorf("%v: %d, %d behind %d rounds", c, a.State(), b.State(), rounds)
		}
		if c[1].IP && a.Rules().Side.Own != c[1].Side.Give {
			t.Errorf("%v: %v", c, a.Rules())
		}
		if !c[1].IP && lcpo.Of(a.Acked()).Prove != c[1].Want.Prove {
			t.Errorf("%v: %v", c, a.Acked())
		}
	}
}
