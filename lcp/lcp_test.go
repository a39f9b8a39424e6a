package lcp_test

import (
	"bytes"
	"reflect"
	"slices"
	"testing"

	"euphroe/api"
	"euphroe/ctl"
	"euphroe/fsm"
	"euphroe/lcp"
	"euphroe/lcpo"
	"euphroe/nego"
)

// pack is a packet.
func pack(code, id byte, data ...byte) api.Control {
	return api.Control{Code: code, ID: id, Data: data}
}

// same tells whether these are the packets.
func same(got []api.Control, want ...api.Control) bool {
	return slices.EqualFunc(got, want, func(a, b api.Control) bool { return a.Code == b.Code && a.ID == b.ID && bytes.Equal(a.Data, b.Data) })
}

// started is an end that asked.
func started(server bool, mru uint16, magic uint32) lcp.End {
	x, _ := lcp.New(server, mru, magic).Do(fsm.Open)
	x, _ = x.Do(fsm.Up)
	return x
}

// opened is an end of the number 7 that is Opened, by these options of the other end.
func opened(t *testing.T, server bool, theirs ...byte) lcp.End {
	x := lcp.New(server, 1400, 7)
	x, _ = x.Do(fsm.Open)
	x, out := x.Do(fsm.Up)
	ack := out.Packets[0]
	ack.Code = ctl.ConfAck
	x, _, _ = x.Take(ack)
	x, out, _ = x.Take(pack(1, 9, theirs...))
	if x.State() != fsm.Opened || !x.Open() || !out.Up {
		t.Fatal(x.State())
	}
	return x
}

// P28.1: what a server wants, and what a client does.
func TestNew(t *testing.T) {
	x := lcp.New(true, 1400, 7)
	if x.Mine() != (lcpo.Want{MRU: 1400, Magic: 7, Prove: true}) || x.State() != fsm.Initial || x.Open() || x.Loops() != 0 || x.Theirs() != (lcpo.Got{MRU: 1500}) {
		t.Error(x.Mine(), x.State(), x.Loops(), x.Theirs())
	}
	x, out := x.Do(fsm.Open)
	if !out.Started || x.State() != fsm.Starting {
		t.Error(out)
	}
	x, out = x.Do(fsm.Up)
	if !same(out.Packets, pack(1, 1, 1, 4, 5, 120, 3, 5, 0xC2, 0x23, 0x81, 5, 6, 0, 0, 0, 7)) || x.State() != fsm.ReqSent {
		t.Error(out)
	}
	if _, out, _ := x.Take(pack(1, 4, 3, 5, 0xC2, 0x23, 0x81)); !same(out.Packets, pack(4, 4, 3, 5, 0xC2, 0x23, 0x81)) {
		t.Error("a server proves itself to nobody", out)
	}
	y := lcp.New(false, 1400, 7)
	if y.Mine() != (lcpo.Want{MRU: 1400, Magic: 7}) {
		t.Error(y.Mine())
	}
	y = started(false, 1400, 7)
	if _, out, _ := y.Take(pack(1, 4, 3, 5, 0xC2, 0x23, 0x81)); !same(out.Packets, pack(2, 4, 3, 5, 0xC2, 0x23, 0x81)) {
		t.Error("a client proves itself", out)
	}
}

// P28.2: the zero one is a negotiation of no rules.
func TestZero(t *testing.T) {
	var x lcp.End
	if x.Mine() != (lcpo.Want{}) || x.State() != fsm.Initial || x.Open() || x.Loops() != 0 || x.Theirs() != (lcpo.Got{MRU: 1500}) {
		t.Error(x.Mine(), x.Theirs())
	}
	x, _ = x.Do(fsm.Open)
	x, out := x.Do(fsm.Up)
	if !same(out.Packets, pack(1, 1)) {
		t.Error(out)
	}
	if _, out, _ := x.Take(pack(1, 4, 3, 5, 0xC2, 0x23, 0x81)); !same(out.Packets, pack(4, 4, 3, 5, 0xC2, 0x23, 0x81)) {
		t.Error(out)
	}
}

// P28.1: events and ticks are the negotiation's.
func TestDoAndTick(t *testing.T) {
	x, n := lcp.New(true, 1400, 7), nego.New(nego.Rules{Want: lcpo.Want{MRU: 1400, Magic: 7, Prove: true}})
	steps := []fsm.Event{fsm.Open, fsm.Up, -1, fsm.Echo, -1, -1, fsm.Close, -1, -1, -1, fsm.Down, fsm.Up}
	for i, e := range steps {
		var out, want nego.Out
		if e < 0 {
			x, out = x.Tick()
			n, want = n.Tick()
		} else {
			x, out = x.Do(e)
			n, want = n.Do(e)
		}
		if !reflect.DeepEqual(out, want) || x.State() != n.State() {
			t.Errorf("%d: %v, %v", i, out, want)
		}
	}
}

// P28.1: which EchoReqs are answered.
func TestEcho(t *testing.T) {
	x := opened(t, false, 5, 6, 0, 0, 0, 8)
	for _, c := range []struct {
		c    api.Control
		want []api.Control
	}{
		{pack(9, 5, 0, 0, 0, 8), []api.Control{pack(10, 5, 0, 0, 0, 7)}}, {pack(9, 6, 0, 0, 0, 0, 1, 2), []api.Control{pack(10, 6, 0, 0, 0, 7, 1, 2)}}, {pack(9, 255, 9, 9, 9, 9, 3), []api.Control{pack(10, 255, 0, 0, 0, 7, 3)}},
		{pack(9, 5, 0, 0, 0, 7), nil}, {pack(9, 5, 0, 0, 0, 7, 1), nil}, {pack(9, 5, 0, 0, 0), nil}, {pack(9, 5), nil}, {pack(10, 5, 0, 0, 0, 8), nil}, {pack(11, 5, 0, 0, 0, 8), nil},
	} {
		y, out, loop := x.Take(c.c)
		if !same(out.Packets, c.want...) || loop || y.State() != fsm.Opened {
			t.Errorf("%v: %v, %v", c.c, out, loop)
		}
	}
	y := started(false, 1400, 7)
	if _, out, _ := y.Take(pack(9, 5, 0, 0, 0, 8)); len(out.Packets) != 0 {
		t.Error("as it is not opened", out)
	}
	z := started(false, 1400, 0)
	z, _, _ = z.Take(pack(2, 1, 1, 4, 5, 120))
	z, _, _ = z.Take(pack(1, 1))
	if _, out, _ := z.Take(pack(9, 5, 0, 0, 0, 0)); !same(out.Packets, pack(10, 5, 0, 0, 0, 0)) {
		t.Error("of no number", out)
	}
}

// own and other are requests with the own number, and without it; broken can't be parsed.
func own() api.Control    { return pack(1, 1, 1, 4, 5, 120, 5, 6, 0, 0, 0, 7) }
func broken() api.Control { return pack(1, 1, 5, 6, 0, 0, 0, 7, 1) }

// P28.1: how loops are counted.
func TestLoops(t *testing.T) {
	for _, c := range []struct {
		l    []api.Control
		want int
	}{
		{nil, 0}, {[]api.Control{own()}, 1}, {[]api.Control{own(), own(), own()}, 3}, {[]api.Control{own(), own(), pack(1, 1)}, 0}, {[]api.Control{own(), own(), pack(1, 1, 5, 6, 0, 0, 0, 8)}, 0}, {[]api.Control{own(), pack(1, 1, 7, 2), own()}, 1},
		{[]api.Control{own(), broken(), own()}, 2}, {[]api.Control{broken(), broken()}, 0}, {[]api.Control{own(), pack(9, 1, 0, 0, 0, 7), pack(99, 1), pack(5, 1), pack(3, 1, 1, 4, 4, 0)}, 1},
		{[]api.Control{own(), pack(2, 1, 5, 6, 0, 0, 0, 8), own()}, 2}, {[]api.Control{own(), pack(4, 9, 1, 4, 5, 120)}, 1}, {[]api.Control{own(), pack(1, 1, 5, 6, 0, 0, 0, 0)}, 0},
		{[]api.Control{own(), pack(1, 2, 5, 5, 0, 0, 7), own()}, 1}, {[]api.Control{pack(1, 1, 9, 6, 0, 0, 0, 7, 5, 6, 0, 0, 0, 7)}, 1},
	} {
		x := started(false, 1400, 7)
		for _, p := range c.l {
			var loop bool
			if x, _, loop = x.Take(p); loop {
				t.Errorf("%v: a loop", c.l)
			}
		}
		if x.Loops() != c.want {
			t.Errorf("%v: %d", c.l, x.Loops())
		}
	}
	var x lcp.End
	for range 9 {
		var loop bool
		if x, _, loop = x.Take(pack(1, 1, 5, 6, 0, 0, 0, 0)); loop || x.Loops() != 0 {
			t.Error("of no number")
		}
	}
	for s := range 3 {
		x := lcp.New(true, 0, 7)
		if s > 0 {
			x, _ = x.Do(fsm.Open)
		}
		if x, _, _ = x.Take(own()); x.Loops() != 1 {
			t.Error("in whatever state", s)
		}
	}
}

// P28.1: the number that it has then, not the one that it had.
func TestLoopsOfTheNumberThen(t *testing.T) {
	x := started(false, 0, 7)
	x, _, _ = x.Take(own())
	x, _, _ = x.Take(pack(3, 1, 5, 6, 1, 1, 1, 1))
	f := nego.Fresh(7)
	if x.Mine().Magic != f {
		t.Fatal(x.Mine())
	}
	if y, _, _ := x.Take(own()); y.Loops() != 0 {
		t.Error(y.Loops())
	}
	if y, _, _ := x.Take(pack(1, 1, 5, 6, byte(f>>24), byte(f>>16), byte(f>>8), byte(f))); y.Loops() != 2 {
		t.Error(y.Loops())
	}
}

// P28.1: the fourth one closes, behind what is done by it.
func TestLoopCloses(t *testing.T) {
	x := started(false, 1400, 7)
	var out nego.Out
	var loop bool
	for i := range 4 {
		x, out, loop = x.Take(own())
		if loop != (i == 3) {
			t.Fatal(i, loop)
		}
	}
	if x.State() != fsm.Closing || x.Loops() != 0 || len(out.Packets) != 2 || out.Packets[0].Code != ctl.ConfNak || out.Packets[0].ID != 1 || !same(out.Packets[1:], pack(5, 2)) || out.Down || out.Finished {
		t.Error(x.State(), x.Loops(), out)
	}
	y := opened(t, true)
	for range 3 {
		y, _, _ = y.Take(own())
		y, _ = y.Do(fsm.Down)
	}
	y, out, loop = y.Take(own())
	if !loop || !out.Finished || y.State() != fsm.Initial || len(out.Packets) != 0 {
		t.Error(y.State(), out, loop)
	}
}

// P28.1: what goes down by the first of a loop is told, and not once more.
func TestLoopTellsAll(t *testing.T) {
	y := opened(t, false)
	for i := range 4 {
		var out nego.Out
		var loop bool
		y, out, loop = y.Take(own())
		if (i == 0) != out.Down || loop != (i == 3) {
			t.Error(i, out)
		}
	}
}

// P28.2: asking, and rejecting, by identifiers of their own.
func TestAskAndReject(t *testing.T) {
	x := opened(t, false, 1, 4, 0, 128)
	if x.Theirs() != (lcpo.Got{MRU: 128}) {
		t.Error(x.Theirs())
	}
	x, c, is := x.Ask([]byte{1, 2})
	if !is || !same([]api.Control{c}, pack(9, 1, 0, 0, 0, 7, 1, 2)) {
		t.Error(c, is)
	}
	x, c, is = x.Reject(api.Frame{Proto: 0x1235, Data: make([]byte, 200)})
	if !is || !same([]api.Control{c}, pack(8, 2, append([]byte{0x12, 0x35}, make([]byte, 122)...)...)) {
		t.Error(c, is)
	}
	x, c, is = x.Reject(api.Frame{Proto: 0x0101, Data: []byte{5}})
	if !is || !same([]api.Control{c}, pack(8, 3, 1, 1, 5)) {
		t.Error(c, is)
	}
	for i := range 300 {
		x, c, _ = x.Ask(nil)
		if c.ID != byte(4+i) {
			t.Fatal(i, c)
		}
	}
	// The negotiation's identifiers are others.
	if _, out := x.Do(fsm.Close); !same(out.Packets, pack(5, 2)) {
		t.Error(out)
	}
}

// P28.1: the negotiation's rejects go on with its identifiers, beside the end's own.
func TestCodesAreRejected(t *testing.T) {
	x := opened(t, true)
	for id := byte(2); id < 5; id++ {
		var out nego.Out
		x, out, _ = x.Take(pack(99, 1))
		if !same(out.Packets, pack(7, id, 99, 1, 0, 4)) {
			t.Error(id, out)
		}
	}
	x, c, _ := x.Ask(nil)
	if !same([]api.Control{c}, pack(9, 1, 0, 0, 0, 7)) {
		t.Error(c)
	}
	if _, out := x.Do(fsm.Close); !same(out.Packets, pack(5, 5)) {
		t.Error(out)
	}
}

// P28.2: of one that is not opened nothing.
func TestAskAndRejectNothing(t *testing.T) {
	l := []lcp.End{{}, lcp.New(true, 1400, 7), started(true, 1400, 7), started(false, 0, 0)}
	closing, _ := opened(t, true).Do(fsm.Close)
	for _, x := range append(l, closing) {
		y, c, is := x.Ask([]byte{1})
		if is || !same([]api.Control{c}, api.Control{}) || !reflect.DeepEqual(x, y) {
			t.Error("Ask", c, is)
		}
		y, c, is = x.Reject(api.Frame{Proto: 0x1235})
		if is || !same([]api.Control{c}, api.Control{}) || !reflect.DeepEqual(x, y) {
			t.Error("Reject", c, is)
		}
	}
}

// P28.2: what the other end asks for, as it was acked last.
func TestTheirs(t *testing.T) {
	x := opened(t, false, 1, 4, 4, 0, 3, 5, 0xC2, 0x23, 0x81, 5, 6, 0, 0, 0, 9, 7, 2, 8, 2)
	if x.Theirs() != (lcpo.Got{MRU: 1024, Magic: 9, Prove: true, Short: true, Bare: true}) {
		t.Error(x.Theirs())
	}
	x, _, _ = x.Take(pack(1, 3, 1, 4, 0, 1))
	if x.Theirs().MRU != 1024 {
		t.Error("what was naked counts", x.Theirs())
	}
	x, _, _ = x.Take(pack(1, 4, 8, 2))
	if x.Theirs() != (lcpo.Got{MRU: 1500, Bare: true}) {
		t.Error(x.Theirs())
	}
}

// P28.2: no call turns the one that it is called of.
func TestNothingIsTurned(t *testing.T) {
	x, again := opened(t, true), opened(t, true)
	x.Take(own())
	x.Take(pack(9, 1, 0, 0, 0, 0))
	x.Ask(nil)
	x.Reject(api.Frame{Proto: 1})
	x.Do(fsm.Close)
	x.Do(fsm.Down)
	x.Tick()
	if !reflect.DeepEqual(x, again) {
		t.Error("turned")
	}
}

// P28.3: an end that hears itself alone is never opened.
func TestHearsItself(t *testing.T) {
	for _, server := range []bool{false, true} {
		for _, magic := range []uint32{1, 7, 0xFFFFFFFF} {
			x := lcp.New(server, 1400, magic)
			x, _ = x.Do(fsm.Open)
			x, out := x.Do(fsm.Up)
			waits := out.Packets
			looped := false
			for range 300 {
				if x.State() == fsm.Opened {
					t.Fatal("opened", server, magic)
				}
				if len(waits) == 0 {
					x, out = x.Tick()
					waits = append(waits, out.Packets...)
					continue
				}
				var loop bool
				x, out, loop = x.Take(waits[0])
				looped = looped || loop
				waits = append(waits[1:], out.Packets...)
			}
			// A server rejects its own wish that the other end proves itself, and can't go on without it: it ends ahead of the fourth time.
			if looped == server || !server && x.State() != fsm.Closed || server && x.State() != fsm.Stopped {
				t.Errorf("%v, %d: ends in %d, %v", server, magic, x.State(), looped)
			}
		}
	}
}
