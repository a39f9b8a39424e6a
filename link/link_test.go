package link_test

import (
	"bytes"
	"math/rand"
	"reflect"
	"slices"
	"testing"

	"euphroe/api"
	"euphroe/chap2"
	"euphroe/chaps"
	"euphroe/ctl"
	"euphroe/ipcp"
	"euphroe/ipcpo"
	"euphroe/link"
	"euphroe/nthash"
	"euphroe/pppf"
)

const (
	ours   = 0x0A000001 // the server's address
	theirs = 0x0A000009 // the one that it gives
)

func server() link.Config {
	return link.Config{Server: true, Name: "srv", Users: []chaps.User{{Name: "ann", Password: "secret"}}, MRU: 1400, Magic: 5, Random: [16]byte{1, 2, 3}, Side: ipcpo.Side{Server: true, Own: ours, Give: theirs, DNS: 0x0A000035}}
}

func client() link.Config {
	return link.Config{Name: "ann", Password: "secret", MRU: 1300, Magic: 6, Random: [16]byte{9, 8, 7}, Side: ipcpo.Side{Asks: true}}
}

// frame are a frame's bytes.
func frame(proto uint16, data ...byte) []byte {
	return append([]byte{0xFF, 3, byte(proto >> 8), byte(proto)}, data...)
}

// pack is a frame of a control packet.
func pack(proto uint16, code, id byte, data ...byte) []byte {
	b, _ := ctl.Lay(api.Control{Code: code, ID: id, Data: data})
	return frame(proto, b...)
}

// same tells whether these are the frames.
func same(got [][]byte, want ...[]byte) bool { return slices.EqualFunc(got, want, bytes.Equal) }

// is tells whether what is done is this: the flags p, u and o, and these frames.
func is(o link.Out, flags string, want ...[]byte) bool {
	told := ""
	for _, f := range []struct {
		is   bool
		name string
	}{{o.Proved, "p"}, {o.Up, "u"}, {o.Over, "o"}} {
		if f.is {
			told += f.name
		}
	}
	return told == flags && len(o.Data) == 0 && same(o.Frames, want...)
}

// add is both, one behind the other.
func add(a, b link.Out) link.Out {
	return link.Out{Frames: append(a.Frames, b.Frames...), Data: append(a.Data, b.Data...), Proved: a.Proved || b.Proved, Up: a.Up || b.Up, Over: a.Over || b.Over}
}

// talk lets two ends hear each other, till nothing is under way: what both did.
func talk(a, b link.Link, up, down [][]byte) (link.Link, link.Link, link.Out, link.Out) {
	var first, second link.Out
	for len(up)+len(down) > 0 {
		var x link.Out
		if len(up) > 0 {
			b, x = b.Take(up[0])
			up, down, second = up[1:], append(down, x.Frames...), add(second, x)
			continue
		}
		a, x = a.Take(down[0])
		down, up, first = down[1:], append(up, x.Frames...), add(first, x)
	}
	return a, b, first, second
}

// both are a client and a server that are open.
func both(t *testing.T) (link.Link, link.Link) {
	a, up := link.New(client()).Start()
	b, down := link.New(server()).Start()
	a, b, _, _ = talk(a, b, up.Frames, down.Frames)
	if a.Phase() != 4 || b.Phase() != 4 {
		t.Fatal(a.Phase(), b.Phase())
	}
	return a, b
}

// at is a server, or a client, in a phase.
func at(t *testing.T, serves bool, phase int) link.Link {
	c, other := client(), server()
	if serves {
		c, other = other, c
	}
	x := link.New(c)
	if phase == 0 {
		return x
	}
	x, out := x.Start()
	y, more := link.New(other).Start()
	up, down := out.Frames, more.Frames
	for x.Phase() != min(phase, 4) {
		if len(up) > 0 {
			y, more = y.Take(up[0])
			up, down = up[1:], append(down, more.Frames...)
			continue
		}
		if len(down) == 0 {
			t.Fatal("quiet ahead of the phase", phase)
		}
		x, out = x.Take(down[0])
		down, up = down[1:], append(up, out.Frames...)
	}
	if phase == 5 {
		x, _ = x.Close()
		x, _ = x.Take(pack(pppf.LCP, 6, 2))
	}
	if x.Phase() != phase {
		t.Fatal(phase, x.Phase())
	}
	return x
}

// datagram is one.
func datagram(src, dst api.Addr, size int) []byte {
	b, _ := ipcp.Lay(ipcp.Datagram{TTL: 9, Proto: 17, Src: src, Dst: dst, Data: bytes.Repeat([]byte{7}, size)})
	return b
}

// quiet tells whether an end has nothing to tell.
func quiet(x link.Link) bool {
	return x.Key() == [32]byte{} && x.Name() == "" && x.Addr() == 0
}

// P33.1, P33.2: of a dead one, which does nothing but start.
func TestDead(t *testing.T) {
	for _, c := range []link.Config{server(), client(), {}} {
		x := link.New(c)
		if x.Phase() != 0 || !quiet(x) || x.MRU() != 1500 {
			t.Error(x.Phase(), x.MRU())
		}
		y, out := x.Tick()
		z, more := x.Take(pack(pppf.LCP, 1, 1))
		v, third := x.Close()
		w, fourth, sent := x.Send(datagram(theirs, ours, 5))
		for _, l := range []link.Link{y, z, v, w} {
			if !reflect.DeepEqual(l, x) {
				t.Error("turned")
			}
		}
		if !is(out, "") || !is(more, "") || !is(third, "") || !is(fourth, "") || sent {
			t.Error(out, more, third, fourth, sent)
		}
	}
}

// P33.1: it starts once, by a request of LCP.
func TestStart(t *testing.T) {
	x, out := link.New(server()).Start()
	if !is(out, "", pack(pppf.LCP, 1, 1, 1, 4, 5, 120, 3, 5, 0xC2, 0x23, 0x81, 5, 6, 0, 0, 0, 5)) || x.Phase() != 1 || !quiet(x) {
		t.Error(out, x.Phase())
	}
	y, out := link.New(client()).Start()
	if !is(out, "", pack(pppf.LCP, 1, 1, 1, 4, 5, 20, 5, 6, 0, 0, 0, 6)) || y.Phase() != 1 {
		t.Error(out, y.Phase())
	}
	for phase := 1; phase <= 5; phase++ {
		x := at(t, phase%2 == 0, phase)
		if y, out := x.Start(); !is(out, "") || !reflect.DeepEqual(x, y) {
			t.Error(phase, out)
		}
	}
}

// P33.1: step by step, what a server does.
func TestServerStepByStep(t *testing.T) {
	x, _ := link.New(server()).Start()
	x, out := x.Take(pack(pppf.LCP, 1, 7, 1, 4, 5, 20))
	if !is(out, "", pack(pppf.LCP, 2, 7, 1, 4, 5, 20)) || x.Phase() != 1 || x.MRU() != 1300 {
		t.Error(out, x.Phase(), x.MRU())
	}
	challenge := pack(pppf.CHAP, 1, 1, slices.Concat([]byte{16, 1, 2, 3}, make([]byte, 13), []byte("srv"))...)
	x, out = x.Take(pack(pppf.LCP, 2, 1, 1, 4, 5, 120, 3, 5, 0xC2, 0x23, 0x81, 5, 6, 0, 0, 0, 5))
	if !is(out, "", challenge) || x.Phase() != 2 || !quiet(x) {
		t.Error(out, x.Phase())
	}
	r, _ := chap2.Prove([16]byte{5}, [16]byte{1, 2, 3}, `D\ann`, "secret")
	response := pack(pppf.CHAP, 2, 1, chaps.Lay(2, 1, chap2.Value([16]byte{5}, r), `D\ann`).Data...)
	x, out = x.Take(response)
	if !out.Proved || out.Up || out.Over || len(out.Frames) != 2 || !bytes.HasPrefix(out.Frames[0], []byte{0xFF, 3, 0xC2, 0x23, 3, 1}) || !bytes.Equal(out.Frames[1], pack(pppf.IPCP, 1, 1, 3, 6, 10, 0, 0, 1)) || x.Phase() != 3 || x.Name() != `D\ann` || x.Key() == [32]byte{} || x.Addr() != 0 {
		t.Error(out, x.Phase(), x.Name())
	}
	success := out.Frames[0]
	if x, out = x.Take(response); !is(out, "", success) || x.Phase() != 3 {
		t.Error("once more", out)
	}
	x, out = x.Take(pack(pppf.IPCP, 2, 1, 3, 6, 10, 0, 0, 1))
	if !is(out, "") || x.Phase() != 3 {
		t.Error(out)
	}
	x, out = x.Take(pack(pppf.IPCP, 1, 3, 3, 6, 10, 0, 0, 9))
	if !is(out, "u", pack(pppf.IPCP, 2, 3, 3, 6, 10, 0, 0, 9)) || x.Phase() != 4 || x.Addr() != theirs {
		t.Error(out, x.Phase(), x.Addr())
	}
	x, out = x.Take(pack(pppf.IPCP, 1, 4, 3, 6, 0, 0, 0, 0))
	if !is(out, "", pack(pppf.IPCP, 1, 2, 3, 6, 10, 0, 0, 1), pack(pppf.IPCP, 3, 4, 3, 6, 10, 0, 0, 9)) || x.Phase() != 3 || x.Addr() != 0 || x.Key() == [32]byte{} {
		t.Error("down again", out, x.Phase())
	}
}

// P33.1: step by step, what a client does: it asks nobody for a proof.
func TestClientStepByStep(t *testing.T) {
	x, _ := link.New(client()).Start()
	x, out := x.Take(pack(pppf.LCP, 1, 7, 3, 5, 0xC2, 0x23, 0x81))
	if !is(out, "", pack(pppf.LCP, 2, 7, 3, 5, 0xC2, 0x23, 0x81)) || x.Phase() != 1 {
		t.Error(out, x.Phase())
	}
	x, out = x.Take(pack(pppf.LCP, 2, 1, 1, 4, 5, 20, 5, 6, 0, 0, 0, 6))
	if !is(out, "") || x.Phase() != 2 {
		t.Error(out, x.Phase())
	}
	r, _ := chap2.Prove([16]byte{9, 8, 7}, [16]byte{4}, "ann", "secret")
	x, out = x.Take(pack(pppf.CHAP, 1, 3, chaps.Lay(1, 3, make([]byte, 16), "srv").Data...))
	if len(out.Frames) != 1 || x.Phase() != 2 || x.Name() != "" {
		t.Error(out, x.Phase())
	}
	x, out = x.Take(pack(pppf.CHAP, 1, 5, chaps.Lay(1, 5, append([]byte{4}, make([]byte, 15)...), "srv").Data...))
	if !is(out, "", pack(pppf.CHAP, 2, 5, chaps.Lay(2, 5, chap2.Value([16]byte{9, 8, 7}, r), "ann").Data...)) {
		t.Error(out)
	}
	hash, _ := nthash.Of("secret")
	answer := chap2.Answer(hash, r, chap2.Challenge([16]byte{9, 8, 7}, [16]byte{4}, "ann"))
	x, out = x.Take(pack(pppf.CHAP, 3, 5, []byte(answer)...))
	if !is(out, "p", pack(pppf.IPCP, 1, 1, 3, 6, 0, 0, 0, 0, 129, 6, 0, 0, 0, 0)) || x.Phase() != 3 || x.Name() != "ann" || x.Key() == [32]byte{} || x.Addr() != 0 {
		t.Error(out, x.Phase(), x.Name())
	}
	x, _ = x.Take(pack(pppf.IPCP, 3, 1, 3, 6, 10, 0, 0, 9))
	x, _ = x.Take(pack(pppf.IPCP, 4, 2, 129, 6, 0, 0, 0, 0))
	x, _ = x.Take(pack(pppf.IPCP, 2, 3, 3, 6, 10, 0, 0, 9))
	x, out = x.Take(pack(pppf.IPCP, 1, 1, 3, 6, 10, 0, 0, 1))
	if !is(out, "u", pack(pppf.IPCP, 2, 1, 3, 6, 10, 0, 0, 1)) || x.Phase() != 4 || x.Addr() != theirs {
		t.Error(out, x.Phase(), x.Addr())
	}
}

// P33.3: two ends come to be open, with one key and one address.
func TestTwoEnds(t *testing.T) {
	a, up := link.New(client()).Start()
	b, down := link.New(server()).Start()
	a, b, first, second := talk(a, b, up.Frames, down.Frames)
	if !first.Proved || !first.Up || first.Over || !second.Proved || !second.Up || second.Over || len(first.Data)+len(second.Data) != 0 {
		t.Error(first, second)
	}
	if a.Phase() != 4 || b.Phase() != 4 || a.Key() != b.Key() || a.Key() == [32]byte{} || a.Addr() != theirs || b.Addr() != theirs || a.Name() != "ann" || b.Name() != "ann" || a.MRU() != 1400 || b.MRU() != 1300 {
		t.Error(a.Phase(), b.Phase(), a.Addr(), b.Addr(), a.Name(), b.Name(), a.MRU(), b.MRU())
	}
}

// P33.1: another password is refused, and the link ends at both.
func TestRefused(t *testing.T) {
	c := client()
	c.Password = "other"
	a, up := link.New(c).Start()
	b, down := link.New(server()).Start()
	a, b, first, second := talk(a, b, up.Frames, down.Frames)
	if first.Proved || second.Proved || !first.Over || !second.Over || first.Up || second.Up || a.Phase() != 5 || b.Phase() != 5 || !quiet(a) || !quiet(b) {
		t.Error(first, second, a.Phase(), b.Phase())
	}
	x := at(t, true, 2)
	x, out := x.Take(pack(pppf.CHAP, 2, 1, chaps.Lay(2, 1, chap2.Value([16]byte{}, [24]byte{}), "ann").Data...))
	if len(out.Frames) != 2 || !bytes.HasPrefix(out.Frames[0], []byte{0xFF, 3, 0xC2, 0x23, 4, 1}) || !bytes.Equal(out.Frames[1], pack(pppf.LCP, 5, 2)) || out.Over || x.Phase() != 1 {
		t.Error(out, x.Phase())
	}
	if x, out = x.Take(pack(pppf.LCP, 6, 2)); !is(out, "o") || x.Phase() != 5 {
		t.Error(out, x.Phase())
	}
}

// P33.1: a client that hears a failure, or another answer, closes.
func TestClientRefused(t *testing.T) {
	fail, _ := chap2.Fail(chap2.Failure{Code: 691})
	challenge := pack(pppf.CHAP, 1, 8, append([]byte{16}, make([]byte, 16)...)...)
	for _, p := range [][]byte{pack(pppf.CHAP, 4, 8, fail...), pack(pppf.CHAP, 3, 8, []byte("S=0")...)} {
		x, out := at(t, false, 2).Take(challenge)
		if len(out.Frames) != 1 || out.Proved || x.Phase() != 2 {
			t.Fatal(out)
		}
		if x, out = x.Take(p); !is(out, "", pack(pppf.LCP, 5, 2)) || x.Phase() != 1 || !quiet(x) {
			t.Error(out, x.Phase())
		}
	}
}

// P33.1: ticks are layer 28's, layer 29's and layer 32's, each in its phase.
func TestTick(t *testing.T) {
	x := at(t, true, 1)
	for tick := 1; tick <= 33; tick++ {
		var out link.Out
		x, out = x.Tick()
		switch {
		case tick%3 == 0 && tick < 30:
			if !is(out, "", pack(pppf.LCP, 1, byte(1+tick/3), 1, 4, 5, 120, 3, 5, 0xC2, 0x23, 0x81, 5, 6, 0, 0, 0, 5)) {
				t.Error(tick, out)
			}
		case tick == 30:
			if !is(out, "o") || x.Phase() != 5 {
				t.Error(tick, out, x.Phase())
			}
		default:
			if !is(out, "") {
				t.Error(tick, out)
			}
		}
	}
	challenge := pack(pppf.CHAP, 1, 1, slices.Concat([]byte{16, 1, 2, 3}, make([]byte, 13), []byte("srv"))...)
	x = at(t, true, 2)
	for tick := 1; tick <= 15; tick++ {
		var out link.Out
		x, out = x.Tick()
		switch {
		case tick == 15:
			if !is(out, "", pack(pppf.LCP, 5, 2)) || x.Phase() != 1 {
				t.Error(tick, out, x.Phase())
			}
		case tick%3 == 0:
			if !is(out, "", challenge) {
				t.Error(tick, out)
			}
		default:
			if !is(out, "") {
				t.Error(tick, out)
			}
		}
	}
	for _, serves := range []bool{false, true} {
		x = at(t, serves, 3)
		for tick := 1; tick <= 30; tick++ {
			var out link.Out
			x, out = x.Tick()
			if tick%3 == 0 && tick < 30 && (len(out.Frames) != 1 || !bytes.HasPrefix(out.Frames[0], []byte{0xFF, 3, 0x80, 0x21, 1})) || tick%3 != 0 && len(out.Frames) != 0 || x.Phase() != 3 {
				t.Error(serves, tick, out, x.Phase())
			}
		}
		for _, phase := range []int{4, 5} {
			x = at(t, serves, phase)
			for range 40 {
				if y, out := x.Tick(); !is(out, "") || y.Phase() != phase {
					t.Error(serves, phase, out)
				}
			}
		}
	}
	x = at(t, false, 2)
	for range 40 {
		var out link.Out
		if x, out = x.Tick(); !is(out, "") || x.Phase() != 2 {
			t.Fatal("a client asks nobody", out)
		}
	}
}

// P33.1: frames that belong to other phases, and what is no packet, are nothing.
func TestOtherPhases(t *testing.T) {
	chap := pack(pppf.CHAP, 1, 1, append([]byte{16}, make([]byte, 16)...)...)
	value := pack(pppf.CHAP, 2, 1, chaps.Lay(2, 1, chap2.Value([16]byte{}, [24]byte{}), "ann").Data...)
	ip := pack(pppf.IPCP, 1, 1, 3, 6, 10, 0, 0, 9)
	lcp := pack(pppf.LCP, 9, 1, 0, 0, 0, 0)
	other := frame(0x0201, 1, 2)
	data := frame(pppf.IP, datagram(theirs, theirs, 4)...)
	hears := map[string][2]int{"chap": {2, 4}, "ip": {3, 4}, "lcp": {2, 4}, "other": {2, 4}, "data": {4, 4}}
	for _, serves := range []bool{false, true} {
		for phase := 0; phase <= 5; phase++ {
			x := at(t, serves, phase)
			for name, b := range map[string][]byte{"chap": chap, "value": value, "ip": ip, "lcp": lcp, "other": other, "data": data} {
				y, out := x.Take(b)
				if name == "value" && serves || name == "chap" && !serves {
					name = "chap"
				} else if name == "chap" || name == "value" {
					if !is(out, "") || !reflect.DeepEqual(x, y) {
						t.Errorf("%v, %d: %s: %v", serves, phase, name, out)
					}
					continue
				}
				must := phase >= hears[name][0] && phase <= hears[name][1]
				if name == "chap" && !serves && phase > 2 {
					must = false // it is accepted
				}
				if did := len(out.Frames)+len(out.Data) > 0; did != must || !must && !reflect.DeepEqual(x, y) {
					t.Errorf("%v, %d: %s: %v", serves, phase, name, out)
				}
			}
			for _, b := range [][]byte{nil, {0xFF, 3}, {0}, {0xC0, 0x22, 1}, frame(pppf.LCP), frame(pppf.LCP, 5, 1, 0, 3), frame(pppf.LCP, 5, 1, 0, 9), frame(pppf.CHAP, 2, 1, 0), frame(pppf.IPCP, 1), frame(pppf.IP), frame(pppf.IP, datagram(theirs, theirs, 9)[:28]...)} {
				if y, out := x.Take(b); !is(out, "") || !reflect.DeepEqual(x, y) {
					t.Errorf("%v, %d: %x: %v", serves, phase, b, out)
				}
			}
		}
	}
}

// P33.1: other protocols are rejected, as layer 28's end is open; the identifier is gone in any case.
func TestReject(t *testing.T) {
	for _, phase := range []int{2, 3, 4} {
		x, out := at(t, true, phase).Take(frame(0x0201, 1, 2))
		if !is(out, "", pack(pppf.LCP, 8, 1, 2, 1, 1, 2)) || x.Phase() != phase {
			t.Error(phase, out)
		}
		x, out = x.Take([]byte{0x03, 9})
		if !is(out, "", pack(pppf.LCP, 8, 2, 0, 3, 9)) {
			t.Error(phase, out)
		}
		x, out = x.Take(frame(0x0201, bytes.Repeat([]byte{5}, 2000)...))
		if !is(out, "", pack(pppf.LCP, 8, 3, append([]byte{2, 1}, bytes.Repeat([]byte{5}, 1294)...)...)) {
			t.Error(phase, len(out.Frames[0]))
		}
	}
	// An MRU that is greater than what can be laid.
	x, _ := link.New(server()).Start()
	x, _ = x.Take(pack(pppf.LCP, 1, 7, 1, 4, 255, 255))
	x, _ = x.Take(pack(pppf.LCP, 2, 1, 1, 4, 5, 120, 3, 5, 0xC2, 0x23, 0x81, 5, 6, 0, 0, 0, 5))
	for i, size := range []int{4000, 3999, 3995, 3994, 3} {
		var out link.Out
		x, out = x.Take(frame(0x0201, make([]byte, size)...))
		// A packet of more than 4000 bytes of data, and a frame of more, can't be laid.
		if laid := len(out.Frames) == 1; laid != (size+2+4 <= 4000) {
			t.Errorf("%d: %d", size, len(out.Frames))
		} else if laid && out.Frames[0][5] != byte(i+1) {
			t.Errorf("%d: identifier %d", size, out.Frames[0][5])
		}
	}
}

// P33.1: codes that are none are rejected by the negotiation that they came to, by its identifiers alone.
func TestRejectCodes(t *testing.T) {
	x := at(t, true, 4)
	last := map[uint16]byte{pppf.LCP: 1, pppf.IPCP: 1}
	for i := range 6 {
		proto := []uint16{pppf.LCP, pppf.IPCP, pppf.LCP}[i%3]
		var out link.Out
		x, out = x.Take(pack(proto, 99, 1))
		last[proto]++
		if !is(out, "", pack(proto, 7, last[proto], 99, 1, 0, 4)) {
			t.Error(i, out)
		}
	}
	if _, out := x.Take(frame(0x0201, 1)); !is(out, "", pack(pppf.LCP, 8, 1, 2, 1, 1)) {
		t.Error("another protocol", out)
	}
	if _, out := x.Close(); !is(out, "", pack(pppf.LCP, 5, 6)) {
		t.Error("behind the rejects", out)
	}
}

// P33.1, P33.4: which datagrams are delivered, as they come.
func TestDeliver(t *testing.T) {
	a, b := both(t)
	for _, c := range []struct {
		src, dst         api.Addr
		toServer, toUser bool
	}{{theirs, ours, true, false}, {theirs, 1, true, false}, {ours, theirs, false, true}, {7, theirs, false, true}, {theirs, theirs, true, true}, {ours, ours, false, false}, {0, 0, false, false}, {7, 8, false, false}} {
		d := datagram(c.src, c.dst, 30)
		for _, padding := range []int{0, 3} {
			raw := append(bytes.Clone(d), make([]byte, padding)...)
			for _, x := range []struct {
				l    link.Link
				want bool
			}{{b, c.toServer}, {a, c.toUser}} {
				y, out := x.l.Take(frame(pppf.IP, raw...))
				if x.want != same(out.Data, raw) || !x.want && len(out.Data) != 0 || len(out.Frames) != 0 || !reflect.DeepEqual(x.l, y) {
					t.Errorf("%v: %v", c, out)
				}
			}
		}
	}
	if _, out := b.Take(append([]byte{0x21}, datagram(theirs, ours, 1)...)); len(out.Data) != 1 {
		t.Error("a short and bare one", out)
	}
}

// P33.2: what may be sent, and what not.
func TestSend(t *testing.T) {
	a, b := both(t)
	for _, c := range []struct {
		x    link.Link
		b    []byte
		want bool
	}{
		{a, datagram(theirs, ours, 4), true}, {a, datagram(1, 2, 0), true}, {a, datagram(theirs, ours, 1380), true}, {a, datagram(theirs, ours, 1381), false}, {b, datagram(ours, theirs, 1280), true}, {b, datagram(ours, theirs, 1281), false},
		{a, append(datagram(theirs, ours, 4), make([]byte, 1376)...), true}, {a, append(datagram(theirs, ours, 4), make([]byte, 1377)...), false}, {a, nil, false}, {a, []byte("no datagram"), false}, {a, datagram(theirs, ours, 4)[:23], false},
	} {
		y, out, sent := c.x.Send(c.b)
		if sent != c.want || c.want && !is(out, "", frame(pppf.IP, c.b...)) || !c.want && !is(out, "") || !reflect.DeepEqual(c.x, y) {
			t.Errorf("%d bytes: %v, %v", len(c.b), out, sent)
		}
	}
	// Within the MRU, but with more padding than can be laid.
	c := client()
	c.MRU = 65535
	x, up := link.New(c).Start()
	y, down := link.New(server()).Start()
	_, y, _, _ = talk(x, y, up.Frames, down.Frames)
	for _, size := range []int{4000, 4001, 9000} {
		padded := append(datagram(ours, theirs, 4), make([]byte, size-24)...)
		if _, out, sent := y.Send(padded); sent != (size == 4000) || sent != (len(out.Frames) == 1) {
			t.Errorf("%d bytes: %d, %v", size, len(out.Frames), sent)
		}
	}
	for phase := 0; phase <= 5; phase++ {
		for _, serves := range []bool{false, true} {
			if _, out, sent := at(t, serves, phase).Send(datagram(theirs, ours, 4)); sent != (phase == 4) || !sent && !is(out, "") {
				t.Error(serves, phase, out, sent)
			}
		}
	}
}

// P33.3: datagrams between two ends come as they are.
func TestDatagramsCome(t *testing.T) {
	a, b := both(t)
	for size := 0; size <= 1280; size += 64 {
		d := datagram(theirs, ours, size)
		_, out, _ := a.Send(d)
		if _, got := b.Take(out.Frames[0]); !same(got.Data, d) {
			t.Error(size, got)
		}
		d = datagram(ours, theirs, size)
		_, out, _ = b.Send(d)
		if _, got := a.Take(out.Frames[0]); !same(got.Data, d) {
			t.Error(size, got)
		}
	}
}

// P33.1: closing, in each phase, and how it comes to be over.
func TestClose(t *testing.T) {
	for _, serves := range []bool{false, true} {
		for phase := 1; phase <= 4; phase++ {
			x, out := at(t, serves, phase).Close()
			if !is(out, "", pack(pppf.LCP, 5, 2)) || x.Phase() != 1 || x.Addr() != 0 {
				t.Error(serves, phase, out, x.Phase())
			}
			y, out := x.Take(pack(pppf.LCP, 6, 9))
			if !is(out, "o") || y.Phase() != 5 {
				t.Error(serves, phase, out, y.Phase())
			}
			for tick := 1; tick <= 6; tick++ {
				x, out = x.Tick()
				if tick == 3 && !is(out, "", pack(pppf.LCP, 5, 3)) || tick == 6 && !is(out, "o") || tick%3 != 0 && !is(out, "") {
					t.Error(serves, phase, tick, out)
				}
			}
			if x.Phase() != 5 {
				t.Error(x.Phase())
			}
		}
		x := at(t, serves, 5)
		if y, out := x.Close(); !is(out, "") || !reflect.DeepEqual(x, y) {
			t.Error(out)
		}
	}
	x, out := at(t, true, 4).Take(pack(pppf.LCP, 5, 3))
	if !is(out, "", pack(pppf.LCP, 6, 3)) || x.Phase() != 1 {
		t.Error("ended by the other one", out, x.Phase())
	}
	for range 3 {
		x, out = x.Tick()
	}
	if !is(out, "o") || x.Phase() != 5 {
		t.Error(out, x.Phase())
	}
}

// P33.1: a link that is negotiated anew has new ones of all above it, and proves anew.
func TestAnew(t *testing.T) {
	a, b := both(t)
	key := a.Key()
	request := pack(pppf.LCP, 1, 70, 5, 6, 0, 0, 0, 8)
	b, down := b.Take(request)
	if b.Phase() != 1 || b.Key() != key || b.Addr() != 0 || len(down.Frames) != 2 {
		t.Error(b.Phase(), down)
	}
	if _, out := b.Take(pack(pppf.IPCP, 9, 1)); !is(out, "") {
		t.Error("heard in the phase 1", out)
	}
	a, b, first, second := talk(a, b, nil, down.Frames[:1])
	if !first.Proved || !first.Up || !second.Proved || !second.Up || a.Phase() != 4 || b.Phase() != 4 || a.Key() != b.Key() || a.Addr() != theirs {
		t.Error(first, second, a.Phase(), b.Phase())
	}
	x := at(t, true, 4)
	x, _ = x.Take(request)
	x, out := x.Take(pack(pppf.LCP, 2, 2, 1, 4, 5, 120, 3, 5, 0xC2, 0x23, 0x81, 5, 6, 0, 0, 0, 5))
	if x.Phase() != 2 || !quiet(x) || len(out.Frames) != 1 || out.Frames[0][5] != 1 {
		t.Error("not new", x.Phase(), out)
	}
}

// P33.1: an end that hears its own number four times closes.
func TestLoop(t *testing.T) {
	x := at(t, false, 1)
	var out link.Out
	for range 4 {
		x, out = x.Take(pack(pppf.LCP, 1, 1, 5, 6, 0, 0, 0, 6))
	}
	if len(out.Frames) != 2 || !bytes.Equal(out.Frames[1], pack(pppf.LCP, 5, 2)) || x.Phase() != 1 {
		t.Error(out, x.Phase())
	}
}

// P33.2: a side's flag is its own; what is handed in is not kept.
func TestConfigIsKept(t *testing.T) {
	c := server()
	c.Side.Server = false
	x, _ := link.New(c).Start()
	c.Users[0] = chaps.User{Name: "ann", Password: "changed"}
	a, up := link.New(client()).Start()
	a, x, _, second := talk(a, x, up.Frames, nil)
	if x.Phase() < 1 || second.Up {
		t.Error(x.Phase(), second)
	}
	c = server()
	x, down := link.New(c).Start()
	c.Users[0].Password = "changed"
	a, up = link.New(client()).Start()
	a, x, _, _ = talk(a, x, up.Frames, down.Frames)
	if x.Phase() != 4 {
		t.Error("users are shared", x.Phase())
	}
}

// P33.2: no call turns the one that it is called of, whatever comes; nothing is delivered but in the phase 4 (P33.4).
func TestNoise(t *testing.T) {
	r := rand.New(rand.NewSource(33))
	protos := []uint16{pppf.IP, pppf.IPCP, pppf.LCP, pppf.CHAP, 0x0201}
	for range 150 {
		serves := r.Intn(2) == 0
		x := at(t, serves, r.Intn(6))
		for range 40 {
			before := x.Phase()
			data := make([]byte, r.Intn(12))
			for i := range data {
				data[i] = byte(r.Intn(8))
			}
			b := pack(protos[r.Intn(5)], byte(r.Intn(13)), byte(r.Intn(4)), data...)
			switch r.Intn(10) {
			case 0:
				b = b[:r.Intn(len(b))]
			case 1:
				b = frame(pppf.IP, datagram(theirs, theirs, 3)...)
			}
			y, out := x.Take(b)
			z, again := x.Take(b)
			if !reflect.DeepEqual(y, z) || !reflect.DeepEqual(out, again) {
				t.Fatal("two answers")
			}
			if before != 4 && len(out.Data) > 0 || before == 5 && !is(out, "") || out.Over != (y.Phase() == 5 && before != 5) {
				t.Fatal(before, out)
			}
			if r.Intn(4) == 0 {
				y, _ = y.Tick()
			}
			x = y
		}
	}
}
