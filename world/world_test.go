package world_test

import (
	"bytes"
	"math"
	"reflect"
	"slices"
	"testing"

	"euphroe/api"
	"euphroe/attr"
	"euphroe/chans"
	"euphroe/chaps"
	"euphroe/httpp"
	"euphroe/httpq"
	"euphroe/ipcp"
	"euphroe/packet"
	"euphroe/table"
	"euphroe/world"
)

const first = 0x0A000010 // the first address that is given

func config() table.Config {
	return table.Config{Name: "srv", Users: []chaps.User{{Name: "ann", Password: "secret"}, {Name: "bob", Password: "pass"}}, MRU: 1400, Own: 0x0A000001, DNS: 0x0A000035, First: first, Many: 4, Max: 8}
}

// of is a world.
func of(t *testing.T) *world.World {
	w, e := world.New(config())
	if e != api.OK {
		t.Fatal(e)
	}
	return w
}

// draw are the draws of a channel.
func draw(n byte) table.Draw {
	return table.Draw{Nonce: [32]byte{n, 1}, Chal: [16]byte{n, 2}, Magic: 1000 + uint32(n)}
}

// comes is an event by which a channel comes: kind 1, 2 or 3.
func comes(kind int, n byte, name, password string) world.Event {
	return world.Event{Kind: kind, Hash: [32]byte{n, 7}, Name: name, Password: password, Draw: draw(n), Peer: [16]byte{n, 3}, Magic: 2000 + uint32(n)}
}

// do lets events happen: all notes.
func do(w *world.World, l ...world.Event) []world.Note {
	var all []world.Note
	for _, x := range l {
		all = append(all, w.Do(x)...)
	}
	return all
}

// same tells whether these are the notes.
func same(a []world.Note, b ...world.Note) bool {
	return slices.EqualFunc(a, b, func(x, y world.Note) bool {
		return x.Client == y.Client && x.Chan == y.Chan && x.What == y.What && bytes.Equal(x.Data, y.Data)
	})
}

// bound is a world whose channel 0 has a client and a session that are bound.
func bound(t *testing.T) *world.World {
	w := of(t)
	w.Do(comes(1, 1, "ann", "secret"))
	if l := w.Fair(2); !same(l, world.Note{Client: true, What: 1}, world.Note{What: 1}) {
		t.Fatal(l)
	}
	return w
}

// request is what a client says first.
func request(w *world.World, ch int) []byte { return w.Chan(ch).Peek(chans.Up) }

// datagram is one as the world makes it.
func datagram(src, dst api.Addr, b []byte) []byte {
	laid, _ := ipcp.Lay(ipcp.Datagram{TTL: 64, Proto: 17, Src: src, Dst: dst, Data: b})
	return laid
}

// P39.1, P39.2: layer 37's errors, and a world without channels.
func TestNew(t *testing.T) {
	for _, c := range []table.Config{{}, {Max: 65, First: 1}, {First: 1, Many: 257}, {First: 1, Max: -1}} {
		if w, e := world.New(c); w != nil || e != api.ErrArg {
			t.Error(w, e)
		}
	}
	w := of(t)
	if w.Chans() != 0 || w.Server() == nil || w.Client(0) != nil || w.Chan(0) != nil || len(w.Fair(5)) != 0 || len(w.Server().Chans()) != 0 {
		t.Error("a new one")
	}
}

// P39.1: who is at a channel's ends.
func TestComes(t *testing.T) {
	w := of(t)
	if l := do(w, comes(1, 1, "ann", "secret"), comes(2, 2, "bob", "pass"), comes(3, 3, "", "")); len(l) != 0 {
		t.Error(l)
	}
	if w.Chans() != 3 || !slices.Equal(w.Server().Chans(), []int{0, 2}) {
		t.Fatal(w.Chans(), w.Server().Chans())
	}
	for ch, c := range []struct{ client, up bool }{{true, true}, {true, true}, {false, false}} {
		if (w.Client(ch) != nil) != c.client || (w.Chan(ch).Len(chans.Up) > 0) != c.up || w.Chan(ch).Len(chans.Down) != 0 || w.Chan(ch).Hash() != [32]byte{byte(ch + 1), 7} || !w.Chan(ch).Open() {
			t.Error(ch)
		}
	}
	if w.Client(0).State() != 1 || w.Client(1).State() != 1 {
		t.Error(w.Client(0).State())
	}
	if r, n, e := httpq.Parse(request(w, 0)); r.Host == "" || n != w.Chan(0).Len(chans.Up) || e != api.OK {
		t.Error(r, n, e)
	}
	for _, ch := range []int{-1, 3, math.MinInt, math.MaxInt} {
		if w.Client(ch) != nil || w.Chan(ch) != nil {
			t.Error(ch)
		}
	}
}

// P39.1: at most sixteen channels; the server may be full ahead of that.
func TestManyChannels(t *testing.T) {
	w := of(t)
	for i := range 20 {
		l := w.Do(comes(1+i%3, byte(i), "ann", "secret"))
		full := i%3 != 1 && i >= 6 && i < 16 // four addresses are given to 0, 2, 3 and 5
		if full != same(l, world.Note{Chan: i, What: 2}) || !full && len(l) != 0 {
			t.Error(i, l)
		}
		if busy, _ := httpp.Lay(503); full && !bytes.Equal(w.Chan(i).Peek(chans.Down), busy) {
			t.Error(i, "no 503")
		}
		if w.Chans() != min(i+1, 16) {
			t.Error(i, w.Chans())
		}
	}
}

// P39.1: bytes rise and fall, so many at a time; whose end is nobody's stays as it is.
func TestRiseAndFall(t *testing.T) {
	w := of(t)
	do(w, comes(1, 1, "ann", "secret"), comes(2, 2, "bob", "pass"), comes(3, 3, "", ""))
	n := w.Chan(0).Len(chans.Up)
	do(w, world.Event{Kind: 4, N: 10}, world.Event{Kind: 4, N: -1}, world.Event{Kind: 4, N: 0}, world.Event{Kind: 4, N: math.MinInt})
	if w.Chan(0).Len(chans.Up) != n-10 || w.Chan(0).Len(chans.Down) != 0 {
		t.Error("rise of ten", w.Chan(0).Len(chans.Up))
	}
	do(w, world.Event{Kind: 4, N: math.MaxInt})
	answer, _ := httpp.Lay(200)
	if w.Chan(0).Len(chans.Up) != 0 || !bytes.Equal(w.Chan(0).Peek(chans.Down), answer) {
		t.Error("the response", w.Chan(0).Peek(chans.Down))
	}
	do(w, world.Event{Kind: 5, N: 9}, world.Event{Kind: 5, N: -9})
	if w.Client(0).Held() != 9 || w.Chan(0).Len(chans.Down) != len(answer)-9 {
		t.Error("fall of nine", w.Client(0).Held())
	}
	do(w, world.Event{Kind: 5, N: 4000})
	if req, _ := packet.Lay(packet.Of(1, attr.Proto(1))); !bytes.Equal(w.Chan(0).Peek(chans.Up), req) {
		t.Error(w.Chan(0).Peek(chans.Up))
	}
	up := w.Chan(1).Len(chans.Up)
	w.Chan(2).Put(chans.Down, []byte("abc"))
	for _, ch := range []int{1, 2, 3, -1, math.MaxInt} {
		if ch != 2 {
			w.Do(world.Event{Kind: 4, Chan: ch, N: 99})
		}
		if ch != 1 {
			w.Do(world.Event{Kind: 5, Chan: ch, N: 99})
		}
	}
	if w.Chan(1).Len(chans.Up) != up || w.Chan(2).Len(chans.Down) != 3 {
		t.Error("nobody takes it")
	}
	// Also where its session is closed bytes are taken.
	do(w, world.Event{Kind: 7, Chan: 2, Way: 0, Data: []byte("\x00")}, world.Event{Kind: 4, Chan: 2, N: 9}, world.Event{Kind: 7, Chan: 2, Way: 0, Data: []byte("more")})
	if l := w.Do(world.Event{Kind: 4, Chan: 2, N: 3}); len(l) != 0 || string(w.Chan(2).Peek(chans.Up)) != "e" {
		t.Errorf("%v, %q", l, w.Chan(2).Peek(chans.Up))
	}
}

// P39.1: what is said, and noted, by a tick: the server, then the clients.
func TestTick(t *testing.T) {
	w := of(t)
	do(w, comes(1, 1, "ann", "secret"), comes(2, 2, "bob", "pass"), comes(3, 3, "", ""))
	for tick := 1; tick <= 20; tick++ {
		l := w.Do(world.Event{Kind: 6})
		if tick < 20 && len(l) != 0 || tick == 20 && !same(l, world.Note{Chan: 0, What: 2}, world.Note{Chan: 2, What: 2}, world.Note{Client: true, Chan: 0, What: 2}, world.Note{Client: true, Chan: 1, What: 2}) {
			t.Error(tick, l)
		}
	}
	if len(w.Server().Chans()) != 0 || w.Client(0).State() != 7 || w.Client(1).State() != 7 || !w.Chan(0).Open() {
		t.Error(w.Server().Chans())
	}
	w = bound(t)
	for range 9 {
		w.Do(world.Event{Kind: 6})
	}
	echo, _ := packet.Lay(packet.Of(8))
	if !bytes.Equal(w.Chan(0).Peek(chans.Up), echo) || !bytes.Equal(w.Chan(0).Peek(chans.Down), echo) {
		t.Error("no echoes", w.Chan(0).Peek(chans.Up), w.Chan(0).Peek(chans.Down))
	}
}

// P39.1: who stands between puts bytes in where nobody is.
func TestInject(t *testing.T) {
	for _, c := range []struct {
		kind, way int
		may       bool
	}{{1, 0, false}, {1, 1, false}, {2, 0, false}, {2, 1, true}, {3, 0, true}, {3, 1, false}, {2, 2, false}, {3, -1, false}, {2, 7, false}} {
		w := of(t)
		w.Do(comes(c.kind, 1, "ann", "secret"))
		up, down := w.Chan(0).Len(chans.Up), w.Chan(0).Len(chans.Down)
		if l := w.Do(world.Event{Kind: 7, Way: c.way, Data: []byte("abc")}); len(l) != 0 {
			t.Error(l)
		}
		if c.may {
			if got := w.Chan(0).Peek(c.way); !bytes.HasSuffix(got, []byte("abc")) {
				t.Errorf("%v: %q", c, got)
			}
		} else if w.Chan(0).Len(chans.Up) != up || w.Chan(0).Len(chans.Down) != down {
			t.Error(c)
		}
	}
	w := of(t)
	do(w, comes(3, 1, "", ""), world.Event{Kind: 7, Data: make([]byte, 65536)}, world.Event{Kind: 7, Data: []byte("x")}, world.Event{Kind: 7, Chan: 5, Data: []byte("x")})
	if w.Chan(0).Len(chans.Up) != 65536 {
		t.Error(w.Chan(0).Len(chans.Up))
	}
}

// P39.1: bytes go on from a channel with nobody below to one with nobody above, and back.
func TestRelay(t *testing.T) {
	w := of(t)
	do(w, comes(2, 1, "ann", "secret"), comes(3, 2, "", ""), comes(1, 3, "bob", "pass"))
	whole := request(w, 0)
	do(w, world.Event{Kind: 8, Chan: 0, Other: 1, N: 10})
	if !bytes.Equal(w.Chan(1).Peek(chans.Up), whole[:10]) || !bytes.Equal(w.Chan(0).Peek(chans.Up), whole[10:]) {
		t.Error("the first ten")
	}
	// None of these may be.
	before := w.Chan(2).Peek(chans.Up)
	for _, x := range []world.Event{{Chan: 1, Other: 0}, {Chan: 2, Other: 1}, {Chan: 0, Other: 2}, {Chan: 0, Other: 0}, {Chan: 1, Other: 1}, {Chan: 0, Other: 7}, {Chan: -1, Other: 1}, {Chan: 0, Other: 1, N: -5}, {Chan: 0, Other: 2, Way: 1}} {
		x.Kind = 8
		if x.N == 0 {
			x.N = 99
		}
		w.Do(x)
	}
	if w.Chan(1).Len(chans.Up) != 10 || !bytes.Equal(w.Chan(2).Peek(chans.Up), before) || w.Chan(2).Len(chans.Down) != 0 {
		t.Error("something moved")
	}
	do(w, world.Event{Kind: 8, Chan: 0, Other: 1, N: 5000}, world.Event{Kind: 4, Chan: 1, N: 5000})
	answer := w.Chan(1).Peek(chans.Down)
	do(w, world.Event{Kind: 8, Chan: 0, Other: 1, Way: 1, N: 7})
	if !bytes.Equal(w.Chan(0).Peek(chans.Down), answer[:7]) || !bytes.Equal(w.Chan(1).Peek(chans.Down), answer[7:]) || len(answer) == 0 {
		t.Error("back")
	}
	do(w, world.Event{Kind: 8, Chan: 0, Other: 1, Way: 1, N: 5000}, world.Event{Kind: 5, Chan: 0, N: 5000})
	if w.Client(0).State() != 2 {
		t.Error(w.Client(0).State())
	}
}

// P39.1, P39.3: data go up, and down, as they are.
func TestSendAndRoute(t *testing.T) {
	w := bound(t)
	if l := do(w, world.Event{Kind: 9, Addr: 0x0A000001, Data: []byte("hello")}, world.Event{Kind: 4, N: 5000}); !same(l, world.Note{What: 3, Data: datagram(first, 0x0A000001, []byte("hello"))}) {
		t.Error(l)
	}
	if l := do(w, world.Event{Kind: 10, Addr: 77, Data: []byte("there")}, world.Event{Kind: 5, N: 5000}); !same(l, world.Note{Client: true, What: 3, Data: datagram(77, first, []byte("there"))}) {
		t.Error(l)
	}
	if l := do(w, world.Event{Kind: 9}, world.Event{Kind: 10}, world.Event{Kind: 9, Addr: 5, Data: []byte{1}}); len(l) != 0 {
		t.Error(l)
	}
	if l := w.Fair(1); !same(l, world.Note{What: 3, Data: datagram(first, 0, nil)}, world.Note{What: 3, Data: datagram(first, 5, []byte{1})}, world.Note{Client: true, What: 3, Data: datagram(0, first, nil)}) {
		t.Error(l)
	}
	// What is too big, or to nobody, is nothing.
	for _, x := range []world.Event{{Kind: 9, Data: make([]byte, 1481)}, {Kind: 10, Data: make([]byte, 1481)}, {Kind: 9, Data: make([]byte, 1381)}, {Kind: 9, Chan: 1}, {Kind: 10, Chan: 1}, {Kind: 9, Chan: -1}, {Kind: 10, Chan: 99}, {Kind: 13}, {Kind: 0}, {Kind: -1}, {Kind: math.MaxInt}} {
		if l := w.Do(x); len(l) != 0 || w.Chan(0).Len(chans.Up)+w.Chan(0).Len(chans.Down) != 0 {
			t.Error(x.Kind, l)
		}
	}
	w = of(t)
	do(w, comes(1, 1, "ann", "secret"), comes(3, 2, "", ""))
	n := w.Chan(0).Len(chans.Up)
	do(w, world.Event{Kind: 9, Data: []byte("early")}, world.Event{Kind: 10, Data: []byte("early")}, world.Event{Kind: 9, Chan: 1}, world.Event{Kind: 10, Chan: 1})
	if w.Chan(0).Len(chans.Up) != n || w.Chan(0).Len(chans.Down) != 0 || w.Chan(1).Len(chans.Down) != 0 {
		t.Error("ahead of the binding")
	}
}

// P39.1: data are noted of their channel, and go by its session.
func TestDataOfChannels(t *testing.T) {
	w := of(t)
	do(w, comes(3, 9, "", ""), comes(1, 1, "bob", "pass"), comes(1, 2, "ann", "secret"))
	w.Fair(2)
	if l := do(w, world.Event{Kind: 9, Chan: 2, Addr: 5, Data: []byte("up")}, world.Event{Kind: 10, Chan: 1, Addr: 6, Data: []byte("down")}, world.Event{Kind: 4, Chan: 2, N: 999}, world.Event{Kind: 5, Chan: 1, N: 999}); !same(l, world.Note{Chan: 2, What: 3, Data: datagram(first+2, 5, []byte("up"))}, world.Note{Client: true, Chan: 1, What: 3, Data: datagram(6, first+1, []byte("down"))}) {
		t.Error(l)
	}
}

// P39.1: a client's draws: its number, and its peer's bytes; a session's: its nonce, its challenge, and its number.
func TestDraws(t *testing.T) {
	w := of(t)
	x := comes(1, 1, "ann", "secret")
	x.Peer, x.Magic = [16]byte(bytes.Repeat([]byte{0xAB}, 16)), 0xF1F2F3F4
	x.Draw = table.Draw{Nonce: [32]byte(bytes.Repeat([]byte{0xCD}, 32)), Chal: [16]byte(bytes.Repeat([]byte{0xEF}, 16)), Magic: 0xE1E2E3E4}
	w.Do(x)
	var up, down []byte
	for range 10 {
		up = append(up, w.Chan(0).Peek(chans.Up)...)
		w.Do(world.Event{Kind: 4, N: 65536})
		down = append(down, w.Chan(0).Peek(chans.Down)...)
		w.Do(world.Event{Kind: 5, N: 65536})
	}
	for _, c := range []struct {
		way, want []byte
	}{{up, []byte{5, 6, 0xF1, 0xF2, 0xF3, 0xF4}}, {up, append([]byte{49}, x.Peer[:]...)}, {down, x.Draw.Nonce[:]}, {down, append([]byte{16}, x.Draw.Chal[:]...)}, {down, []byte{5, 6, 0xE1, 0xE2, 0xE3, 0xE4}}} {
		if !bytes.Contains(c.way, c.want) {
			t.Errorf("%x is not said", c.want)
		}
	}
}

// P39.1: closing from above, and from below; a channel is not shut by it.
func TestClose(t *testing.T) {
	disc, _ := packet.Lay(packet.Of(6))
	w := bound(t)
	if l := w.Do(world.Event{Kind: 11}); len(l) != 0 || !bytes.Equal(w.Chan(0).Peek(chans.Up), disc) {
		t.Error(l)
	}
	if l := do(w, world.Event{Kind: 4, N: 99}, world.Event{Kind: 5, N: 99}); !same(l, world.Note{What: 2}, world.Note{Client: true, What: 2}) {
		t.Error(l)
	}
	if !w.Chan(0).Open() || w.Client(0).Key() != [32]byte{} {
		t.Error("shut, or a key")
	}
	w = bound(t)
	if l := w.Do(world.Event{Kind: 12}); len(l) != 0 || !bytes.Equal(w.Chan(0).Peek(chans.Down), disc) {
		t.Error(l)
	}
	if l := w.Fair(1); !same(l, world.Note{Client: true, What: 2}, world.Note{What: 2}) {
		t.Error(l)
	}
	w = of(t)
	do(w, comes(1, 1, "ann", "secret"), comes(2, 2, "ann", "secret"), comes(3, 3, "", ""))
	if l := do(w, world.Event{Kind: 11}, world.Event{Kind: 12}, world.Event{Kind: 11, Chan: 1}, world.Event{Kind: 12, Chan: 1}, world.Event{Kind: 11, Chan: 2}, world.Event{Kind: 12, Chan: 2}, world.Event{Kind: 11, Chan: 3}, world.Event{Kind: 12, Chan: -1}, world.Event{Kind: 11}, world.Event{Kind: 12}); !same(l, world.Note{Client: true, Chan: 0, What: 2}, world.Note{Chan: 0, What: 2}, world.Note{Client: true, Chan: 1, What: 2}, world.Note{Chan: 2, What: 2}) {
		t.Error(l)
	}
}

// P39.2: rounds, below 0, and above 200.
func TestFair(t *testing.T) {
	for _, c := range [][2]int{{math.MinInt, 0}, {-1, 0}, {0, 0}, {1, 1}, {19, 19}} {
		w := of(t)
		w.Do(comes(2, 1, "ann", "secret"))
		w.Fair(c[0])
		if left := w.Client(0).Left(); left != 20-c[1] {
			t.Error(c, left)
		}
	}
	w := of(t)
	w.Do(comes(2, 1, "ann", "secret"))
	if l := w.Fair(math.MaxInt); !same(l, world.Note{Client: true, What: 2}) {
		t.Error(l)
	}
	lefts := map[int]int{}
	for _, n := range []int{199, 200, 201, 1000, math.MaxInt} {
		w := bound(t)
		w.Fair(n)
		lefts[n] = w.Client(0).Left()
	}
	if lefts[199] == lefts[200] || lefts[201] != lefts[200] || lefts[1000] != lefts[200] || lefts[math.MaxInt] != lefts[200] {
		t.Error("rounds above 200", lefts)
	}
	// Of two that echo each other a link lasts as long as there are rounds: an echo in each tenth one.
	w = bound(t)
	put, _, _ := w.Chan(0).Counts(chans.Up)
	w.Fair(1000)
	if now, _, _ := w.Chan(0).Counts(chans.Up); (now-put)/16 < 19 || (now-put)/16 > 20 || w.Client(0).State() != 4 {
		t.Error(now-put, w.Client(0).State())
	}
}

// P39.3: whoever has the password, and a free address, is bound within a few rounds; others are not.
func TestUsers(t *testing.T) {
	w := of(t)
	do(w, comes(1, 1, "ann", "secret"), comes(1, 2, "bob", "pass"), comes(1, 3, "ann", "pass"), comes(1, 4, "ann", "secret"), comes(1, 5, "bob", "pass"))
	l := w.Fair(3)
	for ch := range 5 {
		fine := ch != 2 && ch != 4
		for _, client := range []bool{false, true} {
			if got := slices.ContainsFunc(l, func(n world.Note) bool { return n.Client == client && n.Chan == ch && n.What == 1 }); got != fine {
				t.Error(ch, client, l)
			}
		}
		if state, is := w.Server().State(ch); fine != (is && state == 3) || fine != (w.Client(ch).State() == 4) {
			t.Error(ch, state, w.Client(ch).State())
		}
		if a, _ := w.Server().Addr(ch); fine && (w.Client(ch).Addr() != a || a < first) {
			t.Error(ch, a)
		}
	}
}

// relayed is a world in which somebody relays all between a client of the channel 0, and the server on the channel 1.
func relayed(t *testing.T, other byte) (*world.World, []world.Note) {
	w := of(t)
	do(w, comes(2, 1, "ann", "secret"))
	x := comes(3, other, "", "")
	all := w.Do(x)
	for range 40 {
		all = append(all, do(w, world.Event{Kind: 8, Chan: 0, Other: 1, N: 65536}, world.Event{Kind: 4, Chan: 1, N: 65536}, world.Event{Kind: 8, Chan: 0, Other: 1, Way: 1, N: 65536}, world.Event{Kind: 5, Chan: 0, N: 65536})...)
	}
	return w, all
}

// P39.4: whoever relays between channels of unlike hashes brings no session to be bound.
func TestStandsBetween(t *testing.T) {
	w, l := relayed(t, 2)
	if slices.ContainsFunc(l, func(n world.Note) bool { return !n.Client && n.What != 2 }) {
		t.Error(l)
	}
	if state, is := w.Server().State(1); is && state == 3 {
		t.Error(state)
	}
	// The same one, over channels of one hash, is nothing but a longer way.
	w, l = relayed(t, 1)
	if state, _ := w.Server().State(1); state != 3 || w.Client(0).State() != 4 || !same(l, world.Note{Client: true, Chan: 0, What: 1}, world.Note{Chan: 1, What: 1}) {
		t.Error(state, l)
	}
}

// P39.2: a world that nobody made.
func TestNobody(t *testing.T) {
	for _, w := range []*world.World{nil, {}} {
		if len(do(w, comes(1, 1, "ann", "secret"), world.Event{Kind: 6})) != 0 || w.Client(0) != nil || w.Server() != nil || w.Chan(0) != nil || w.Chans() != 0 || len(w.Fair(9)) != 0 {
			t.Error("something is told")
		}
	}
}

// W3: what happens does not hang on how bytes are cut.
func TestPieces(t *testing.T) {
	var want []world.Note
	for i, n := range []int{65536, 1, 2, 3, 7, 100} {
		w := of(t)
		l := w.Do(comes(1, 1, "ann", "secret"))
		for range 4000 {
			l = append(l, do(w, world.Event{Kind: 4, N: n}, world.Event{Kind: 5, N: n})...)
		}
		l = append(l, do(w, world.Event{Kind: 9, Addr: 3, Data: []byte("hello")}, world.Event{Kind: 11})...)
		for range 4000 {
			l = append(l, do(w, world.Event{Kind: 4, N: n}, world.Event{Kind: 5, N: n})...)
		}
		if i == 0 {
			want = l
		} else if !same(l, want...) {
			t.Error(n, l, want)
		}
	}
	if len(want) != 5 {
		t.Error(want)
	}
}

// R4 of the document: nothing is written into what is handed in.
func TestNothingIsShared(t *testing.T) {
	w := bound(t)
	x := world.Event{Kind: 9, Addr: 1, Data: []byte("hello")}
	w.Do(x)
	if !reflect.DeepEqual(x, world.Event{Kind: 9, Addr: 1, Data: []byte("hello")}) {
		t.Error(x)
	}
	clear(x.Data)
	if l := w.Fair(1); len(l) != 1 || !bytes.HasSuffix(l[0].Data, []byte("hello")) {
		t.Error(l)
	}
}
