package world_test

import (
	"bytes"
	"math/rand"
	"slices"
	"strings"
	"testing"

	"euphroe/api"
	"euphroe/attr"
	"euphroe/chans"
	"euphroe/httpp"
	"euphroe/httpq"
	"euphroe/packet"
	"euphroe/world"
)

// hears lets the server hear bytes on a channel with nobody above, and tells what it says.
func hears(w *world.World, ch int, b []byte) []byte {
	do(w, world.Event{Kind: 7, Chan: ch, Data: b}, world.Event{Kind: 4, Chan: ch, N: len(b)})
	said, _ := w.Chan(ch).Take(chans.Down, chans.Room)
	return said
}

// response is one of a status.
func response(status int) []byte {
	b, _ := httpp.Lay(status)
	return b
}

// abort is a refusal with a code.
func abort(code uint32) []byte {
	b, _ := packet.Lay(packet.Of(packet.Abort, attr.OfStatus(attr.Status{Code: code})))
	return b
}

// Example 1 of the whole: a request with another path is answered by 404.
func TestAnotherPath(t *testing.T) {
	w := of(t)
	w.Do(comes(3, 1, "", ""))
	b, _ := httpq.Lay(httpq.Request{Host: "h"})
	other := []byte(strings.Replace(string(b), httpq.Path, "/other/", 1))
	if said := hears(w, 0, other); !bytes.Equal(said, response(404)) || len(w.Server().Chans()) != 0 {
		t.Errorf("%q", said)
	}
}

// Example 3 of the whole: a packet of 4096 bytes ends its tunnel.
func TestTooGreatAPacket(t *testing.T) {
	w := of(t)
	w.Do(comes(3, 1, "", ""))
	b, _ := httpq.Lay(httpq.Request{Host: "h"})
	hears(w, 0, b)
	if said := hears(w, 0, []byte{16, 0, 16, 0}); !bytes.Equal(said, abort(1)) {
		t.Errorf("%x", said)
	}
	if state, is := w.Server().State(0); !is || state != 4 {
		t.Error(state, is)
	}
}

// Example 4 of the whole: a client with another password is refused by the code 691.
func TestAnotherPassword(t *testing.T) {
	w := of(t)
	w.Do(comes(1, 1, "ann", "other"))
	var said []byte
	var l []world.Note
	for range 12 {
		l = append(l, w.Do(world.Event{Kind: 4, N: chans.Room})...)
		said = append(said, w.Chan(0).Peek(chans.Down)...)
		l = append(l, w.Do(world.Event{Kind: 5, N: chans.Room})...)
	}
	if !bytes.Contains(said, []byte("E=691 R=0 ")) {
		t.Errorf("%q", said)
	}
	if l = append(l, w.Fair(30)...); slices.ContainsFunc(l, func(n world.Note) bool { return n.What != 2 }) || !slices.ContainsFunc(l, func(n world.Note) bool { return !n.Client && n.What == 2 }) || len(w.Server().Chans()) != 0 {
		t.Error(l)
	}
}

// Example 5 of the whole, and P39.4: a client that saw another certificate is refused by the code 5.
func TestAnotherCertificate(t *testing.T) {
	w := of(t)
	do(w, comes(2, 1, "ann", "secret"), comes(3, 2, "", ""))
	var said []byte
	for range 12 {
		do(w, world.Event{Kind: 8, Chan: 0, Other: 1, N: chans.Room}, world.Event{Kind: 4, Chan: 1, N: chans.Room})
		said = append(said, w.Chan(1).Peek(chans.Down)...)
		do(w, world.Event{Kind: 8, Chan: 0, Other: 1, Way: 1, N: chans.Room}, world.Event{Kind: 5, Chan: 0, N: chans.Room})
	}
	if !bytes.Contains(said, abort(5)) {
		t.Errorf("%x", said)
	}
}

// W2: bytes over other channels do not turn a session.
func TestNoise(t *testing.T) {
	r := rand.New(rand.NewSource(39))
	quiet := of(t)
	quiet.Do(comes(1, 1, "ann", "secret"))
	want := quiet.Fair(25)
	for range 20 {
		w := of(t)
		do(w, comes(1, 1, "ann", "secret"), comes(3, 2, "", ""), comes(2, 3, "bob", "pass"))
		var got []world.Note
		for range 25 {
			for _, ch := range []int{1, 2} {
				b := make([]byte, r.Intn(300))
				r.Read(b)
				if r.Intn(2) == 0 {
					b, _ = httpq.Lay(httpq.Request{Host: "h"})
				}
				w.Do(world.Event{Kind: 7, Chan: ch, Way: ch - 1, Data: b})
			}
			for _, n := range w.Fair(1) {
				if n.Chan == 0 {
					got = append(got, n)
				}
			}
		}
		a, b := w.Client(0), quiet.Client(0)
		if !same(got, want...) || a.State() != b.State() || a.Key() != b.Key() || a.Left() != b.Left() || a.Addr() != b.Addr() {
			t.Fatal(got, want)
		}
	}
}

// W5: without bytes all are closed in time, no key is left, and no more than a head or a packet is held.
func TestEnds(t *testing.T) {
	r := rand.New(rand.NewSource(5))
	for range 40 {
		w := of(t)
		for i := range 6 {
			w.Do(comes(1+r.Intn(3), byte(i), "ann", []string{"secret", "other"}[r.Intn(2)]))
		}
		for range r.Intn(200) {
			x := world.Event{Kind: 4 + r.Intn(9), Chan: r.Intn(6), Other: r.Intn(6), Way: r.Intn(2), N: r.Intn(500), Data: []byte{16, 1, 0}}
			if x.Kind != 6 || r.Intn(5) == 0 {
				w.Do(x)
			}
			for ch := range 6 {
				if c := w.Client(ch); c != nil && c.Held() >= api.MaxPacket {
					t.Fatal(c.Held())
				}
			}
		}
		for range 40 {
			w.Do(world.Event{Kind: 6})
		}
		for ch := range 6 {
			if c := w.Client(ch); c != nil && (c.State() != 7 || c.Key() != [32]byte{} || c.Held() != 0) {
				t.Fatal(ch, c.State())
			}
		}
		if len(w.Server().Chans()) != 0 || w.Server().Free() != 4 {
			t.Fatal(w.Server().Chans())
		}
	}
}
