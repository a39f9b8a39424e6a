package bind_test

import (
	"bytes"
	"crypto/hmac"
	"crypto/sha256"
	"slices"
	"testing"

	"euphroe/api"
	"euphroe/attr"
	"euphroe/bind"
	"euphroe/packet"
)

// Keys, nonces and hashes.
func upper() [32]byte { return row(1) }
func nonce() [32]byte { return row(50) }
func hash() [32]byte  { return row(120) }

func row(first byte) [32]byte {
	var b [32]byte
	for i := range b {
		b[i] = first + byte(i)
	}
	return b
}

// connected is a Connected.
func connected(method byte, nonce, hash, seal [32]byte) api.Packet {
	data := slices.Concat([]byte{0, 0, 0, method}, nonce[:], hash[:], seal[:])
	return api.Packet{Control: true, Type: 4, Attrs: []api.Attr{{ID: 3, Data: data}}}
}

// sealed is the seal that a Connected must have, by the library.
func sealed(method byte, upper, nonce, hash [32]byte) [32]byte {
	m := hmac.New(sha256.New, upper[:])
	m.Write([]byte("SSTP inner method derived CMK\x20\x00\x01"))
	k := hmac.New(sha256.New, m.Sum(nil))
	k.Write([]byte{16, 1, 0, 112, 0, 4, 0, 1, 0, 3, 0, 104, 0, 0, 0, method})
	k.Write(nonce[:])
	k.Write(hash[:])
	k.Write(make([]byte, 32))
	return [32]byte(k.Sum(nil))
}

// wrong are packets that layer 18's Check refuses, and by which error.
func wrong() map[api.Errno][]api.Packet {
	data := make([]byte, 100)
	return map[api.Errno][]api.Packet{
		api.ErrKind: {{Control: true}, {Control: true, Type: 10}},
		api.ErrArg:  {packet.Of(4), packet.Of(2), packet.Of(4, attr.Proto(1)), packet.Of(4, api.Attr{ID: 3, Data: data}, api.Attr{ID: 3, Data: data}), packet.Of(7, attr.Proto(1))},
		api.ErrEnd:  {packet.Of(4, api.Attr{ID: 3, Data: data[:99]}), packet.Of(2, api.Attr{ID: 4, Data: data[:35]}), packet.Of(1, api.Attr{ID: 1})},
		api.ErrForm: {packet.Of(4, api.Attr{ID: 3, Data: data}), packet.Of(4, api.Attr{ID: 3, Data: make([]byte, 101)}), packet.Of(2, api.Attr{ID: 4, Data: data[:36]}), packet.Of(2, api.Attr{ID: 4, Data: data})},
	}
}

// P34.1: a ConnectAck that asks for the method 2.
func TestAsk(t *testing.T) {
	n := nonce()
	want := api.Packet{Control: true, Type: 2, Attrs: []api.Attr{{ID: 4, Data: append([]byte{0, 0, 0, 2}, n[:]...)}}}
	if p := bind.Ask(n); !packet.Same(p, want) || packet.Check(p) != api.OK {
		t.Error(p)
	}
	for methods, e := range map[byte]api.Errno{1: api.ErrArg, 2: api.OK, 3: api.OK, 0: api.ErrForm, 4: api.ErrForm} {
		got, err := bind.Asked(packet.Of(2, attr.OfAsk(attr.Ask{Methods: methods, Nonce: n})))
		if err != e || e == api.OK && got != n || e != api.OK && got != [32]byte{} {
			t.Errorf("of the methods %d: %x, %d", methods, got, err)
		}
	}
	if got, e := bind.Asked(bind.Ask(n)); got != n || e != api.OK {
		t.Error(got, e)
	}
	p := bind.Ask(n)
	p.Data = []byte{1, 2}
	if got, e := bind.Asked(p); got != n || e != api.OK {
		t.Error("with data", got, e)
	}
}

// P34.1: what asks for nothing.
func TestAskedRefuses(t *testing.T) {
	for e, l := range wrong() {
		for _, p := range l {
			if got, err := bind.Asked(p); got != [32]byte{} || err != e {
				t.Errorf("%v: %d, not %d", p, err, e)
			}
		}
	}
	asks := bind.Ask(nonce())
	asks.Control = false
	for _, p := range []api.Packet{bind.Connected(upper(), nonce(), hash()), packet.Of(8), packet.Of(1, attr.Proto(1)), {}, packet.OfData([]byte{1}), asks} {
		if got, err := bind.Asked(p); got != [32]byte{} || err != api.ErrArg {
			t.Errorf("%v: %d", p, err)
		}
	}
}

// P34.1: the bound packet, as the library seals it.
func TestConnected(t *testing.T) {
	want := connected(2, nonce(), hash(), sealed(2, upper(), nonce(), hash()))
	if p := bind.Connected(upper(), nonce(), hash()); !packet.Same(p, want) {
		t.Error(p)
	}
	if p := bind.Connected([32]byte{}, [32]byte{}, [32]byte{}); !packet.Same(p, connected(2, [32]byte{}, [32]byte{}, sealed(2, [32]byte{}, [32]byte{}, [32]byte{}))) {
		t.Error(p)
	}
}

// P34.2: it without its seal, and the seal that it must have, whatever it has.
func TestBareAndSeal(t *testing.T) {
	for method := byte(1); method <= 2; method++ {
		for _, has := range [][32]byte{{}, row(9), sealed(method, upper(), nonce(), hash())} {
			p := connected(method, nonce(), hash(), has)
			p.Data = []byte{7, 7}
			b, e := bind.Bare(p)
			if !packet.Same(b, connected(method, nonce(), hash(), [32]byte{})) || e != api.OK {
				t.Errorf("Bare of %d: %v, %d", method, b, e)
			}
			if s, e := bind.Seal(p, upper()); s != sealed(method, upper(), nonce(), hash()) || e != api.OK {
				t.Errorf("Seal of %d: %x, %d", method, s, e)
			}
		}
	}
}

// P34.2: each error, of what is no Connected.
func TestRefuses(t *testing.T) {
	l := wrong()
	data := bind.Connected(upper(), nonce(), hash())
	data.Control = false
	l[api.ErrArg] = append(l[api.ErrArg], bind.Ask(nonce()), packet.Of(8), packet.Of(5), api.Packet{}, packet.OfData([]byte{1}), data)
	for e, l := range l {
		for _, p := range l {
			b, e1 := bind.Bare(p)
			s, e2 := bind.Seal(p, upper())
			e3 := bind.Check(p, upper(), nonce(), hash())
			if !packet.Same(b, api.Packet{}) || s != [32]byte{} || e1 != e || e2 != e || e3 != e {
				t.Errorf("%v: %d, %d, %d, not %d", p, e1, e2, e3, e)
			}
		}
	}
}

// P34.2, P34.3: fine for its own key, nonce and hash alone, and which error comes first.
func TestCheck(t *testing.T) {
	p := bind.Connected(upper(), nonce(), hash())
	if e := bind.Check(p, upper(), nonce(), hash()); e != api.OK {
		t.Fatal(e)
	}
	for i := range 32 {
		for bit := range 8 {
			u, n, h := upper(), nonce(), hash()
			u[i] ^= 1 << bit
			n[i] ^= 1 << bit
			h[i] ^= 1 << bit
			if e := bind.Check(p, u, nonce(), hash()); e != api.ErrMac {
				t.Error("another key", e)
			}
			if e := bind.Check(p, upper(), n, hash()); e != api.ErrAuth {
				t.Error("another nonce", e)
			}
			if e := bind.Check(p, upper(), nonce(), h); e != api.ErrMac {
				t.Error("another hash", e)
			}
			if e := bind.Check(p, u, n, h); e != api.ErrAuth {
				t.Error("all others", e)
			}
			other := bind.Connected(upper(), nonce(), h)
			if e := bind.Check(other, upper(), nonce(), hash()); e != api.ErrMac {
				t.Error("bound to another hash", e)
			}
			s := sealed(2, upper(), nonce(), hash())
			s[i] ^= 1 << bit
			if e := bind.Check(connected(2, nonce(), hash(), s), upper(), nonce(), hash()); e != api.ErrMac {
				t.Error("another seal", e)
			}
		}
	}
	for _, n := range [][32]byte{nonce(), {}} {
		if e := bind.Check(connected(1, nonce(), hash(), sealed(1, upper(), nonce(), hash())), upper(), n, hash()); e != api.ErrArg {
			t.Error("the method 1", e)
		}
	}
	with := bind.Connected(upper(), nonce(), hash())
	with.Data = []byte{1}
	if e := bind.Check(with, upper(), nonce(), hash()); e != api.OK {
		t.Error("with data", e)
	}
}

// R4 of the document: nothing is written into what is handed in, and answers share nothing with it.
func TestNothingIsShared(t *testing.T) {
	p := bind.Connected(upper(), nonce(), hash())
	before := bytes.Clone(p.Attrs[0].Data)
	b, _ := bind.Bare(p)
	bind.Seal(p, upper())
	bind.Check(p, upper(), nonce(), hash())
	clear(b.Attrs[0].Data)
	if !bytes.Equal(p.Attrs[0].Data, before) {
		t.Error("written into")
	}
}
