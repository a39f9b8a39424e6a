package ipcp_test

import (
	"bytes"
	"encoding/binary"
	"reflect"
	"slices"
	"testing"

	"euphroe/api"
	"euphroe/fsm"
	"euphroe/ipcp"
	"euphroe/ipcpo"
	"euphroe/nego"
)

func server() ipcpo.Side {
	return ipcpo.Side{Server: true, Own: 0x0A000001, Give: 0x0A000009, DNS: 0x0A000035}
}

// pack is a packet.
func pack(code, id byte, data ...byte) api.Control {
	return api.Control{Code: code, ID: id, Data: data}
}

func same(got []api.Control, want ...api.Control) bool {
	return slices.EqualFunc(got, want, func(a, b api.Control) bool { return a.Code == b.Code && a.ID == b.ID && bytes.Equal(a.Data, b.Data) })
}

// head are a datagram's first twenty bytes, with a right sum.
func head(first, second byte, length, id, flags uint16, ttl, proto byte, src, dst uint32) []byte {
	b := []byte{first, second, 0, 0, 0, 0, 0, 0, ttl, proto, 0, 0}
	binary.BigEndian.PutUint16(b[2:], length)
	binary.BigEndian.PutUint16(b[4:], id)
	binary.BigEndian.PutUint16(b[6:], flags)
	b = binary.BigEndian.AppendUint32(b, src)
	b = binary.BigEndian.AppendUint32(b, dst)
	binary.BigEndian.PutUint16(b[10:], sum(b))
	return b
}

// sum is 65535 less the pairs, each added with its carry.
func sum(b []byte) uint16 {
	if len(b)%2 == 1 {
		b = append(bytes.Clone(b), 0)
	}
	all := 0
	for i := 0; i < len(b); i += 2 {
		all += int(b[i])*256 + int(b[i+1])
		if all > 65535 {
			all -= 65535
		}
	}
	return uint16(65535 - all)
}

// P32.1: the negotiation's, by a side's rules.
func TestEnd(t *testing.T) {
	for _, s := range []ipcpo.Side{server(), {Asks: true}, {Own: 5}} {
		x, n := ipcp.New(s), nego.New(nego.Rules{IP: true, Side: s})
		if x.Side() != s || x.Open() || x.Theirs() != 0 || x.State() != fsm.Initial {
			t.Error(x.Side(), x.Theirs())
		}
		var out, want nego.Out
		for i, step := range []any{fsm.Open, fsm.Up, 0, pack(3, 1, 3, 6, 10, 0, 0, 9), pack(1, 5, 3, 6, 10, 0, 0, 9), pack(9, 1, 0, 0, 0, 0), 0, 0, pack(2, 3, 3, 6, 10, 0, 0, 9), fsm.Close, 0, fsm.Down} {
			switch y := step.(type) {
			case fsm.Event:
				x, out = x.Do(y)
				n, want = n.Do(y)
			case api.Control:
				x, out = x.Take(y)
				n, want = n.Take(y)
			default:
				x, out = x.Tick()
				n, want = n.Tick()
			}
			if !reflect.DeepEqual(out, want) || x.State() != n.State() || x.Side() != n.Rules().Side || x.Open() != (n.State() == fsm.Opened) {
				t.Errorf("%d: %v, %v", i, out, want)
			}
		}
	}
}

// P32.1: opened, and whose address the other end's is.
func TestOpenAndTheirs(t *testing.T) {
	x := ipcp.New(ipcpo.Side{})
	x, _ = x.Do(fsm.Open)
	x, out := x.Do(fsm.Up)
	if !same(out.Packets, pack(1, 1, 3, 6, 0, 0, 0, 0)) {
		t.Error(out)
	}
	x, out = x.Take(pack(3, 1, 3, 6, 10, 0, 0, 9))
	if !same(out.Packets, pack(1, 2, 3, 6, 10, 0, 0, 9)) || x.Side().Own != 0x0A000009 {
		t.Error(out, x.Side())
	}
	x, out = x.Take(pack(2, 2, 3, 6, 10, 0, 0, 9))
	if x.Open() || x.Theirs() != 0 {
		t.Error(x.Theirs())
	}
	x, out = x.Take(pack(1, 3, 3, 6, 0xF1, 2, 3, 4))
	if !out.Up || !x.Open() || x.Theirs() != 0xF1020304 {
		t.Error(out, x.Theirs())
	}
	if x, _ = x.Take(pack(1, 4)); x.Open() || x.Theirs() != 0 {
		t.Error("acked without an address", x.Theirs())
	}
	s := ipcp.New(server())
	if s, _ = s.Take(pack(1, 1, 129, 6, 10, 0, 0, 53, 3, 6, 10, 0, 0, 9)); s.Theirs() != 0x0A000009 {
		t.Error("behind a server of names", s.Theirs())
	}
	if (ipcp.End{}).Open() || (ipcp.End{}).Theirs() != 0 || (ipcp.End{}).Side() != (ipcpo.Side{}) {
		t.Error("the zero one")
	}
	y, again := ipcp.New(server()), ipcp.New(server())
	y.Do(fsm.Open)
	y.Take(pack(1, 1, 3, 6, 10, 0, 0, 9))
	y.Tick()
	if !reflect.DeepEqual(y, again) {
		t.Error("turned")
	}
}

// P32.1: the negotiation's rejects go on with its identifiers.
func TestCodesAreRejected(t *testing.T) {
	x, _ := ipcp.New(server()).Do(fsm.Up)
	var out nego.Out
	for id := byte(1); id < 4; id++ {
		if x, out = x.Take(pack(9, 1)); !same(out.Packets, pack(7, id, 9, 1, 0, 4)) {
			t.Error(id, out)
		}
	}
	if _, out = x.Do(fsm.Open); !same(out.Packets, pack(1, 4, 3, 6, 10, 0, 0, 1)) {
		t.Error(out)
	}
}

// P32.2: what the pairs lack to 65535.
func TestSum(t *testing.T) {
	for _, c := range []struct {
		b    []byte
		want uint16
	}{{nil, 65535}, {make([]byte, 20), 65535}, {[]byte{1}, 65535 - 256}, {[]byte{0, 1}, 65534}, {[]byte{255, 255}, 0}, {[]byte{255, 255, 0, 1}, 65534}, {[]byte{255, 255, 255, 255}, 0}, {[]byte{1, 2, 3}, 65535 - 0x0402}, {[]byte{0x80, 0, 0x80, 0}, 65534}} {
		if got := ipcp.Sum(c.b); got != c.want {
			t.Errorf("Sum(%x): %d, not %d", c.b, got, c.want)
		}
	}
	for n := range 400 {
		b := make([]byte, n*7)
		for i := range b {
			b[i] = byte(i*i*n + n)
		}
		if got := ipcp.Sum(b); got != sum(b) {
			t.Errorf("of %d bytes: %d, not %d", len(b), got, sum(b))
		}
	}
	if got := ipcp.Sum(bytes.Repeat([]byte{255}, 1<<20)); got != 0 {
		t.Errorf("of a million: %d", got)
	}
}

// datagrams are some.
func datagrams() []ipcp.Datagram {
	return []ipcp.Datagram{{}, {TTL: 64, Proto: 17, Src: 0x0A000009, Dst: 0x0A000001, Data: []byte("hello")}, {TTL: 255, Proto: 255, Src: 0xFFFFFFFF, Dst: 0xFFFFFFFF}, {TTL: 1, Src: 1, Data: make([]byte, 1480)}, {Dst: 0x01020304, Data: bytes.Repeat([]byte{9}, 236)}}
}

// P32.2, P32.3: a datagram's bytes; what is laid is parsed, whatever padding stands behind.
func TestLayAndParse(t *testing.T) {
	for i, d := range datagrams() {
		want := append(head(69, 0, uint16(20+len(d.Data)), 0, 0, d.TTL, d.Proto, uint32(d.Src), uint32(d.Dst)), d.Data...)
		b, e := ipcp.Lay(d)
		if !bytes.Equal(b, want) || e != api.OK || ipcp.Sum(b[:20]) != 0 {
			t.Errorf("%d: %x, %d", i, b[:min(len(b), 24)], e)
		}
		for _, padding := range []int{0, 1, 20, 5000} {
			if got, e := ipcp.Parse(append(bytes.Clone(b), bytes.Repeat([]byte{7}, padding)...)); !reflect.DeepEqual(norm(got), norm(d)) || e != api.OK {
				t.Errorf("%d, padding %d: %v, %d", i, padding, got, e)
			}
		}
		for n := range b {
			if got, e := ipcp.Parse(b[:n]); !reflect.DeepEqual(norm(got), ipcp.Datagram{}) || e != api.ErrEnd {
				t.Fatalf("%d, the first %d: %d", i, n, e)
			}
		}
	}
	for _, n := range []int{1481, 2000, 70000} {
		if b, e := ipcp.Lay(ipcp.Datagram{Data: make([]byte, n)}); len(b) != 0 || e != api.ErrBig {
			t.Errorf("of %d: %d, %d", n, len(b), e)
		}
	}
}

// norm is a datagram whose data are nil, if there are none.
func norm(d ipcp.Datagram) ipcp.Datagram {
	if len(d.Data) == 0 {
		d.Data = nil
	}
	return d
}

// P32.2: each error, and which of two comes first; what plays no part.
func TestParse(t *testing.T) {
	for _, second := range []byte{0, 1, 255} {
		for _, id := range []uint16{0, 7, 65535} {
			for _, flags := range []uint16{0, 0x4000, 0x2001, 65535} {
				b := append(head(69, second, 22, id, flags, 3, 4, 5, 6), 8, 9)
				if d, e := ipcp.Parse(b); !reflect.DeepEqual(d, ipcp.Datagram{TTL: 3, Proto: 4, Src: 5, Dst: 6, Data: []byte{8, 9}}) || e != api.OK {
					t.Errorf("%d, %d, %d: %v, %d", second, id, flags, d, e)
				}
			}
		}
	}
	wrong := head(69, 0, 20, 0, 0, 1, 1, 1, 1)
	wrong[11]++
	both := head(69, 0, 1501, 0, 0, 1, 1, 1, 1)
	both[11]++
	for _, c := range []struct {
		b    []byte
		want api.Errno
	}{
		{nil, api.ErrEnd}, {make([]byte, 19), api.ErrEnd}, {head(68, 0, 20, 0, 0, 1, 1, 1, 1), api.ErrVersion}, {head(70, 0, 10, 0, 0, 1, 1, 1, 1), api.ErrVersion}, {make([]byte, 20), api.ErrVersion}, {head(0x65, 0, 20, 0, 0, 1, 1, 1, 1), api.ErrVersion},
		{head(69, 0, 19, 0, 0, 1, 1, 1, 1), api.ErrForm}, {head(69, 0, 0, 0, 0, 1, 1, 1, 1), api.ErrForm}, {head(69, 0, 21, 0, 0, 1, 1, 1, 1), api.ErrEnd}, {head(69, 0, 65535, 0, 0, 1, 1, 1, 1), api.ErrEnd},
		{append(both, make([]byte, 1480)...), api.ErrEnd}, {append(both, make([]byte, 1481)...), api.ErrBig}, {append(head(69, 0, 1501, 0, 0, 1, 1, 1, 1), make([]byte, 3000)...), api.ErrBig}, {wrong, api.ErrForm}, {append(wrong, 1, 2), api.ErrForm},
	} {
		if d, e := ipcp.Parse(c.b); !reflect.DeepEqual(norm(d), ipcp.Datagram{}) || e != c.want {
			t.Errorf("Parse(%x): %v, %d, not %d", c.b[:min(len(c.b), 20)], d, e, c.want)
		}
	}
	fine := head(69, 0, 20, 0, 0, 1, 1, 1, 1)
	for i := range fine {
		for bit := range 8 {
			b := bytes.Clone(fine)
			b[i] ^= 1 << bit
			if _, e := ipcp.Parse(b); e == api.OK {
				t.Errorf("the byte %d, bit %d", i, bit)
			}
		}
	}
}

// P32.2: the same have all the same.
func TestSame(t *testing.T) {
	l := append(datagrams(), ipcp.Datagram{TTL: 1}, ipcp.Datagram{Proto: 1}, ipcp.Datagram{Src: 1}, ipcp.Datagram{Dst: 1}, ipcp.Datagram{Data: []byte{0}}, ipcp.Datagram{Data: []byte{1}})
	for i, a := range l {
		for j, b := range l {
			if ipcp.Same(a, b) != (i == j) {
				t.Errorf("%d and %d", i, j)
			}
		}
	}
	if !ipcp.Same(ipcp.Datagram{}, ipcp.Datagram{Data: []byte{}}) {
		t.Error("nil and empty")
	}
}

// R4 of the document: nothing is written into what is handed in, and answers share nothing with it.
func TestNothingIsShared(t *testing.T) {
	d := datagrams()[1]
	b, _ := ipcp.Lay(d)
	got, _ := ipcp.Parse(b)
	ipcp.Sum(b[:19])
	if again, _ := ipcp.Lay(d); !bytes.Equal(b, again) {
		t.Error("written into")
	}
	clear(b)
	if !ipcp.Same(got, datagrams()[1]) || !ipcp.Same(d, datagrams()[1]) {
		t.Error("shared")
	}
}
