package packet_test

import (
	"bytes"
	"slices"
	"testing"

	"euphroe/api"
	"euphroe/attr"
	"euphroe/packet"
)

// Attributes of each kind, as they may be.
func proto() api.Attr   { return attr.Proto(1) }
func status() api.Attr  { return attr.OfStatus(attr.Status{About: 1, Code: 5}) }
func binding() api.Attr { return attr.OfBinding(attr.Binding{Method: 2, Nonce: [32]byte{1, 2, 3}}) }
func ask() api.Attr     { return attr.OfAsk(attr.Ask{Methods: 2, Nonce: [32]byte{9}}) }

func same(a, b api.Packet) bool {
	return a.Control == b.Control && a.Type == b.Type && bytes.Equal(a.Data, b.Data) && slices.EqualFunc(a.Attrs, b.Attrs, func(x, y api.Attr) bool { return x.ID == y.ID && bytes.Equal(x.Data, y.Data) })
}

// packets are some that are laid.
func packets() []api.Packet {
	return []api.Packet{
		{Control: true, Type: 8},
		{Control: true, Type: 0},
		{Control: true, Type: 0xF1F2},
		{Control: true, Type: 1, Attrs: []api.Attr{proto()}},
		{Control: true, Type: 3, Attrs: []api.Attr{status(), {ID: 4}, binding(), {ID: 1, Data: []byte{7}}}},
		{Control: true, Type: 4, Attrs: slices.Repeat([]api.Attr{binding()}, 8)},
		{Control: true, Type: 5, Attrs: []api.Attr{{ID: 2, Data: make([]byte, 4083)}}},
		{Data: []byte{0}},
		{Data: bytes.Repeat([]byte{1, 2, 3}, 100)},
		{Data: make([]byte, 4091)},
	}
}

// The types' numbers.
func TestTypes(t *testing.T) {
	if [9]int{packet.ConnectReq, packet.ConnectAck, packet.ConnectNak, packet.Connected, packet.Abort, packet.Disconnect, packet.DiscAck, packet.EchoReq, packet.EchoResp} != [9]int{1, 2, 3, 4, 5, 6, 7, 8, 9} {
		t.Error("other numbers")
	}
}

// P18.1: packets of control and of data.
func TestOf(t *testing.T) {
	if p := packet.Of(7); !same(p, api.Packet{Control: true, Type: 7}) {
		t.Error(p)
	}
	if p := packet.Of(300, proto(), api.Attr{ID: 99, Data: []byte{1}}); !same(p, api.Packet{Control: true, Type: 300, Attrs: []api.Attr{proto(), {ID: 99, Data: []byte{1}}}}) {
		t.Error(p)
	}
	if p := packet.OfData([]byte{4, 5}); !same(p, api.Packet{Data: []byte{4, 5}}) {
		t.Error(p)
	}
	if p := packet.OfData(nil); !same(p, api.Packet{}) {
		t.Error(p)
	}
}

// P18.1: a packet's bytes; what it has beside plays no part.
func TestLay(t *testing.T) {
	for _, c := range []struct {
		p    api.Packet
		want []byte
	}{
		{api.Packet{Control: true, Type: 8}, []byte{16, 1, 0, 8, 0, 8, 0, 0}},
		{api.Packet{Control: true, Type: 0xF102, Attrs: []api.Attr{{ID: 1, Data: []byte{0, 1}}, {ID: 4}}}, []byte{16, 1, 0, 18, 0xF1, 2, 0, 2, 0, 1, 0, 6, 0, 1, 0, 4, 0, 4}},
		{api.Packet{Control: true, Type: 9, Data: make([]byte, 5000)}, []byte{16, 1, 0, 8, 0, 9, 0, 0}},
		{api.Packet{Data: []byte{7}}, []byte{16, 0, 0, 5, 7}},
		{api.Packet{Type: 9, Attrs: make([]api.Attr, 99), Data: []byte{1, 2}}, []byte{16, 0, 0, 6, 1, 2}},
		{api.Packet{Data: bytes.Repeat([]byte{3}, 4091)}, append([]byte{16, 0, 15, 255}, bytes.Repeat([]byte{3}, 4091)...)},
	} {
		if b, e := packet.Lay(c.p); !bytes.Equal(b, c.want) || e != api.OK {
			t.Errorf("%x, %d, not %x", b[:min(len(b), 20)], e, c.want[:min(len(c.want), 20)])
		}
	}
}

// P18.1: too many attributes, those that may not be, no data, and too many bytes.
func TestLayRefuses(t *testing.T) {
	nine := slices.Repeat([]api.Attr{proto()}, 9)
	big := api.Attr{ID: 2, Data: make([]byte, 4092)}
	none := api.Attr{ID: 9}
	for i, c := range []struct {
		p    api.Packet
		want api.Errno
	}{
		{api.Packet{Control: true, Attrs: nine}, api.ErrMany},
		{api.Packet{Control: true, Attrs: slices.Repeat([]api.Attr{none}, 9)}, api.ErrMany},
		{api.Packet{Control: true, Attrs: []api.Attr{proto(), none, big}}, api.ErrKind},
		{api.Packet{Control: true, Attrs: []api.Attr{big, none}}, api.ErrBig},
		{api.Packet{Control: true, Attrs: []api.Attr{{ID: 2, Data: make([]byte, 4084)}}}, api.ErrBig},
		{api.Packet{Control: true, Attrs: []api.Attr{{ID: 2, Data: make([]byte, 3000)}, {ID: 2, Data: make([]byte, 3000)}}}, api.ErrBig},
		{api.Packet{Control: true, Attrs: []api.Attr{{ID: 2, Data: make([]byte, 3000)}, {ID: 2, Data: make([]byte, 3000)}, none}}, api.ErrKind},
		{api.Packet{}, api.ErrEnd}, {api.Packet{Type: 8, Attrs: []api.Attr{proto()}}, api.ErrEnd},
		{api.Packet{Data: make([]byte, 4092)}, api.ErrBig}, {api.Packet{Data: make([]byte, 70000)}, api.ErrBig},
	} {
		if b, e := packet.Lay(c.p); len(b) != 0 || e != c.want {
			t.Errorf("%d: %d bytes, %d, not %d", i, len(b), e, c.want)
		}
	}
}

// P18.2: the length, told by the first four bytes.
func TestLength(t *testing.T) {
	for first := range 256 {
		for second := range 4 {
			for _, n := range []int{0, 4, 5, 7, 8, 9, 255, 256, 4094, 4095, 4096, 8192, 65535} {
				want, length := api.OK, n
				switch {
				case first != 16:
					want = api.ErrVersion
				case second > 1 || n < 5 || second == 1 && n < 8 || n > 4095:
					want = api.ErrForm
				}
				if want != api.OK {
					length = 0
				}
				b := []byte{byte(first), byte(second), byte(n >> 8), byte(n), 99}
				for _, x := range [][]byte{b, b[:4]} {
					if got, e := packet.Length(x); got != length || e != want {
						t.Fatalf("Length(%x): %d, %d", x, got, e)
					}
				}
			}
		}
	}
	for _, b := range [][]byte{nil, {0}, {16, 1, 0}, {15, 9, 9}} {
		if n, e := packet.Length(b); n != 0 || e != api.ErrEnd {
			t.Errorf("Length(%x): %d, %d", b, n, e)
		}
	}
}

// P18.4: what is laid is parsed; what is parsed is laid as the same.
func TestRound(t *testing.T) {
	for i, p := range packets() {
		b, e := packet.Lay(p)
		if e != api.OK {
			t.Fatal(i, e)
		}
		got, e := packet.Parse(b)
		if !same(got, p) || e != api.OK {
			t.Errorf("%d: %d", i, e)
		}
		for n := range b {
			if got, e := packet.Parse(b[:n]); !same(got, api.Packet{}) || e != api.ErrEnd {
				t.Fatalf("%d, the first %d bytes: %d", i, n, e)
			}
		}
		if got, e := packet.Parse(append(bytes.Clone(b), 0)); !same(got, api.Packet{}) || e != api.ErrForm {
			t.Errorf("%d, a byte more: %d", i, e)
		}
		if again, e := packet.Lay(got); !bytes.Equal(again, b) || e != api.OK {
			t.Errorf("%d, laid again: %d", i, e)
		}
	}
}

// control is a packet that tells so many attributes, and has these bytes.
func control(many int, rest ...byte) []byte {
	n := 8 + len(rest)
	return append([]byte{16, 1, byte(n >> 8), byte(n), 0, 1, byte(many >> 8), byte(many)}, rest...)
}

// P18.2: each error, and which of two comes first.
func TestParseRefuses(t *testing.T) {
	nine := bytes.Repeat([]byte{0, 4, 0, 4}, 9)
	for _, c := range []struct {
		b    []byte
		want api.Errno
	}{
		{nil, api.ErrEnd}, {[]byte{17, 1, 0}, api.ErrEnd}, {[]byte{17, 2, 0, 0}, api.ErrVersion}, {[]byte{16, 2, 0, 8}, api.ErrForm}, {[]byte{16, 1, 0, 7, 0, 8, 0}, api.ErrForm}, {[]byte{16, 0, 0, 4}, api.ErrForm},
		{[]byte{16, 0, 0, 5}, api.ErrEnd}, {[]byte{16, 1, 0, 8, 0, 8, 0}, api.ErrEnd}, {[]byte{16, 0, 0, 5, 1, 2}, api.ErrForm}, {[]byte{16, 1, 0, 8, 0, 8, 0, 9, 1}, api.ErrForm},
		{control(9, nine...), api.ErrMany}, {control(9), api.ErrMany}, {control(256), api.ErrMany}, {control(65535, 1), api.ErrMany},
		{control(1), api.ErrEnd}, {control(1, 0, 1, 0), api.ErrEnd}, {control(2, 0, 4, 0, 4), api.ErrEnd}, {control(1, 1, 1, 0, 4), api.ErrForm}, {control(1, 0, 1, 0, 3), api.ErrForm}, {control(1, 0, 9, 0, 4), api.ErrKind},
		{control(2, 0, 4, 0, 4, 0, 0, 0, 4), api.ErrKind}, {control(1, 0, 4, 0, 5), api.ErrEnd}, {control(1, 0, 4, 0, 4, 0), api.ErrForm}, {control(0, 0, 4, 0, 4), api.ErrForm}, {control(8, nine...), api.ErrForm},
	} {
		if p, e := packet.Parse(c.b); !same(p, api.Packet{}) || e != c.want {
			t.Errorf("Parse(%x): %v, %d, not %d", c.b, p, e, c.want)
		}
	}
	if p, e := packet.Parse(control(8, nine[:32]...)); len(p.Attrs) != 8 || e != api.OK {
		t.Errorf("of eight: %v, %d", p, e)
	}
}

// P18.3: which attributes each type has.
func TestCheck(t *testing.T) {
	all := []api.Attr{proto(), status(), binding(), ask()}
	var lists [][]api.Attr
	lists = append(lists, nil)
	for _, a := range all {
		lists = append(lists, []api.Attr{a}, []api.Attr{a, a}, []api.Attr{a, a, a}, []api.Attr{a, a, a, a})
		for _, b := range all {
			if a.ID != b.ID {
				lists = append(lists, []api.Attr{a, b}, []api.Attr{a, a, b})
			}
		}
	}
	fine := map[uint16][][]api.Attr{
		1: {{proto()}}, 2: {{ask()}}, 3: {{status()}, {status(), status()}, {status(), status(), status()}}, 4: {{binding()}}, 5: {nil, {status()}}, 6: {nil, {status()}}, 7: {nil}, 8: {nil}, 9: {nil},
	}
	for _, kind := range []uint16{0, 1, 2, 3, 4, 5, 6, 7, 8, 9, 10, 256, 257, 65535} {
		for _, l := range lists {
			want := api.ErrArg
			if fine[kind] == nil {
				want = api.ErrKind
			}
			p := api.Packet{Control: true, Type: kind, Attrs: l, Data: []byte{1}}
			for _, f := range fine[kind] {
				if same(p, api.Packet{Control: true, Type: kind, Attrs: f, Data: []byte{1}}) {
					want = api.OK
				}
			}
			if e := packet.Check(p); e != want {
				t.Errorf("type %d, %v: %d, not %d", kind, l, e, want)
			}
		}
	}
	for _, p := range []api.Packet{{}, {Type: 77, Attrs: all}, {Type: 7, Attrs: []api.Attr{{ID: 9}, {ID: 1}}}, {Data: []byte{1}}, packet.OfData(make([]byte, 9000))} {
		if e := packet.Check(p); e != api.OK {
			t.Errorf("of data: %d", e)
		}
	}
}

// P18.3: the first Check's error, behind the kinds.
func TestCheckAttrs(t *testing.T) {
	short, long := api.Attr{ID: 2}, api.Attr{ID: 2, Data: make([]byte, 99)}
	for _, c := range []struct {
		p    api.Packet
		want api.Errno
	}{
		{packet.Of(1, api.Attr{ID: 1}), api.ErrEnd}, {packet.Of(1, api.Attr{ID: 1, Data: make([]byte, 3)}), api.ErrForm}, {packet.Of(3, status(), short, long), api.ErrEnd}, {packet.Of(3, long, short), api.ErrForm},
		{packet.Of(3, short, proto()), api.ErrArg}, {packet.Of(1, api.Attr{ID: 9}), api.ErrArg}, {packet.Of(0, short), api.ErrKind}, {packet.Of(7, short), api.ErrArg}, {packet.Of(5, short), api.ErrEnd}, {packet.Of(6, long), api.ErrForm},
		{packet.Of(4, attr.OfBinding(attr.Binding{})), api.ErrForm}, {packet.Of(2, attr.OfAsk(attr.Ask{Methods: 4})), api.ErrForm},
	} {
		if e := packet.Check(c.p); e != c.want {
			t.Errorf("%v: %d, not %d", c.p, e, c.want)
		}
	}
}

// P18.3: the same have all the same.
func TestSame(t *testing.T) {
	l := append(packets(), api.Packet{}, api.Packet{Type: 8}, api.Packet{Control: true, Type: 8, Data: []byte{0}}, api.Packet{Control: true, Type: 8, Attrs: []api.Attr{proto()}}, api.Packet{Data: []byte{1}}, api.Packet{Attrs: []api.Attr{{}}},
		api.Packet{Control: true, Type: 1, Attrs: []api.Attr{attr.Proto(2)}}, api.Packet{Control: true, Type: 1, Attrs: []api.Attr{proto(), proto()}}, api.Packet{Control: true, Type: 1, Attrs: []api.Attr{{ID: 2, Data: []byte{0, 1}}}})
	for i, a := range l {
		for j, b := range l {
			if packet.Same(a, b) != (i == j) {
				t.Errorf("%d and %d", i, j)
			}
		}
	}
	if !packet.Same(api.Packet{}, api.Packet{Attrs: []api.Attr{}, Data: []byte{}}) {
		t.Error("nil and empty")
	}
}

// R4 of the document: nothing is written into what is handed in, and answers share nothing with it.
func TestNothingIsShared(t *testing.T) {
	a := proto()
	p := packet.Of(1, a)
	a.Data[0] = 99
	b := []byte{1, 2}
	q := packet.OfData(b)
	b[0] = 99
	if p.Attrs[0].Data[0] == 99 || q.Data[0] == 99 {
		t.Error("what is made is shared")
	}
	for _, x := range packets() {
		laid, _ := packet.Lay(x)
		y, _ := packet.Parse(laid)
		clear(laid)
		if !same(x, y) {
			t.Error("what is parsed is shared")
		}
	}
	x := api.Packet{Data: []byte{1, 2}}
	laid, _ := packet.Lay(x)
	laid[4] = 99
	if x.Data[0] != 1 {
		t.Error("what is laid is shared")
	}
}
