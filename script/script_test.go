package script_test

import (
	"bytes"
	"crypto/sha256"
	"encoding/binary"
	"math"
	"reflect"
	"slices"
	"strings"
	"testing"

	"euphroe/api"
	"euphroe/chaps"
	"euphroe/script"
	"euphroe/table"
	"euphroe/world"
)

// row are n bytes that go on from first.
func row(first byte, n int) []byte {
	b := make([]byte, n)
	for i := range b {
		b[i] = first + byte(i)
	}
	return b
}

// full is an event all of whose fields are unlike.
func full() world.Event {
	return world.Event{
		Kind: 8, Chan: 1, Other: 2, Way: 3, N: 0x04050607, Hash: [32]byte(row(10, 32)), Draw: table.Draw{Nonce: [32]byte(row(50, 32)), Chal: [16]byte(row(90, 16)), Magic: 0xF1F2F3F4},
		Peer: [16]byte(row(120, 16)), Magic: 0xE1E2E3E4, Addr: 0xD1D2D3D4, Name: "ann\xff", Password: "secret", Data: []byte{0, 255},
	}
}

// fullBytes are its bytes.
func fullBytes() []byte {
	return slices.Concat([]byte{8, 1, 2, 3, 4, 5, 6, 7}, row(10, 32), row(50, 32), row(90, 16), []byte{0xF1, 0xF2, 0xF3, 0xF4}, row(120, 16), []byte{0xE1, 0xE2, 0xE3, 0xE4, 0xD1, 0xD2, 0xD3, 0xD4},
		[]byte{0, 4}, []byte("ann\xff"), []byte{0, 6}, []byte("secret"), []byte{0, 2, 0, 255})
}

// sealed are a script's bytes, that tells so many events.
func sealed(many int, events ...[]byte) []byte {
	b := slices.Concat(binary.BigEndian.AppendUint16([]byte("EU"), uint16(many)), slices.Concat(events...))
	d := sha256.Sum256(b)
	return append(b, d[:8]...)
}

// greatest is an event of the greatest size.
func greatest() world.Event {
	return world.Event{Kind: 12, Chan: 255, Other: 255, Way: 255, N: math.MaxInt32, Name: strings.Repeat("n", 64), Password: strings.Repeat("p", 256), Data: make([]byte, 2000)}
}

// turned are events of which each has one field that the full one has not.
func turned() []world.Event {
	l := make([]world.Event, 14)
	for i := range l {
		l[i] = full()
	}
	l[1].Kind, l[2].Chan, l[3].Other, l[4].Way, l[5].N = 9, 9, 9, 9, 9
	l[6].Hash[31], l[7].Draw.Nonce[31], l[8].Draw.Chal[15], l[9].Draw.Magic, l[10].Peer[15], l[11].Magic, l[12].Addr = 1, 1, 1, 1, 1, 1, 1
	l[13].Name = "eve"
	a, b, c := full(), full(), full()
	a.Password, b.Data, c.Data = "", []byte{0, 254}, nil
	return append(l, a, b, c)
}

// P40.1: each field's bounds, and which of two errors comes first.
func TestMay(t *testing.T) {
	ok := []world.Event{full(), greatest(), {Kind: 1}}
	for _, x := range ok {
		if e := script.May(x); e != api.OK {
			t.Error(x, e)
		}
	}
	for kind := -3; kind < 20; kind++ {
		if e := script.May(world.Event{Kind: kind}); (e == api.OK) != (kind >= 1 && kind <= 12) || e != api.OK && e != api.ErrKind {
			t.Error(kind, e)
		}
	}
	long := strings.Repeat("x", 3000)
	for i, c := range []struct {
		x    world.Event
		want api.Errno
	}{
		{world.Event{Kind: 0, Chan: -1, Name: long}, api.ErrKind}, {world.Event{Kind: math.MaxInt}, api.ErrKind}, {world.Event{Kind: 256 + 1}, api.ErrKind},
		{world.Event{Kind: 1, Chan: -1, Name: long}, api.ErrArg}, {world.Event{Kind: 1, Chan: 256}, api.ErrArg}, {world.Event{Kind: 1, Other: -1}, api.ErrArg}, {world.Event{Kind: 1, Other: 256}, api.ErrArg}, {world.Event{Kind: 1, Way: -1}, api.ErrArg}, {world.Event{Kind: 1, Way: 256}, api.ErrArg},
		{world.Event{Kind: 1, N: -1}, api.ErrArg}, {world.Event{Kind: 1, N: 1 << 31}, api.ErrArg}, {world.Event{Kind: 1, N: math.MinInt}, api.ErrArg},
		{world.Event{Kind: 1, Name: long[:65]}, api.ErrBig}, {world.Event{Kind: 1, Password: long[:257]}, api.ErrBig}, {world.Event{Kind: 1, Data: []byte(long[:2001])}, api.ErrBig},
	} {
		if e := script.May(c.x); e != c.want {
			t.Error(i, e, c.want)
		}
	}
}

// P40.1: a script's bytes.
func TestLay(t *testing.T) {
	for i, c := range []struct {
		l    []world.Event
		want []byte
	}{{nil, sealed(0)}, {[]world.Event{full()}, sealed(1, fullBytes())}, {[]world.Event{full(), {Kind: 6}, full()}, sealed(3, fullBytes(), append([]byte{6}, make([]byte, 121)...), fullBytes())}} {
		if b, e := script.Lay(c.l); !bytes.Equal(b, c.want) || e != api.OK {
			t.Errorf("%d: %x, %d, not %x", i, b, e, c.want)
		}
	}
	if b, _ := script.Lay(nil); len(b) != 12 {
		t.Error(len(b))
	}
	for i, c := range []struct {
		l    []world.Event
		want api.Errno
	}{{slices.Repeat([]world.Event{{Kind: 6}}, 2001), api.ErrMany}, {make([]world.Event, 2001), api.ErrMany}, {[]world.Event{{Kind: 6}, {Kind: 6, N: -1}, {}}, api.ErrArg}, {[]world.Event{{}, {Kind: 6, N: -1}}, api.ErrKind}, {[]world.Event{{Kind: 1, Name: strings.Repeat("x", 65)}, {}}, api.ErrBig}} {
		if b, e := script.Lay(c.l); len(b) != 0 || e != c.want {
			t.Error(i, len(b), e)
		}
	}
}

// P40.4: what is laid is parsed; what is parsed is laid as the same.
func TestRound(t *testing.T) {
	for i, l := range [][]world.Event{nil, {full()}, turned(), {greatest(), {Kind: 1}, greatest()}, slices.Repeat([]world.Event{{Kind: 6}}, 2000)} {
		b, e := script.Lay(l)
		if e != api.OK {
			t.Fatal(i, e)
		}
		got, e := script.Parse(b)
		if e != api.OK || !slices.EqualFunc(got, l, script.Same) {
			t.Errorf("%d: %d, %d events", i, e, len(got))
		}
		if again, e := script.Lay(got); !bytes.Equal(again, b) || e != api.OK {
			t.Errorf("%d laid again: %d", i, e)
		}
		for n := 0; n < len(b); n += 1 + len(b)/300 {
			want := api.ErrMac
			if n < 12 {
				want = api.ErrEnd
			}
			if got, e := script.Parse(b[:n]); len(got) != 0 || e != want {
				t.Fatalf("%d: the first %d of %d: %d", i, n, len(b), e)
			}
		}
	}
	got, _ := script.Parse(sealed(1, fullBytes()))
	if !reflect.DeepEqual(got, []world.Event{full()}) {
		t.Error(got)
	}
}

// P40.2: each error, and which of two comes first.
func TestParseRefuses(t *testing.T) {
	one := fullBytes()
	set := func(place int, b ...byte) []byte {
		x := bytes.Clone(one)
		copy(x[place:], b)
		return x
	}
	fixed := append([]byte{1}, make([]byte, 115)...)
	long := func(name, password, data int) []byte {
		b := bytes.Clone(fixed)
		for _, n := range []int{name, password, data} {
			b = append(binary.BigEndian.AppendUint16(b, uint16(n)), make([]byte, n)...)
		}
		return b
	}
	mac := sealed(1, one)
	mac[len(mac)-1]++
	turnedByte := sealed(1, one)
	turnedByte[20]++
	for i, c := range []struct {
		b    []byte
		want api.Errno
	}{
		{nil, api.ErrEnd}, {[]byte("XX012345678"), api.ErrEnd}, {[]byte("UE0123456789"), api.ErrForm}, {[]byte("Eu0123456789"), api.ErrForm}, {[]byte("EU0123456789"), api.ErrMac}, {mac, api.ErrMac}, {turnedByte, api.ErrMac},
		{sealed(2001), api.ErrMany}, {sealed(65535, one), api.ErrMany}, {sealed(1), api.ErrEnd}, {sealed(2, one), api.ErrEnd}, {sealed(2000, one, one), api.ErrEnd},
		{sealed(1, []byte{0}), api.ErrKind}, {sealed(1, []byte{13}), api.ErrKind}, {sealed(1, []byte{255, 1}), api.ErrKind}, {sealed(2, one, []byte{0}), api.ErrKind}, {sealed(1, set(0, 0)), api.ErrKind},
		{sealed(1, []byte{1}), api.ErrEnd}, {sealed(1, fixed), api.ErrEnd}, {sealed(1, fixed[:115]), api.ErrEnd}, {sealed(1, one[:len(one)-1]), api.ErrEnd}, {sealed(1, one[:len(one)-3]), api.ErrEnd}, {sealed(1, append(bytes.Clone(fixed), 0, 0, 0, 0, 0)), api.ErrEnd},
		{sealed(1, set(4, 128)), api.ErrArg}, {sealed(1, set(4, 255, 255, 255, 255)), api.ErrArg}, {sealed(1, set(4, 128)[:50]), api.ErrEnd},
		{sealed(1, long(65, 0, 0)), api.ErrBig}, {sealed(1, long(0, 257, 0)), api.ErrBig}, {sealed(1, long(0, 0, 2001)), api.ErrBig}, {sealed(1, long(65535, 0, 0)), api.ErrBig}, {sealed(1, long(65, 0, 0)[:120]), api.ErrEnd}, {sealed(1, long(65, 0, 9)[:190]), api.ErrEnd},
		{sealed(0, []byte{0}), api.ErrForm}, {sealed(0, one), api.ErrForm}, {sealed(1, one, []byte{1}), api.ErrForm}, {sealed(1, one, one), api.ErrForm}, {sealed(1, long(65, 0, 0), one), api.ErrBig},
	} {
		if l, e := script.Parse(c.b); len(l) != 0 || e != c.want {
			t.Errorf("%d: %d events, %d, not %d", i, len(l), e, c.want)
		}
	}
	if l, e := script.Parse(sealed(1, long(64, 256, 2000))); len(l) != 1 || e != api.OK {
		t.Error(e)
	}
	both := set(4, 128)
	both[117] = 65 // a name of 65, that is there
	both = slices.Concat(both[:118], make([]byte, 65), []byte{0, 0, 0, 0})
	if _, e := script.Parse(sealed(1, both)); e != api.ErrArg {
		t.Error("ErrArg ahead of ErrBig", e)
	}
}

// P40.1: the same have all the same.
func TestSame(t *testing.T) {
	l := append(turned(), world.Event{}, world.Event{Kind: -5, Chan: -7, N: math.MinInt})
	for i, a := range l {
		for j, b := range l {
			if script.Same(a, b) != (i == j) {
				t.Errorf("%d and %d", i, j)
			}
		}
	}
	if !script.Same(world.Event{}, world.Event{Data: []byte{}}) {
		t.Error("nil and empty")
	}
}

// P40.3: what is noted of each event, in order.
func TestPlay(t *testing.T) {
	make1 := func() *world.World {
		w, e := world.New(table.Config{Name: "srv", Users: []chaps.User{{Name: "ann", Password: "secret"}}, Own: 1, First: 9, Many: 2, Max: 2})
		if e != api.OK {
			t.Fatal(e)
		}
		return w
	}
	l := []world.Event{{Kind: 1, Name: "ann", Password: "secret", Magic: 5}, {Kind: 3}, {Kind: 7, Chan: 1, Data: []byte("\x00")}}
	for range 12 {
		l = append(l, world.Event{Kind: 4, N: 9999}, world.Event{Kind: 5, N: 9999})
	}
	l = append(l, world.Event{Kind: 4, Chan: 1, N: 1}, world.Event{Kind: 9, Addr: 1, Data: []byte("12345")}, world.Event{Kind: 4, N: 9999}, world.Event{Kind: 10, Data: []byte("1")}, world.Event{Kind: 5, N: 9999})
	w := make1()
	var want []world.Note
	for _, x := range l {
		want = append(want, w.Do(x)...)
	}
	got := script.Play(make1(), l)
	if !reflect.DeepEqual(got, want) {
		t.Error(got, want)
	}
	if s := script.Text(got); s != "client 0 bound\nserver 0 bound\nserver 1 closed\nserver 0 data 25\nclient 0 data 21\n" {
		t.Errorf("%q", s)
	}
	b, _ := script.Lay(l)
	parsed, _ := script.Parse(b)
	if again := script.Play(make1(), parsed); !reflect.DeepEqual(again, want) {
		t.Error(again)
	}
	if len(script.Play(make1(), nil)) != 0 || len(script.Play(nil, l)) != 0 || len(script.Play(&world.World{}, l)) != 0 {
		t.Error("of nothing")
	}
}

// P40.3: a line of each note.
func TestText(t *testing.T) {
	for i, c := range []struct {
		l    []world.Note
		want string
	}{
		{nil, ""}, {[]world.Note{{}}, "server 0 ?\n"}, {[]world.Note{{Client: true, Chan: 15, What: 1}}, "client 15 bound\n"}, {[]world.Note{{What: 2, Data: []byte{1}}}, "server 0 closed\n"}, {[]world.Note{{Chan: -3, What: 3}}, "server -3 data 0\n"},
		{[]world.Note{{What: 4}, {What: -1, Data: []byte{1}}, {What: math.MaxInt}, {What: math.MinInt}}, "server 0 ?\nserver 0 ?\nserver 0 ?\nserver 0 ?\n"}, {[]world.Note{{Client: true, What: 3, Data: make([]byte, 1234)}, {What: 1}}, "client 0 data 1234\nserver 0 bound\n"},
	} {
		if got := script.Text(c.l); got != c.want {
			t.Errorf("%d: %q, not %q", i, got, c.want)
		}
	}
}

// R4 of the document: nothing is written into what is handed in, and answers share nothing with it.
func TestNothingIsShared(t *testing.T) {
	b := sealed(1, fullBytes())
	l, _ := script.Parse(b)
	clear(b)
	if !reflect.DeepEqual(l, []world.Event{full()}) {
		t.Error(l)
	}
	x := []world.Event{full()}
	laid, _ := script.Lay(x)
	clear(laid)
	if !reflect.DeepEqual(x, []world.Event{full()}) {
		t.Error(x)
	}
}
