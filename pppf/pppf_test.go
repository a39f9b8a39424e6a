package pppf_test

import (
	"bytes"
	"testing"

	"euphroe/api"
	"euphroe/pppf"
)

func same(a, b api.Frame) bool { return a.Proto == b.Proto && bytes.Equal(a.Data, b.Data) }

// P20.1: the lower byte is odd, the higher one even; 00FF is none.
func TestMayAndKnown(t *testing.T) {
	if pppf.IP != 0x0021 || pppf.IPCP != 0x8021 || pppf.LCP != 0xC021 || pppf.CHAP != 0xC223 {
		t.Error("other numbers")
	}
	for n := range 0x10000 {
		p := uint16(n)
		if want := n%2 == 1 && n/256%2 == 0 && n != 255; pppf.May(p) != want {
			t.Fatalf("May(%04X): %v", n, !want)
		}
		if want := n == 0x21 || n == 0x8021 || n == 0xC021 || n == 0xC223; pppf.Known(p) != want {
			t.Fatalf("Known(%04X): %v", n, !want)
		}
	}
}

// P20.1: a frame's bytes, bare or not, short or not.
func TestLay(t *testing.T) {
	for _, c := range []struct {
		f           api.Frame
		bare, short bool
		want        []byte
	}{
		{api.Frame{Proto: 0x21}, true, true, []byte{0x21}},
		{api.Frame{Proto: 0x21}, true, false, []byte{0, 0x21}},
		{api.Frame{Proto: 0x21}, false, true, []byte{0xFF, 3, 0x21}},
		{api.Frame{Proto: 0x21, Data: []byte{7, 8}}, false, false, []byte{0xFF, 3, 0, 0x21, 7, 8}},
		{api.Frame{Proto: 0xC021, Data: []byte{1}}, true, true, []byte{0xC0, 0x21, 1}},
		{api.Frame{Proto: 0xC021, Data: []byte{1}}, false, false, []byte{0xFF, 3, 0xC0, 0x21, 1}},
		{api.Frame{Proto: 0xFD, Data: []byte{1}}, true, true, []byte{0xFD, 1}},
		{api.Frame{Proto: 0x0201}, true, true, []byte{2, 1}},
		{api.Frame{Proto: 0xFEFF}, true, true, []byte{0xFE, 0xFF}},
	} {
		if b, e := pppf.Lay(c.f, c.bare, c.short); !bytes.Equal(b, c.want) || e != api.OK {
			t.Errorf("Lay(%v, %v, %v): %x, %d", c.f, c.bare, c.short, b, e)
		}
	}
}

// P20.1: a number that is none, ahead of too many data.
func TestLayRefuses(t *testing.T) {
	for _, c := range []struct {
		proto uint16
		size  int
		want  api.Errno
	}{
		{0, 0, api.ErrForm}, {0x20, 5, api.ErrForm}, {0xFF, 1, api.ErrForm}, {0x0121, 1, api.ErrForm}, {0xC020, 4001, api.ErrForm}, {0x21, 4001, api.ErrBig}, {0xC021, 70000, api.ErrBig}, {0x21, 4000, api.OK},
	} {
		for _, bare := range []bool{false, true} {
			for _, short := range []bool{false, true} {
				b, e := pppf.Lay(api.Frame{Proto: c.proto, Data: make([]byte, c.size)}, bare, short)
				if e != c.want || e != api.OK && len(b) != 0 {
					t.Errorf("%04X of %d: %d bytes, %d", c.proto, c.size, len(b), e)
				}
			}
		}
	}
}

// P20.3: what is laid is parsed, of each number, whether it is bare or short.
func TestRound(t *testing.T) {
	for n := range 0x10000 {
		if !pppf.May(uint16(n)) {
			continue
		}
		for kind := range 4 {
			f := api.Frame{Proto: uint16(n), Data: []byte{0xFF, 3, byte(n), 0}[:n%5%4]}
			b, _ := pppf.Lay(f, kind&1 == 1, kind&2 == 2)
			if got, e := pppf.Parse(b); !same(got, f) || e != api.OK {
				t.Fatalf("%04X, %d: %x, %v, %d", n, kind, b, got, e)
			}
		}
	}
	f := api.Frame{Proto: 0x21, Data: bytes.Repeat([]byte{0xFF, 3}, 2000)}
	b, _ := pppf.Lay(f, false, false)
	if got, e := pppf.Parse(b); !same(got, f) || e != api.OK {
		t.Errorf("of 4000 bytes: %d", e)
	}
}

// P20.2: what is parsed, and each error, and which of two comes first.
func TestParse(t *testing.T) {
	long := make([]byte, 4001)
	for _, c := range []struct {
		b     []byte
		proto uint16
		data  []byte
		want  api.Errno
	}{
		{[]byte{0xFF, 3, 0x21, 1}, 0x21, []byte{1}, api.OK}, {[]byte{0xFF, 3, 0, 0x21}, 0x21, nil, api.OK}, {[]byte{3, 0xFF}, 3, []byte{0xFF}, api.OK}, {[]byte{1}, 1, nil, api.OK}, {[]byte{0, 1}, 1, nil, api.OK}, {[]byte{0xFE, 0xFF}, 0xFEFF, nil, api.OK},
		{nil, 0, nil, api.ErrEnd}, {[]byte{0xFF, 3}, 0, nil, api.ErrEnd}, {[]byte{0}, 0, nil, api.ErrEnd}, {[]byte{0xC0}, 0, nil, api.ErrEnd}, {[]byte{0xFF, 3, 0xC0}, 0, nil, api.ErrEnd},
		{[]byte{0xFF}, 0, nil, api.ErrForm}, {[]byte{0xFF, 4, 0x21}, 0, nil, api.ErrForm}, {[]byte{0xFF, 3, 0xFF, 3, 0x21}, 0, nil, api.ErrForm}, {[]byte{0, 0xFF, 1}, 0, nil, api.ErrForm}, {[]byte{0, 0x20}, 0, nil, api.ErrForm}, {[]byte{0xC0, 0x22, 1}, 0, nil, api.ErrForm},
		{append([]byte{0, 0x20}, long...), 0, nil, api.ErrForm}, {append([]byte{0x21}, long...), 0, nil, api.ErrBig}, {append([]byte{0xFF, 3, 0xC0, 0x21}, long...), 0, nil, api.ErrBig}, {append([]byte{0x21}, long[1:]...), 0x21, long[1:], api.OK}, {append([]byte{0xFF, 3, 0, 0x21}, long[1:]...), 0x21, long[1:], api.OK},
	} {
		if got, e := pppf.Parse(c.b); got.Proto != c.proto || !bytes.Equal(got.Data, c.data) || e != c.want {
			t.Errorf("Parse(%x): %v, %d, not %d", c.b[:min(len(c.b), 8)], got.Proto, e, c.want)
		}
	}
}

// P20.1: the same have one number and the same data.
func TestSame(t *testing.T) {
	l := []api.Frame{{}, {Proto: 0x21}, {Proto: 0x21, Data: []byte{1}}, {Proto: 0x21, Data: []byte{2}}, {Proto: 0x21, Data: []byte{1, 0}}, {Proto: 0xC021, Data: []byte{1}}}
	for i, a := range l {
		for j, b := range l {
			if pppf.Same(a, b) != (i == j) {
				t.Errorf("%d and %d", i, j)
			}
		}
	}
	if !pppf.Same(api.Frame{}, api.Frame{Data: []byte{}}) {
		t.Error("nil and empty")
	}
}

// R4 of the document: nothing is written into what is handed in, and answers share nothing with it.
func TestNothingIsShared(t *testing.T) {
	b := []byte{0xFF, 3, 0x21, 1, 2}
	f, _ := pppf.Parse(b)
	if !bytes.Equal(b, []byte{0xFF, 3, 0x21, 1, 2}) {
		t.Error("written into")
	}
	clear(b)
	if !bytes.Equal(f.Data, []byte{1, 2}) {
		t.Error("shared")
	}
	data := []byte{5}
	laid, _ := pppf.Lay(api.Frame{Proto: 0x21, Data: data}, true, true)
	laid[1] = 9
	again, _ := pppf.Lay(api.Frame{Proto: 0x21}, false, false)
	again[0] = 1
	third, _ := pppf.Lay(api.Frame{Proto: 0x21}, false, false)
	if data[0] != 5 || third[0] != 0xFF {
		t.Error("shared")
	}
}
