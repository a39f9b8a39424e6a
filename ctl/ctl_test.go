package ctl_test

import (
	"bytes"
	"math"
	"slices"
	"testing"

	"euphroe/api"
	"euphroe/ctl"
)

func same(a, b api.Control) bool {
	return a.Code == b.Code && a.ID == b.ID && bytes.Equal(a.Data, b.Data)
}

// row are n bytes that go on.
func row(n int) []byte {
	b := make([]byte, n)
	for i := range b {
		b[i] = byte(i + 1)
	}
	return b
}

// The codes' numbers.
func TestCodes(t *testing.T) {
	got := [11]byte{ctl.ConfReq, ctl.ConfAck, ctl.ConfNak, ctl.ConfRej, ctl.TermReq, ctl.TermAck, ctl.CodeRej, ctl.ProtoRej, ctl.EchoReq, ctl.EchoRep, ctl.Discard}
	if got != [11]byte{1, 2, 3, 4, 5, 6, 7, 8, 9, 10, 11} {
		t.Error(got)
	}
}

// P22.1: a packet's bytes; too many data are refused.
func TestLay(t *testing.T) {
	for _, c := range []struct {
		c    api.Control
		want []byte
	}{
		{api.Control{Code: 6, ID: 7}, []byte{6, 7, 0, 4}},
		{api.Control{Code: 255, ID: 1, Data: []byte{9, 8}}, []byte{255, 1, 0, 6, 9, 8}},
		{api.Control{Data: row(300)}, append([]byte{0, 0, 1, 48}, row(300)...)},
		{api.Control{Code: 1, Data: row(4000)}, append([]byte{1, 0, 15, 164}, row(4000)...)},
	} {
		if b, e := ctl.Lay(c.c); !bytes.Equal(b, c.want) || e != api.OK {
			t.Errorf("%d of %d: %x, %d", c.c.Code, len(c.c.Data), b[:min(len(b), 8)], e)
		}
	}
	for _, n := range []int{4001, 5000, 70000} {
		if b, e := ctl.Lay(api.Control{Code: 1, Data: make([]byte, n)}); len(b) != 0 || e != api.ErrBig {
			t.Errorf("of %d: %d bytes, %d", n, len(b), e)
		}
	}
}

// P22.1, P22.4: what is laid is parsed, whatever padding stands behind.
func TestRound(t *testing.T) {
	for code := range 256 {
		for _, n := range []int{0, 1, 2, 255, 4000} {
			c := api.Control{Code: byte(code), ID: byte(code * 7), Data: row(n)}
			b, _ := ctl.Lay(c)
			for _, padding := range []int{0, 1, 5000} {
				if got, e := ctl.Parse(append(bytes.Clone(b), make([]byte, padding)...)); !same(got, c) || e != api.OK {
					t.Fatalf("%d of %d, padding %d: %d", code, n, padding, e)
				}
			}
		}
	}
	b, _ := ctl.Lay(api.Control{Code: 3, Data: row(40)})
	for i := range b {
		if got, e := ctl.Parse(b[:i]); !same(got, api.Control{}) || e != api.ErrEnd {
			t.Errorf("the first %d: %v, %d", i, got, e)
		}
	}
}

// P22.1: each error, and which of two comes first.
func TestParseRefuses(t *testing.T) {
	for _, c := range []struct {
		b    []byte
		want api.Errno
	}{
		{nil, api.ErrEnd}, {[]byte{1, 1, 0}, api.ErrEnd}, {[]byte{1, 1, 0, 3}, api.ErrForm}, {[]byte{1, 1, 0, 0, 5, 5}, api.ErrForm}, {[]byte{1, 1, 0, 5}, api.ErrEnd}, {[]byte{1, 1, 255, 255, 1}, api.ErrEnd},
		{append([]byte{1, 1, 15, 165}, make([]byte, 4001)...), api.ErrBig}, {append([]byte{1, 1, 15, 165}, make([]byte, 4000)...), api.ErrEnd}, {append([]byte{1, 1, 255, 255}, make([]byte, 65531)...), api.ErrBig},
	} {
		if got, e := ctl.Parse(c.b); !same(got, api.Control{}) || e != c.want {
			t.Errorf("Parse(%x): %d, not %d", c.b[:min(len(c.b), 8)], e, c.want)
		}
	}
}

// P22.1: the same have all the same.
func TestSame(t *testing.T) {
	l := []api.Control{{}, {Code: 1}, {ID: 1}, {Data: []byte{0}}, {Code: 1, ID: 1, Data: []byte{1}}, {Code: 1, ID: 1, Data: []byte{2}}, {Code: 1, ID: 1, Data: []byte{1, 1}}}
	for i, a := range l {
		for j, b := range l {
			if ctl.Same(a, b) != (i == j) {
				t.Errorf("%d and %d", i, j)
			}
		}
	}
	if !ctl.Same(api.Control{}, api.Control{Data: []byte{}}) {
		t.Error("nil and empty")
	}
}

// P22.2: packets of options, of four codes alone.
func TestConfAndOptions(t *testing.T) {
	l := []api.Option{{Type: 1, Data: []byte{5, 120}}, {Type: 7}}
	many := slices.Repeat([]api.Option{{Type: 7}}, 33)
	big := []api.Option{{Data: make([]byte, 254)}}
	for n := range 256 {
		code := byte(n)
		c, e := ctl.Conf(code, 9, l)
		got, e2 := ctl.Options(api.Control{Code: code, ID: 3, Data: []byte{1, 4, 5, 120, 7, 2}})
		_, e3 := ctl.Conf(code, 9, many)
		_, e4 := ctl.Conf(code, 9, big)
		_, e5 := ctl.Options(api.Control{Code: code, Data: []byte{1}})
		_, e6 := ctl.Options(api.Control{Code: code, Data: []byte{1, 1}})
		errs := [6]api.Errno{e, e2, e3, e4, e5, e6}
		if n < 1 || n > 4 {
			if !same(c, api.Control{}) || len(got) != 0 || errs != [6]api.Errno{api.ErrKind, api.ErrKind, api.ErrKind, api.ErrKind, api.ErrKind, api.ErrKind} {
				t.Errorf("%d: %v, %v, %v", n, c, got, errs)
			}
			continue
		}
		if !same(c, api.Control{Code: code, ID: 9, Data: []byte{1, 4, 5, 120, 7, 2}}) || errs != [6]api.Errno{0, 0, api.ErrMany, api.ErrBig, api.ErrEnd, api.ErrForm} {
			t.Errorf("%d: %v, %v", n, c, errs)
		}
		if len(got) != 2 || got[0].Type != 1 || !bytes.Equal(got[0].Data, []byte{5, 120}) || got[1].Type != 7 || len(got[1].Data) != 0 {
			t.Errorf("%d: %v", n, got)
		}
	}
	if c, e := ctl.Conf(2, 1, nil); !same(c, api.Control{Code: 2, ID: 1}) || e != api.OK {
		t.Error(c, e)
	}
	if c, e := ctl.Conf(1, 1, many); !same(c, api.Control{}) || e != api.ErrMany {
		t.Error(c, e)
	}
	if l, e := ctl.Options(api.Control{Code: 1, Data: []byte{7, 2, 7}}); len(l) != 0 || e != api.ErrEnd {
		t.Error(l, e)
	}
}

// P22.3: what is rejected, cut to what fits.
func TestReject(t *testing.T) {
	whole := append([]byte{99, 7, 0, 14}, row(10)...)
	proto := append([]byte{0x12, 0x35}, row(10)...)
	for _, most := range []int{math.MinInt, math.MinInt + 3, -5, -1, 0, 3, 4, 5, 6, 8, 15, 16, 17, 18, 19, 1400, math.MaxInt} {
		left := max(0, most)
		left = max(0, left-4)
		if c := ctl.Reject(5, api.Control{Code: 99, ID: 7, Data: row(10)}, most); !same(c, api.Control{Code: 7, ID: 5, Data: whole[:min(left, 14)]}) {
			t.Errorf("Reject of %d: %v", most, c)
		}
		if c := ctl.Proto(6, api.Frame{Proto: 0x1235, Data: row(10)}, most); !same(c, api.Control{Code: 8, ID: 6, Data: proto[:min(left, 12)]}) {
			t.Errorf("Proto of %d: %v", most, c)
		}
		if c := ctl.Reject(5, api.Control{Code: 99, Data: make([]byte, 4001)}, most); !same(c, api.Control{Code: 7, ID: 5}) {
			t.Errorf("of what can't be laid: %v", c)
		}
	}
	if c := ctl.Proto(1, api.Frame{Data: make([]byte, 9000)}, 9006); len(c.Data) != 9002 {
		t.Error(len(c.Data))
	}
	if c := ctl.Reject(1, api.Control{Data: make([]byte, 4000)}, 1400); len(c.Data) != 1396 {
		t.Error(len(c.Data))
	}
}

// P22.3: numbers ahead of data.
func TestMagicAndEcho(t *testing.T) {
	c := ctl.Echo(9, 3, 0xF1020304, []byte{5, 6})
	if !same(c, api.Control{Code: 9, ID: 3, Data: []byte{0xF1, 2, 3, 4, 5, 6}}) {
		t.Error(c)
	}
	if n, rest, e := ctl.Magic(c); n != 0xF1020304 || !bytes.Equal(rest, []byte{5, 6}) || e != api.OK {
		t.Error(n, rest, e)
	}
	if n, rest, e := ctl.Magic(ctl.Echo(200, 3, 7, nil)); n != 7 || len(rest) != 0 || e != api.OK {
		t.Error(n, rest, e)
	}
	for i := range 4 {
		if n, rest, e := ctl.Magic(api.Control{Code: 9, Data: row(i)}); n != 0 || len(rest) != 0 || e != api.ErrEnd {
			t.Error(i, n, rest, e)
		}
	}
}

// R4 of the document: nothing is written into what is handed in, and answers share nothing with it.
func TestNothingIsShared(t *testing.T) {
	b := []byte{1, 2, 0, 6, 9, 9}
	c, _ := ctl.Parse(b)
	clear(b)
	_, rest, _ := ctl.Magic(api.Control{Data: c.Data})
	if !bytes.Equal(c.Data, []byte{9, 9}) || len(rest) != 0 {
		t.Error(c)
	}
	x := api.Control{Code: 9, Data: row(8)}
	laid, _ := ctl.Lay(x)
	_, rest, _ = ctl.Magic(x)
	rejected := ctl.Reject(1, x, 100)
	proto := ctl.Proto(1, api.Frame{Data: x.Data}, 100)
	echo := ctl.Echo(9, 1, 1, x.Data)
	for _, l := range [][]byte{laid, rest, rejected.Data, proto.Data, echo.Data} {
		for i := range l {
			l[i] = 77
		}
	}
	if !bytes.Equal(x.Data, row(8)) {
		t.Error(x)
	}
}
