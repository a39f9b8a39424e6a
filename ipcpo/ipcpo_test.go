package ipcpo_test

import (
	"bytes"
	"slices"
	"strings"
	"testing"

	"euphroe/api"
	"euphroe/ipcpo"
)

// o is an option.
func o(kind byte, data ...byte) api.Option { return api.Option{Type: kind, Data: data} }

func same(a, b []api.Option) bool {
	return slices.EqualFunc(a, b, func(x, y api.Option) bool { return x.Type == y.Type && bytes.Equal(x.Data, y.Data) })
}

// server gives 10.0.0.9, and names 10.0.0.53.
func server() ipcpo.Side {
	return ipcpo.Side{Server: true, Own: 0x0A000001, Give: 0x0A000009, DNS: 0x0A000035}
}

// P26.1: what a side asks for.
func TestOptions(t *testing.T) {
	if ipcpo.Addr != 3 || ipcpo.Names != 129 {
		t.Error("other numbers")
	}
	own := o(3, 10, 0, 0, 1)
	for _, c := range []struct {
		s    ipcpo.Side
		want []api.Option
	}{
		{server(), []api.Option{own}}, {ipcpo.Side{Server: true, Own: 0x0A000001, DNS: 7, Asks: true}, []api.Option{own}}, {ipcpo.Side{Server: true}, []api.Option{o(3, 0, 0, 0, 0)}},
		{ipcpo.Side{}, []api.Option{o(3, 0, 0, 0, 0)}}, {ipcpo.Side{Own: 0x0A000001, Give: 9, DNS: 8}, []api.Option{own}}, {ipcpo.Side{Asks: true}, []api.Option{o(3, 0, 0, 0, 0), o(129, 0, 0, 0, 0)}},
		{ipcpo.Side{Own: 0x0A000001, DNS: 0xF1020304, Asks: true}, []api.Option{own, o(129, 0xF1, 2, 3, 4)}},
	} {
		if got := ipcpo.Options(c.s); !same(got, c.want) {
			t.Errorf("Options(%v): %v", c.s, got)
		}
	}
}

// P26.1: how a server judges.
func TestServerJudges(t *testing.T) {
	give, names := o(3, 10, 0, 0, 9), o(129, 10, 0, 0, 53)
	without := server()
	without.DNS = 0
	for _, c := range []struct {
		s    ipcpo.Side
		l    []api.Option
		code byte
		want []api.Option
	}{
		{server(), nil, 2, nil}, {server(), []api.Option{give}, 2, []api.Option{give}}, {server(), []api.Option{names, give}, 2, []api.Option{names, give}}, {without, []api.Option{give}, 2, []api.Option{give}},
		{server(), []api.Option{o(3, 0, 0, 0, 0)}, 3, []api.Option{give}}, {server(), []api.Option{o(129, 0, 0, 0, 0)}, 3, []api.Option{names}}, {server(), []api.Option{o(129, 1, 1, 1, 1), o(3, 10, 0, 0, 8)}, 3, []api.Option{names, give}},
		{server(), []api.Option{give, o(129, 0, 0, 0, 0)}, 3, []api.Option{names}}, {server(), []api.Option{o(3, 0, 0, 0, 0), names}, 3, []api.Option{give}}, {server(), []api.Option{o(3, 10, 0, 0, 53)}, 3, []api.Option{give}},
		{server(), []api.Option{o(2), o(130, 1, 2, 3, 4), o(1)}, 4, []api.Option{o(2), o(130, 1, 2, 3, 4), o(1)}}, {server(), []api.Option{give, give}, 4, []api.Option{give}}, {server(), []api.Option{o(3, 0, 0, 0, 0), o(129), o(129, 10, 0, 0, 53)}, 4, []api.Option{o(129), names}},
		{server(), []api.Option{o(3), o(129, 1, 2, 3)}, 4, []api.Option{o(3), o(129, 1, 2, 3)}}, {server(), []api.Option{o(3, 10, 0, 0, 9, 0)}, 4, []api.Option{o(3, 10, 0, 0, 9, 0)}},
		{without, []api.Option{give, o(129, 0, 0, 0, 0)}, 4, []api.Option{o(129, 0, 0, 0, 0)}}, {without, []api.Option{o(3, 0, 0, 0, 0), o(129, 1, 1, 1, 1)}, 4, []api.Option{o(129, 1, 1, 1, 1)}},
		{ipcpo.Side{Server: true}, []api.Option{o(3, 0, 0, 0, 0)}, 2, []api.Option{o(3, 0, 0, 0, 0)}}, {ipcpo.Side{Server: true}, []api.Option{give}, 3, []api.Option{o(3, 0, 0, 0, 0)}},
	} {
		if code, got := ipcpo.Judge(c.s, c.l); code != c.code || !same(got, c.want) {
			t.Errorf("Judge(%v, %v): %d, %v, not %d, %v", c.s, c.l, code, got, c.code, c.want)
		}
	}
}

// P26.1: how a client judges.
func TestClientJudges(t *testing.T) {
	addr := o(3, 1, 2, 3, 4)
	for _, c := range []struct {
		l    []api.Option
		code byte
		want []api.Option
	}{
		{nil, 2, nil}, {[]api.Option{addr}, 2, []api.Option{addr}}, {[]api.Option{o(3, 0, 0, 0, 1)}, 2, []api.Option{o(3, 0, 0, 0, 1)}},
		{[]api.Option{o(3, 0, 0, 0, 0)}, 4, []api.Option{o(3, 0, 0, 0, 0)}}, {[]api.Option{addr, o(129, 1, 2, 3, 4)}, 4, []api.Option{o(129, 1, 2, 3, 4)}}, {[]api.Option{addr, addr}, 4, []api.Option{addr}}, {[]api.Option{o(3, 1, 2, 3), addr}, 4, []api.Option{o(3, 1, 2, 3), addr}},
		{[]api.Option{o(3)}, 4, []api.Option{o(3)}}, {[]api.Option{o(3, 1, 2, 3, 4, 5)}, 4, []api.Option{o(3, 1, 2, 3, 4, 5)}}, {[]api.Option{o(2, 1, 2, 3, 4)}, 4, []api.Option{o(2, 1, 2, 3, 4)}},
	} {
		for _, s := range []ipcpo.Side{{}, {Own: 7, Give: 8, DNS: 9, Asks: true}} {
			if code, got := ipcpo.Judge(s, c.l); code != c.code || !same(got, c.want) {
				t.Errorf("Judge(%v): %d, %v, not %d, %v", c.l, code, got, c.code, c.want)
			}
		}
	}
}

// P26.2: a side behind a ConfNak.
func TestNaked(t *testing.T) {
	both := []api.Option{o(129, 1, 1, 1, 1), o(3, 2, 2, 2, 2)}
	asks := ipcpo.Side{Own: 5, DNS: 6, Asks: true}
	for _, c := range []struct {
		s    ipcpo.Side
		l    []api.Option
		want ipcpo.Side
	}{
		{server(), both, server()}, {asks, nil, asks}, {asks, both, ipcpo.Side{Own: 0x02020202, DNS: 0x01010101, Asks: true}}, {ipcpo.Side{Own: 5, DNS: 6}, both, ipcpo.Side{Own: 0x02020202, DNS: 6}},
		{asks, []api.Option{o(3, 0, 0, 0, 0), o(3, 1, 2, 3), o(3, 0, 0, 0, 9), o(3, 1, 1, 1, 1)}, ipcpo.Side{Own: 9, DNS: 6, Asks: true}}, {asks, []api.Option{o(129), o(129, 0, 0, 0, 0), o(129, 0, 0, 0, 8), o(129, 0, 0, 0, 7)}, ipcpo.Side{Own: 5, DNS: 8, Asks: true}},
		{asks, []api.Option{o(3), o(129, 0, 0, 0, 0), o(4, 1, 1, 1, 1)}, asks}, {asks, []api.Option{o(3, 1, 1, 1, 1, 1)}, asks},
	} {
		if got := ipcpo.Naked(c.s, c.l); got != c.want {
			t.Errorf("Naked(%v, %v): %v, not %v", c.s, c.l, got, c.want)
		}
	}
}

// P26.2: a side behind a ConfRej.
func TestRejected(t *testing.T) {
	asks := ipcpo.Side{Own: 5, DNS: 6, Asks: true}
	odd := ipcpo.Side{Server: true, Own: 5, Asks: true}
	for _, c := range []struct {
		s    ipcpo.Side
		l    []api.Option
		want ipcpo.Side
		may  bool
	}{
		{asks, nil, asks, true}, {asks, []api.Option{o(129)}, ipcpo.Side{Own: 5, DNS: 6}, true}, {asks, []api.Option{o(3)}, asks, false}, {asks, []api.Option{o(3, 1, 1, 1, 1), o(129, 0, 0, 0, 6)}, ipcpo.Side{Own: 5, DNS: 6}, false}, {asks, []api.Option{o(7)}, asks, true},
		{odd, []api.Option{o(129)}, odd, true}, {odd, []api.Option{o(3)}, odd, false}, {server(), []api.Option{o(9)}, server(), true},
	} {
		if got, may := ipcpo.Rejected(c.s, c.l); got != c.want || may != c.may {
			t.Errorf("Rejected(%v, %v): %v, %v", c.s, c.l, got, may)
		}
	}
}

// P26.3, P26.5: an address's text, and what is none.
func TestTextAndParse(t *testing.T) {
	for _, c := range []struct {
		a api.Addr
		s string
	}{{167772161, "10.0.0.1"}, {0, "0.0.0.0"}, {0xFFFFFFFF, "255.255.255.255"}, {0x01020304, "1.2.3.4"}, {0xC0A86400, "192.168.100.0"}} {
		if got := ipcpo.Text(c.a); got != c.s {
			t.Errorf("Text(%d): %q", c.a, got)
		}
		if got, e := ipcpo.Parse(c.s); got != c.a || e != api.OK {
			t.Errorf("Parse(%q): %d, %d", c.s, got, e)
		}
	}
	for n := range 5000 {
		a := api.Addr(uint32(n) * 2654435761)
		if got, e := ipcpo.Parse(ipcpo.Text(a)); got != a || e != api.OK {
			t.Fatalf("%d: %d, %d", a, got, e)
		}
	}
	for _, s := range []string{
		"", ".", "...", "1", "1.2.3", "1.2.3.", ".1.2.3", "1..2.3", "1.2.3.4.", "1.2.3.4.5", ".1.2.3.4", "1.2.3.256", "256.1.1.1", "01.2.3.4", "1.2.3.04", "1.2.3.00", "+1.2.3.4", "1.2.3.-0", "-1.2.3.4", " 1.2.3.4", "1.2.3.4 ", "1.2.3.4\n",
		"1.2.3.a", "0x1.2.3.4", "1,2,3,4", "1.2.3.4\x00", "a.b.c.d", "1.2.3.1_0", "٣.2.3.4", "999999999999999999999.1.1.1", strings.Repeat("1.", 500) + "1", "0.0.0", "0.0.0.0.0", "0.0.0.", "0..0.0",
	} {
		if got, e := ipcpo.Parse(s); got != 0 || e != api.ErrForm {
			t.Errorf("Parse(%q): %d, %d", s, got, e)
		}
	}
}

// P26.4: a client that was naked by a server asks for what that gives, and it is fine.
func TestNakedIsFine(t *testing.T) {
	for _, s := range []ipcpo.Side{{}, {Own: 7}, {Asks: true}, {Own: 0x0A000009, DNS: 4, Asks: true}} {
		code, l := ipcpo.Judge(server(), ipcpo.Options(s))
		if code != 3 {
			t.Fatal(code)
		}
		s = ipcpo.Naked(s, l)
		if code, _ := ipcpo.Judge(server(), ipcpo.Options(s)); code != 2 || s.Own != server().Give || s.Asks && s.DNS != server().DNS {
			t.Errorf("%v: %d", s, code)
		}
	}
	if code, _ := ipcpo.Judge(ipcpo.Side{}, ipcpo.Options(server())); code != 2 {
		t.Error(code)
	}
}

// R4 of the document: nothing is written into what is handed in, and answers share nothing with it.
func TestNothingIsShared(t *testing.T) {
	for _, l := range [][]api.Option{{o(3, 10, 0, 0, 9)}, {o(3, 10, 0, 0, 8)}, {o(4, 10, 0, 0, 9)}} {
		_, got := ipcpo.Judge(server(), l)
		got[0].Data[0] = 77
		if l[0].Data[0] != 10 {
			t.Error(l)
		}
	}
}
