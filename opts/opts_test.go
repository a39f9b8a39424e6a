package opts_test

import (
	"bytes"
	"math/rand"
	"slices"
	"testing"

	"euphroe/api"
	"euphroe/opts"
)

// o is an option.
func o(kind byte, data ...byte) api.Option { return api.Option{Type: kind, Data: data} }

func same(a, b []api.Option) bool {
	return slices.EqualFunc(a, b, func(x, y api.Option) bool { return x.Type == y.Type && bytes.Equal(x.Data, y.Data) })
}

// P21.1: a type, a length and data of each, one behind the other.
func TestLay(t *testing.T) {
	for _, c := range []struct {
		l    []api.Option
		want []byte
	}{
		{nil, nil},
		{[]api.Option{o(1, 5, 120)}, []byte{1, 4, 5, 120}},
		{[]api.Option{o(7), o(0, 1), o(255, 9, 9)}, []byte{7, 2, 0, 3, 1, 255, 4, 9, 9}},
		{[]api.Option{{Type: 3, Data: make([]byte, 253)}}, append([]byte{3, 255}, make([]byte, 253)...)},
		{slices.Repeat([]api.Option{o(8)}, 32), bytes.Repeat([]byte{8, 2}, 32)},
	} {
		if b, e := opts.Lay(c.l); !bytes.Equal(b, c.want) || e != api.OK {
			t.Errorf("Lay(%v): %x, %d", c.l, b, e)
		}
	}
}

// P21.1: too many, ahead of one that is too big.
func TestLayRefuses(t *testing.T) {
	big := api.Option{Type: 1, Data: make([]byte, 254)}
	for _, c := range []struct {
		l    []api.Option
		want api.Errno
	}{
		{slices.Repeat([]api.Option{o(1)}, 33), api.ErrMany}, {slices.Repeat([]api.Option{big}, 33), api.ErrMany}, {[]api.Option{big}, api.ErrBig}, {[]api.Option{o(1), big}, api.ErrBig}, {[]api.Option{{Data: make([]byte, 512)}}, api.ErrBig},
	} {
		if b, e := opts.Lay(c.l); len(b) != 0 || e != c.want {
			t.Errorf("%d options: %x, %d", len(c.l), b, e)
		}
	}
}

// P21.1: each error, option by option, and which of two comes first.
func TestParse(t *testing.T) {
	full := bytes.Repeat([]byte{8, 2}, 32)
	for _, c := range []struct {
		b    []byte
		l    []api.Option
		want api.Errno
	}{
		{nil, nil, api.OK}, {[]byte{1, 4, 5, 120}, []api.Option{o(1, 5, 120)}, api.OK}, {[]byte{7, 2, 0, 3, 1, 255, 2}, []api.Option{o(7), o(0, 1), o(255)}, api.OK}, {append([]byte{3, 255}, make([]byte, 253)...), []api.Option{{Type: 3, Data: make([]byte, 253)}}, api.OK},
		{full, slices.Repeat([]api.Option{o(8)}, 32), api.OK}, {append(bytes.Clone(full), 8), nil, api.ErrMany}, {append(bytes.Clone(full), 8, 0), nil, api.ErrMany}, {append(bytes.Clone(full), 8, 2), nil, api.ErrMany},
		{append(bytes.Clone(full[2:]), 8), nil, api.ErrEnd}, {[]byte{1}, nil, api.ErrEnd}, {[]byte{1, 2, 1}, nil, api.ErrEnd}, {[]byte{1, 3}, nil, api.ErrEnd}, {[]byte{1, 2, 1, 5, 1, 1}, nil, api.ErrEnd}, {[]byte{1, 255, 0}, nil, api.ErrEnd},
		{[]byte{1, 0}, nil, api.ErrForm}, {[]byte{1, 1}, nil, api.ErrForm}, {[]byte{7, 2, 1, 1, 9}, nil, api.ErrForm}, {[]byte{1, 0, 1}, nil, api.ErrForm}, {[]byte{1, 9, 1, 0}, nil, api.ErrEnd},
	} {
		if l, e := opts.Parse(c.b); !same(l, c.l) || e != c.want {
			t.Errorf("Parse(%x): %v, %d, not %d", c.b, l, e, c.want)
		}
	}
}

// P21.3: what is laid is parsed; what is parsed is laid as the same.
func TestRound(t *testing.T) {
	r := rand.New(rand.NewSource(21))
	for range 3000 {
		var l []api.Option
		for range r.Intn(33) {
			data := make([]byte, r.Intn(6))
			r.Read(data)
			l = append(l, o(byte(r.Intn(256)), data...))
		}
		b, _ := opts.Lay(l)
		if got, e := opts.Parse(b); !same(got, l) || e != api.OK {
			t.Fatalf("%v: %v, %d", l, got, e)
		}
		x := make([]byte, r.Intn(12))
		for i := range x {
			x[i] = byte(r.Intn(5))
		}
		if got, e := opts.Parse(x); e == api.OK {
			if again, e := opts.Lay(got); !bytes.Equal(again, x) || e != api.OK {
				t.Fatalf("%x: %x, %d", x, again, e)
			}
		}
	}
}

// P21.2: the first one of a type, and whether there is one.
func TestFind(t *testing.T) {
	l := []api.Option{o(1, 5), o(3), o(1, 6), o(0, 9)}
	for _, c := range []struct {
		kind byte
		want api.Option
		is   bool
	}{{1, o(1, 5), true}, {3, o(3), true}, {0, o(0, 9), true}, {2, api.Option{}, false}, {255, api.Option{}, false}} {
		if got, is := opts.Find(l, c.kind); !same([]api.Option{got}, []api.Option{c.want}) || is != c.is {
			t.Errorf("Find(%d): %v, %v", c.kind, got, is)
		}
	}
	if got, is := opts.Find(nil, 0); is || got.Data != nil {
		t.Error(got, is)
	}
}

// P21.2: the same, in the same order.
func TestSame(t *testing.T) {
	l := [][]api.Option{nil, {o(1)}, {o(1, 2)}, {o(2)}, {o(1), o(2)}, {o(2), o(1)}, {o(1), o(1)}, {o(1, 2), o(2)}, {o(1, 3)}, {o(1, 2, 3)}}
	for i, a := range l {
		for j, b := range l {
			if opts.Same(a, b) != (i == j) {
				t.Errorf("%v and %v", a, b)
			}
		}
	}
	if !opts.Same(nil, []api.Option{}) || !opts.Same([]api.Option{{}}, []api.Option{{Data: []byte{}}}) {
		t.Error("nil and empty")
	}
}

// P21.2: all those of a type go.
func TestWithout(t *testing.T) {
	l := []api.Option{o(1, 5), o(3), o(1, 6), o(0, 9)}
	for _, c := range []struct {
		kind byte
		want []api.Option
	}{{1, []api.Option{o(3), o(0, 9)}}, {3, []api.Option{o(1, 5), o(1, 6), o(0, 9)}}, {0, l[:3]}, {7, l}} {
		if got := opts.Without(l, c.kind); !same(got, c.want) {
			t.Errorf("Without(%d): %v", c.kind, got)
		}
	}
	if got := opts.Without([]api.Option{o(4), o(4, 1)}, 4); len(got) != 0 {
		t.Error(got)
	}
}

// P21.2: in this order, each once at most, with others between.
func TestAmong(t *testing.T) {
	all := []api.Option{o(1, 5), o(3), o(1, 5), o(5, 1, 2)}
	for _, c := range []struct {
		l    []api.Option
		want bool
	}{
		{nil, true}, {all, true}, {[]api.Option{o(3)}, true}, {[]api.Option{o(1, 5), o(5, 1, 2)}, true}, {[]api.Option{o(1, 5), o(1, 5)}, true}, {[]api.Option{o(3), o(1, 5)}, true}, {[]api.Option{o(1, 5), o(3), o(5, 1, 2)}, true},
		{[]api.Option{o(1, 5), o(1, 5), o(1, 5)}, false}, {[]api.Option{o(3), o(3)}, false}, {[]api.Option{o(5, 1, 2), o(3)}, false}, {[]api.Option{o(1, 5), o(1, 5), o(3)}, false}, {[]api.Option{o(1, 6)}, false}, {[]api.Option{o(1)}, false}, {[]api.Option{o(5, 1)}, false}, {append(slices.Clone(all), o(3)), false},
	} {
		if opts.Among(c.l, all) != c.want {
			t.Errorf("Among(%v): %v", c.l, !c.want)
		}
	}
	if opts.Among([]api.Option{o(1)}, nil) || !opts.Among(nil, nil) {
		t.Error("of none")
	}
}

// P21.2: the types, in order.
func TestKinds(t *testing.T) {
	if got := opts.Kinds([]api.Option{o(1, 5), o(3), o(1, 6), o(0)}); !bytes.Equal(got, []byte{1, 3, 1, 0}) {
		t.Error(got)
	}
	if got := opts.Kinds(nil); len(got) != 0 {
		t.Error(got)
	}
}

// R4 of the document: nothing is written into what is handed in, and answers share nothing with it.
func TestNothingIsShared(t *testing.T) {
	b := []byte{1, 4, 5, 120}
	l, _ := opts.Parse(b)
	clear(b)
	one, _ := opts.Find(l, 1)
	rest := opts.Without(l, 9)
	one.Data[0], rest[0].Data[1] = 99, 99
	if !same(l, []api.Option{o(1, 5, 120)}) {
		t.Error(l)
	}
	x := []api.Option{o(1), o(2), o(3)}
	opts.Without(x, 1)
	opts.Among(x[2:], x)
	if !same(x, []api.Option{o(1), o(2), o(3)}) {
		t.Error(x)
	}
}
