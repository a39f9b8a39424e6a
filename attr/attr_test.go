package attr_test

import (
	"bytes"
	"testing"

	"euphroe/api"
	"euphroe/attr"
)

// row are n bytes that go on from first.
func row(first byte, n int) []byte {
	b := make([]byte, n)
	for i := range b {
		b[i] = first + byte(i)
	}
	return b
}

// fine is an attribute of each kind, as it may be.
func fine() []api.Attr {
	return []api.Attr{
		{ID: 1, Data: []byte{1, 2}},
		{ID: 2, Data: []byte{0, 0, 0, 4, 1, 2, 3, 4}},
		{ID: 2, Data: append([]byte{0, 0, 0, 0, 0, 0, 0, 0}, row(9, 64)...)},
		{ID: 3, Data: append([]byte{0, 0, 0, 2}, row(1, 96)...)},
		{ID: 4, Data: append([]byte{0, 0, 0, 3}, row(1, 32)...)},
	}
}

func same(a, b api.Attr) bool { return a.ID == b.ID && bytes.Equal(a.Data, b.Data) }

// The kinds' numbers.
func TestKinds(t *testing.T) {
	if attr.KProto != 1 || attr.KStatus != 2 || attr.KBinding != 3 || attr.KAsk != 4 {
		t.Error("other numbers")
	}
}

// P17.1: an attribute's bytes, whatever its data are.
func TestLay(t *testing.T) {
	for _, c := range []struct {
		a    api.Attr
		want []byte
	}{
		{api.Attr{ID: 1, Data: []byte{0, 1}}, []byte{0, 1, 0, 6, 0, 1}},
		{api.Attr{ID: 4}, []byte{0, 4, 0, 4}},
		{api.Attr{ID: 2, Data: row(0, 300)}, append([]byte{0, 2, 1, 48}, row(0, 300)...)},
		{api.Attr{ID: 3, Data: row(5, 4091)}, append([]byte{0, 3, 15, 255}, row(5, 4091)...)},
	} {
		if b, e := attr.Lay(c.a); !bytes.Equal(b, c.want) || e != api.OK {
			t.Errorf("Lay of kind %d: %x, %d", c.a.ID, b, e)
		}
	}
}

// P17.1: no kind is refused ahead of too many data.
func TestLayRefuses(t *testing.T) {
	for kind := range 256 {
		a := api.Attr{ID: byte(kind), Data: row(0, 4092)}
		want := api.ErrKind
		if kind >= 1 && kind <= 4 {
			want = api.ErrBig
		}
		if b, e := attr.Lay(a); len(b) != 0 || e != want {
			t.Errorf("%d: %d bytes, %d", kind, len(b), e)
		}
		if _, e := attr.Lay(api.Attr{ID: byte(kind)}); (e == api.OK) != (want == api.ErrBig) {
			t.Errorf("%d: %d", kind, e)
		}
	}
}

// P17.1, P17.3: what is laid is parsed, whatever stands behind.
func TestParse(t *testing.T) {
	list := append(fine(), api.Attr{ID: 4}, api.Attr{ID: 3, Data: row(0, 4091)}, api.Attr{ID: 1, Data: row(0, 700)})
	for _, a := range list {
		b, _ := attr.Lay(a)
		for _, more := range []int{0, 1, 5000} {
			if got, n, e := attr.Parse(append(bytes.Clone(b), make([]byte, more)...)); !same(got, a) || n != len(b) || e != api.OK {
				t.Errorf("%d of %d bytes, %d behind: %v, %d, %d", a.ID, len(b), more, got, n, e)
			}
		}
		for i := range b {
			if got, n, e := attr.Parse(b[:i]); !same(got, api.Attr{}) || n != 0 || e != api.ErrEnd {
				t.Fatalf("the first %d of %d bytes: %v, %d, %d", i, len(b), got, n, e)
			}
		}
	}
}

// P17.1: each error, and which of two comes first.
func TestParseRefuses(t *testing.T) {
	for _, c := range []struct {
		b    []byte
		want api.Errno
	}{
		{nil, api.ErrEnd}, {[]byte{1, 9, 0}, api.ErrEnd},
		{[]byte{1, 1, 0, 6, 0, 1}, api.ErrForm}, {[]byte{128, 9, 0, 6}, api.ErrForm}, {[]byte{0, 1, 0, 3}, api.ErrForm}, {[]byte{0, 0, 0, 0}, api.ErrForm}, {[]byte{0, 1, 16, 0}, api.ErrForm}, {[]byte{0, 9, 255, 255}, api.ErrForm},
		{append([]byte{0, 1, 16, 0}, make([]byte, 4092)...), api.ErrForm},
		{[]byte{0, 0, 0, 4}, api.ErrKind}, {[]byte{0, 5, 0, 4}, api.ErrKind}, {[]byte{0, 255, 0, 9}, api.ErrKind}, {[]byte{0, 5, 15, 255}, api.ErrKind},
		{[]byte{0, 1, 0, 5}, api.ErrEnd}, {[]byte{0, 4, 15, 255, 1}, api.ErrEnd}, {[]byte{0, 1, 0, 6, 0}, api.ErrEnd},
	} {
		if got, n, e := attr.Parse(c.b); !same(got, api.Attr{}) || n != 0 || e != c.want {
			t.Errorf("Parse(%x): %v, %d, %d, not %d", c.b[:min(len(c.b), 8)], got, n, e, c.want)
		}
	}
}

// P17.1: what may be, and what is too short, too long, or another one.
func TestCheck(t *testing.T) {
	for _, a := range fine() {
		if e := attr.Check(a); e != api.OK {
			t.Errorf("%v: %d", a, e)
		}
	}
	sizes := map[byte][2]int{1: {2, 2}, 2: {8, 72}, 3: {100, 100}, 4: {36, 36}}
	for kind := range 256 {
		size, is := sizes[byte(kind)]
		for n := range 130 {
			data := make([]byte, n)
			if n > 3 {
				data[3] = 1
			}
			want := api.OK
			switch {
			case !is:
				want = api.ErrKind
			case n < size[0]:
				want = api.ErrEnd
			case n > size[1]:
				want = api.ErrForm
			}
			if e := attr.Check(api.Attr{ID: byte(kind), Data: data}); e != want {
				t.Fatalf("kind %d, %d bytes: %d, not %d", kind, n, e, want)
			}
		}
	}
}

// P17.1: which noughts, methods and kinds may stand there.
func TestCheckBytes(t *testing.T) {
	most := map[byte][2]int{2: {0, 4}, 3: {1, 2}, 4: {1, 3}}
	for _, a := range fine()[1:] {
		for b := range 256 {
			for place := range 4 {
				x := api.Attr{ID: a.ID, Data: bytes.Clone(a.Data)}
				x.Data[place] = byte(b)
				want := api.ErrForm
				if place < 3 && b == 0 || place == 3 && b >= most[a.ID][0] && b <= most[a.ID][1] {
					want = api.OK
				}
				if e := attr.Check(x); e != want {
					t.Fatalf("kind %d, %d at %d: %d", a.ID, b, place, e)
				}
			}
		}
	}
	if e := attr.Check(api.Attr{ID: 3, Data: row(7, 99)}); e != api.ErrEnd {
		t.Error("too short ahead of another one", e)
	}
}

// P17.2, P17.3: what is made is as told, and is taken apart.
func TestMakeAndTake(t *testing.T) {
	for _, n := range []uint16{0, 1, 255, 256, 0x0102, 65535} {
		a := attr.Proto(n)
		if !same(a, api.Attr{ID: 1, Data: []byte{byte(n >> 8), byte(n)}}) {
			t.Errorf("Proto(%d): %v", n, a)
		}
		if got, e := attr.ToProto(a); got != n || e != api.OK {
			t.Errorf("ToProto of %d: %d, %d", n, got, e)
		}
	}
	for _, size := range []int{0, 1, 63, 64, 65, 1000} {
		s := attr.Status{About: 3, Code: 0xF1020304, Detail: row(7, size)}
		kept := row(7, min(size, 64))
		a := attr.OfStatus(s)
		if !same(a, api.Attr{ID: 2, Data: append([]byte{0, 0, 0, 3, 0xF1, 2, 3, 4}, kept...)}) {
			t.Errorf("OfStatus of %d: %v", size, a)
		}
		if got, e := attr.ToStatus(a); got.About != 3 || got.Code != s.Code || !bytes.Equal(got.Detail, kept) || e != api.OK {
			t.Errorf("ToStatus of %d: %v, %d", size, got, e)
		}
	}
	x := attr.Binding{Method: 1, Nonce: [32]byte(row(10, 32)), Hash: [32]byte(row(90, 32)), Seal: [32]byte(row(170, 32))}
	a := attr.OfBinding(x)
	if !same(a, api.Attr{ID: 3, Data: bytes.Join([][]byte{{0, 0, 0, 1}, row(10, 32), row(90, 32), row(170, 32)}, nil)}) {
		t.Errorf("OfBinding: %v", a)
	}
	if got, e := attr.ToBinding(a); got != x || e != api.OK {
		t.Errorf("ToBinding: %v, %d", got, e)
	}
	y := attr.Ask{Methods: 3, Nonce: [32]byte(row(50, 32))}
	a = attr.OfAsk(y)
	if !same(a, api.Attr{ID: 4, Data: append([]byte{0, 0, 0, 3}, row(50, 32)...)}) {
		t.Errorf("OfAsk: %v", a)
	}
	if got, e := attr.ToAsk(a); got != y || e != api.OK {
		t.Errorf("ToAsk: %v, %d", got, e)
	}
	if a := attr.OfStatus(attr.Status{About: 200}); a.Data[3] != 200 || attr.Check(a) != api.ErrForm {
		t.Error("of what may not be", a)
	}
}

// refuses tells whether all that take apart refuse it by their errors, with nothing beside.
func refuses(a api.Attr, e [5]api.Errno) bool {
	p, e1 := attr.ToProto(a)
	s, e2 := attr.ToStatus(a)
	b, e3 := attr.ToBinding(a)
	q, e4 := attr.ToAsk(a)
	zero := p == 0 && s.About == 0 && s.Code == 0 && len(s.Detail) == 0 && b == attr.Binding{} && q == attr.Ask{}
	return zero && e == [5]api.Errno{0, e1, e2, e3, e4}
}

// P17.2: another kind ahead of Check's error.
func TestTakeRefuses(t *testing.T) {
	for kind := byte(1); kind <= 4; kind++ {
		for _, c := range []struct {
			size int
			e    api.Errno
		}{{0, api.ErrEnd}, {200, api.ErrForm}} {
			want := [5]api.Errno{0, api.ErrKind, api.ErrKind, api.ErrKind, api.ErrKind}
			want[kind] = c.e
			if !refuses(api.Attr{ID: kind, Data: row(1, c.size)}, want) {
				t.Errorf("kind %d of %d bytes", kind, c.size)
			}
		}
	}
	all := [5]api.Errno{0, api.ErrKind, api.ErrKind, api.ErrKind, api.ErrKind}
	for _, kind := range []byte{0, 5, 255} {
		if !refuses(api.Attr{ID: kind, Data: []byte{0, 1}}, all) {
			t.Errorf("kind %d", kind)
		}
	}
	for _, a := range fine()[1:] {
		x := api.Attr{ID: a.ID, Data: bytes.Clone(a.Data)}
		x.Data[1] = 1
		want := all
		want[a.ID] = api.ErrForm
		if !refuses(x, want) {
			t.Errorf("kind %d with no nought", a.ID)
		}
	}
}

// P17.1: the same are those of one kind and the same data.
func TestSame(t *testing.T) {
	l := append(fine(), api.Attr{}, api.Attr{ID: 1}, api.Attr{ID: 1, Data: []byte{1}}, api.Attr{ID: 1, Data: []byte{1, 3}}, api.Attr{ID: 2, Data: []byte{1, 2}}, api.Attr{ID: 1, Data: []byte{1, 2, 0}})
	for i, a := range l {
		for j, b := range l {
			if attr.Same(a, b) != (i == j) {
				t.Errorf("%d and %d", i, j)
			}
		}
	}
	if !attr.Same(api.Attr{ID: 7}, api.Attr{ID: 7, Data: []byte{}}) {
		t.Error("nil and empty")
	}
}

// R4 of the document: nothing is written into what is handed in, and answers share nothing with it.
func TestNothingIsShared(t *testing.T) {
	b, _ := attr.Lay(fine()[1])
	a, _, _ := attr.Parse(b)
	s, _ := attr.ToStatus(fine()[2])
	clear(b)
	if !same(a, fine()[1]) {
		t.Error(a)
	}
	x := fine()[2]
	s, _ = attr.ToStatus(x)
	clear(x.Data)
	if !bytes.Equal(s.Detail, row(9, 64)) {
		t.Error(s)
	}
	detail := row(1, 5)
	y := attr.OfStatus(attr.Status{Detail: detail})
	clear(detail)
	if !bytes.Equal(y.Data[8:], row(1, 5)) {
		t.Error(y)
	}
}
