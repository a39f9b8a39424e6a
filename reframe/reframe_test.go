package reframe_test

import (
	"bytes"
	"math/rand"
	"slices"
	"testing"

	"euphroe/api"
	"euphroe/attr"
	"euphroe/packet"
	"euphroe/reframe"
)

// packets are some, of the least and the greatest length among them.
func packets() []api.Packet {
	return []api.Packet{
		packet.Of(packet.EchoReq), packet.OfData([]byte{1}), packet.Of(packet.ConnectReq, attr.Proto(1)), packet.OfData(bytes.Repeat([]byte{16, 1, 0, 8}, 1000)), packet.OfData(make([]byte, 4091)),
		packet.Of(300, attr.Proto(7), api.Attr{ID: 4}), packet.OfData([]byte{2, 3}), packet.Of(packet.Abort, api.Attr{ID: 2, Data: make([]byte, 4083)}), packet.Of(packet.EchoResp),
	}
}

// laid are packets' bytes, one behind the other.
func laid(t *testing.T, l ...api.Packet) []byte {
	var all []byte
	for _, p := range l {
		b, e := packet.Lay(p)
		if e != api.OK {
			t.Fatal(e)
		}
		all = append(all, b...)
	}
	return all
}

// said is what a stream tells of pieces, up to an error.
func said(s *reframe.Stream, pieces [][]byte) ([]api.Packet, api.Errno) {
	var all []api.Packet
	for _, b := range pieces {
		l, e := s.Write(b)
		all = append(all, l...)
		if e != api.OK {
			return all, e
		}
	}
	return all, api.OK
}

// cut are pieces of bytes, of n at most, or of any size, if n is 0.
func cut(b []byte, n int, r *rand.Rand) [][]byte {
	var l [][]byte
	for len(b) > 0 {
		k := n
		if n == 0 {
			k = r.Intn(3000)
		}
		k = min(k, len(b))
		l = append(l, b[:k])
		b = b[k:]
	}
	return l
}

// P19.2: of a new one.
func TestNew(t *testing.T) {
	s := reframe.New()
	if s.Held() != 0 || s.Count() != 0 || s.At() != 0 || s.Wants() != 4 {
		t.Error(s.Held(), s.Count(), s.At(), s.Wants())
	}
	if l, e := s.Write(nil); len(l) != 0 || e != api.OK || s.Wants() != 4 {
		t.Error(l, e)
	}
}

// P19.1, P19.2: byte by byte, what is told, and what is missing.
func TestByteByByte(t *testing.T) {
	s := reframe.New()
	end := 0
	for i, p := range packets() {
		b := laid(t, p)
		for n, x := range b {
			l, e := s.Write([]byte{x})
			if e != api.OK {
				t.Fatal(i, n, e)
			}
			held, count, wants := n+1, i, len(b)-n-1
			if n+1 < 4 {
				wants = 3 - n
			}
			if n+1 == len(b) {
				held, count, wants = 0, i+1, 4
				end += len(b)
				if len(l) != 1 || !packet.Same(l[0], p) {
					t.Fatalf("%d: %v", i, l)
				}
			} else if len(l) != 0 {
				t.Fatalf("%d, behind %d bytes: %v", i, n+1, l)
			}
			if s.Held() != held || s.Count() != count || s.At() != end || s.Wants() != wants {
				t.Fatalf("%d, behind %d bytes: %d, %d, %d, %d", i, n+1, s.Held(), s.Count(), s.At(), s.Wants())
			}
		}
	}
}

// P19.1, P19.3, P19.4: however bytes are cut, the packets are the same, and few bytes are held.
func TestCuts(t *testing.T) {
	r := rand.New(rand.NewSource(19))
	all := slices.Concat(packets(), packets(), packets())
	b := laid(t, all...)
	for round := range 60 {
		size := 0
		switch {
		case round < 20:
			size = round + 1
		case round < 30:
			size = len(b) / (30 - round)
		}
		s := reframe.New()
		var told []api.Packet
		for _, piece := range cut(b, size, r) {
			l, e := s.Write(piece)
			if e != api.OK {
				t.Fatal(e)
			}
			told = append(told, l...)
			if s.Held() >= api.MaxPacket {
				t.Fatal("held", s.Held())
			}
		}
		if !slices.EqualFunc(told, all, packet.Same) || s.Count() != len(all) || s.At() != len(b) || s.Held() != 0 || s.Wants() != 4 {
			t.Errorf("pieces of %d: %d packets, %d, %d, %d", size, len(told), s.Count(), s.At(), s.Held())
		}
	}
}

// broken are bytes that break a stream, and by which error.
func broken() []struct {
	b    []byte
	want api.Errno
} {
	return []struct {
		b    []byte
		want api.Errno
	}{
		{[]byte{15, 1, 0, 8}, api.ErrVersion}, {[]byte{16, 2, 0, 8}, api.ErrForm}, {[]byte{16, 1, 0, 7}, api.ErrForm}, {[]byte{16, 0, 0, 4}, api.ErrForm}, {[]byte{16, 0, 16, 0}, api.ErrForm}, {[]byte{16, 1, 255, 255}, api.ErrForm},
		{[]byte{16, 1, 0, 8, 0, 1, 0, 9}, api.ErrMany}, {[]byte{16, 1, 0, 12, 0, 1, 0, 1, 0, 9, 0, 4}, api.ErrKind}, {[]byte{16, 1, 0, 12, 0, 1, 0, 1, 1, 1, 0, 4}, api.ErrForm}, {[]byte{16, 1, 0, 9, 0, 8, 0, 0, 0}, api.ErrForm},
		{[]byte{16, 1, 0, 8, 0, 1, 0, 1}, api.ErrEnd}, {[]byte{16, 1, 0, 12, 0, 1, 0, 1, 0, 1, 0, 6}, api.ErrEnd},
	}
}

// P19.1, P19.3: it breaks as soon as it must, tells what was ahead, and stays broken, holding nothing.
func TestBreaks(t *testing.T) {
	ahead := []api.Packet{packet.OfData([]byte{7}), packet.Of(packet.EchoReq)}
	first := laid(t, ahead...)
	for _, c := range broken() {
		b := append(bytes.Clone(first), c.b...)
		for _, more := range []int{0, 1, 9000} {
			for _, size := range []int{1, 2, 3, 5, len(b) + more} {
				s := reframe.New()
				l, e := said(s, cut(append(bytes.Clone(b), make([]byte, more)...), size, nil))
				if !slices.EqualFunc(l, ahead, packet.Same) || e != c.want || s.Held() != 0 || s.Wants() != 0 || s.Count() != 2 || s.At() != len(first) {
					t.Errorf("%x, pieces of %d: %v, %d; %d, %d, %d, %d", c.b, size, l, e, s.Held(), s.Wants(), s.Count(), s.At())
				}
				for _, again := range [][]byte{nil, {16}, first} {
					if l, e := s.Write(again); len(l) != 0 || e != c.want || s.Held() != 0 || s.Wants() != 0 || s.Count() != 2 || s.At() != len(first) {
						t.Errorf("%x, behind it: %v, %d", c.b, l, e)
					}
				}
			}
		}
		s := reframe.New()
		if l, e := s.Write(b[:len(b)-1]); len(l) != 2 || e != api.OK {
			t.Errorf("%x, a byte ahead of it: %v, %d", c.b, l, e)
		}
	}
}

// P19.2: nil, and one that New did not give.
func TestNobody(t *testing.T) {
	for _, s := range []*reframe.Stream{nil, {}} {
		for _, b := range [][]byte{nil, {16, 0, 0, 5, 1}} {
			if l, e := s.Write(b); len(l) != 0 || e != api.ErrNil {
				t.Error(l, e)
			}
		}
		if s.Held() != 0 || s.Count() != 0 || s.At() != 0 || s.Wants() != 0 {
			t.Error(s.Held(), s.Count(), s.At(), s.Wants())
		}
	}
}

// R4 of the document: nothing is written into what is handed in, and nothing of it is kept.
func TestNothingIsShared(t *testing.T) {
	b := laid(t, packet.OfData([]byte{1, 2, 3}), packet.OfData([]byte{4, 5, 6}))
	before := bytes.Clone(b)
	s := reframe.New()
	l, _ := s.Write(b[:10])
	if !bytes.Equal(b, before) {
		t.Error("written into")
	}
	tail := bytes.Clone(b[10:])
	clear(b)
	more, e := s.Write(tail)
	if !bytes.Equal(l[0].Data, []byte{1, 2, 3}) || len(more) != 1 || !bytes.Equal(more[0].Data, []byte{4, 5, 6}) || e != api.OK {
		t.Error(l, more, e)
	}
	wide := append(make([]byte, 0, 64), 16, 0, 0)
	s = reframe.New()
	s.Write(wide)
	s.Write([]byte{9})
	if !bytes.Equal(wide[:4], []byte{16, 0, 0, 0}) {
		t.Error("written behind what is handed in")
	}
}
