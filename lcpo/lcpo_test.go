package lcpo_test

import (
	"bytes"
	"slices"
	"testing"

	"euphroe/api"
	"euphroe/lcpo"
)

// o is an option.
func o(kind byte, data ...byte) api.Option { return api.Option{Type: kind, Data: data} }

func same(a, b []api.Option) bool {
	return slices.EqualFunc(a, b, func(x, y api.Option) bool { return x.Type == y.Type && bytes.Equal(x.Data, y.Data) })
}

const (
	own   = 0x01020304
	fresh = 0xA1A2A3A4
)

// P25.1: the numbers, and how an end proves itself.
func TestChap(t *testing.T) {
	if [5]int{lcpo.MRU, lcpo.Auth, lcpo.Magic, lcpo.Short, lcpo.Bare} != [5]int{1, 3, 5, 7, 8} {
		t.Error("other numbers")
	}
	lcpo.Chap()[0] = 1
	if !bytes.Equal(lcpo.Chap(), []byte{0xC2, 0x23, 0x81}) {
		t.Error(lcpo.Chap())
	}
}

// P25.1: what one asks for.
func TestOptions(t *testing.T) {
	for _, c := range []struct {
		w    lcpo.Want
		want []api.Option
	}{
		{lcpo.Want{}, nil},
		{lcpo.Want{MRU: 1400, Magic: own, Prove: true}, []api.Option{o(1, 5, 120), o(3, 0xC2, 0x23, 0x81), o(5, 1, 2, 3, 4)}},
		{lcpo.Want{MRU: 1}, []api.Option{o(1, 0, 1)}},
		{lcpo.Want{Magic: 7}, []api.Option{o(5, 0, 0, 0, 7)}},
		{lcpo.Want{Prove: true}, []api.Option{o(3, 0xC2, 0x23, 0x81)}},
		{lcpo.Want{MRU: 65535, Magic: 0xFFFFFFFF}, []api.Option{o(1, 255, 255), o(5, 255, 255, 255, 255)}},
	} {
		if got := lcpo.Options(c.w); !same(got, c.want) {
			t.Errorf("Options(%v): %v", c.w, got)
		}
	}
}

// P25.1: what is rejected, what is naked, and what is acked.
func TestJudge(t *testing.T) {
	chap := o(3, 0xC2, 0x23, 0x81)
	magic := o(5, 9, 9, 9, 9)
	for _, c := range []struct {
		l      []api.Option
		proves bool
		code   byte
		want   []api.Option
	}{
		{nil, false, 2, nil}, {nil, true, 2, nil},
		{[]api.Option{o(1, 5, 120), chap, magic, o(7), o(8)}, true, 2, []api.Option{o(1, 5, 120), chap, magic, o(7), o(8)}},
		{[]api.Option{o(8), magic, o(1, 0, 128)}, false, 2, []api.Option{o(8), magic, o(1, 0, 128)}},
		{[]api.Option{o(1, 255, 255)}, false, 2, []api.Option{o(1, 255, 255)}},
		{[]api.Option{o(9)}, true, 4, []api.Option{o(9)}}, {[]api.Option{o(0), o(2), o(4), o(6), o(255, 1)}, true, 4, []api.Option{o(0), o(2), o(4), o(6), o(255, 1)}},
		{[]api.Option{chap}, false, 4, []api.Option{chap}}, {[]api.Option{o(3, 1, 2, 3)}, false, 4, []api.Option{o(3, 1, 2, 3)}},
		{[]api.Option{o(1, 5, 120), magic, o(1, 5, 121), o(5, 1)}, true, 4, []api.Option{o(1, 5, 121), o(5, 1)}},
		{[]api.Option{o(9), o(9), magic}, true, 4, []api.Option{o(9), o(9)}},
		{[]api.Option{o(1), o(1, 5, 120)}, true, 4, []api.Option{o(1), o(1, 5, 120)}},
		{[]api.Option{o(1, 5), o(3, 0xC2, 0x23), o(5, 1, 2, 3), o(7, 0), o(8, 1)}, true, 4, []api.Option{o(1, 5), o(3, 0xC2, 0x23), o(5, 1, 2, 3), o(7, 0), o(8, 1)}},
		{[]api.Option{o(1, 0, 5, 120), o(3, 0xC2, 0x23, 0x81, 0), o(5, 1, 2, 3, 4, 5)}, true, 4, []api.Option{o(1, 0, 5, 120), o(3, 0xC2, 0x23, 0x81, 0), o(5, 1, 2, 3, 4, 5)}},
		{[]api.Option{o(1, 0, 127)}, true, 3, []api.Option{o(1, 5, 120)}}, {[]api.Option{o(1, 0, 0)}, false, 3, []api.Option{o(1, 5, 120)}},
		{[]api.Option{o(3, 0xC0, 0x23, 0x81)}, true, 3, []api.Option{chap}}, {[]api.Option{o(3, 0xC2, 0x23, 0x80)}, true, 3, []api.Option{chap}},
		{[]api.Option{o(5, 0, 0, 0, 0)}, true, 3, []api.Option{o(5, 0xA1, 0xA2, 0xA3, 0xA4)}}, {[]api.Option{o(5, 1, 2, 3, 4)}, true, 3, []api.Option{o(5, 0xA1, 0xA2, 0xA3, 0xA4)}},
		{[]api.Option{o(7), o(5, 1, 2, 3, 4), o(3, 0, 0, 0), o(8), o(1, 0, 1)}, true, 3, []api.Option{o(5, 0xA1, 0xA2, 0xA3, 0xA4), chap, o(1, 5, 120)}},
		{[]api.Option{o(1, 0, 1), o(9, 7), o(5, 0, 0, 0, 0), magic}, true, 4, []api.Option{o(9, 7), magic}},
	} {
		code, got := lcpo.Judge(c.l, c.proves, own, fresh)
		if code != c.code || !same(got, c.want) {
			t.Errorf("Judge(%v, %v): %d, %v, not %d, %v", c.l, c.proves, code, got, c.code, c.want)
		}
	}
	if code, got := lcpo.Judge([]api.Option{o(5, 0, 0, 0, 0)}, true, 0, 0); code != 3 || !same(got, []api.Option{o(5, 0, 0, 0, 0)}) {
		t.Error(code, got)
	}
	if code, _ := lcpo.Judge([]api.Option{o(5, 1, 2, 3, 4)}, true, 0, fresh); code != 2 {
		t.Error(code)
	}
}

// P25.2: the first of each type that has as many bytes as told.
func TestOf(t *testing.T) {
	for _, c := range []struct {
		l    []api.Option
		want lcpo.Got
	}{
		{nil, lcpo.Got{MRU: 1500}},
		{[]api.Option{o(1, 5, 120), o(3, 0xC2, 0x23, 0x81), o(5, 1, 2, 3, 4), o(7), o(8)}, lcpo.Got{MRU: 1400, Magic: own, Prove: true, Short: true, Bare: true}},
		{[]api.Option{o(1), o(1, 0, 5), o(1, 9, 9)}, lcpo.Got{MRU: 5}}, {[]api.Option{o(1, 0, 0)}, lcpo.Got{MRU: 0}}, {[]api.Option{o(1, 1, 1, 1)}, lcpo.Got{MRU: 1500}},
		{[]api.Option{o(5, 1, 2, 3), o(5, 0, 0, 0, 7), o(5, 1, 2, 3, 4)}, lcpo.Got{MRU: 1500, Magic: 7}},
		{[]api.Option{o(3, 0xC2, 0x23), o(3, 1, 2, 3, 4), o(3, 0xC2, 0x23, 0x81)}, lcpo.Got{MRU: 1500, Prove: true}}, {[]api.Option{o(3, 1, 2, 3), o(3, 0xC2, 0x23, 0x81)}, lcpo.Got{MRU: 1500}},
		{[]api.Option{o(7, 1), o(8, 2)}, lcpo.Got{MRU: 1500}}, {[]api.Option{o(7, 1), o(7), o(9)}, lcpo.Got{MRU: 1500, Short: true}}, {[]api.Option{o(8)}, lcpo.Got{MRU: 1500, Bare: true}},
	} {
		if got := lcpo.Of(c.l); got != c.want {
			t.Errorf("Of(%v): %v, not %v", c.l, got, c.want)
		}
	}
}

// P25.2: what one wants behind a ConfNak.
func TestNaked(t *testing.T) {
	w := lcpo.Want{MRU: 1400, Magic: own, Prove: true}
	none := lcpo.Want{}
	for _, c := range []struct {
		w    lcpo.Want
		l    []api.Option
		want lcpo.Want
	}{
		{w, nil, w}, {w, []api.Option{o(1, 4, 0)}, lcpo.Want{MRU: 1024, Magic: own, Prove: true}}, {w, []api.Option{o(1, 0, 128)}, lcpo.Want{MRU: 128, Magic: own, Prove: true}}, {w, []api.Option{o(1, 5, 120)}, w},
		{w, []api.Option{o(1, 0, 127)}, w}, {w, []api.Option{o(1, 5, 121)}, w}, {w, []api.Option{o(1, 255, 255)}, w}, {w, []api.Option{o(1, 4), o(1, 4, 0), o(1, 2, 0)}, lcpo.Want{MRU: 1024, Magic: own, Prove: true}}, {w, []api.Option{o(1, 0, 1), o(1, 4, 0)}, w},
		{w, []api.Option{o(5, 9, 9, 9, 9)}, lcpo.Want{MRU: 1400, Magic: fresh, Prove: true}}, {w, []api.Option{o(5)}, lcpo.Want{MRU: 1400, Magic: fresh, Prove: true}}, {w, []api.Option{o(3, 1, 2, 3), o(9), o(7)}, w},
		{w, []api.Option{o(5, 1), o(1, 1, 0)}, lcpo.Want{MRU: 256, Magic: fresh, Prove: true}},
		{none, []api.Option{o(1, 5, 121)}, lcpo.Want{MRU: 1401}}, {none, []api.Option{o(1, 255, 255)}, lcpo.Want{MRU: 65535}}, {none, []api.Option{o(1, 0, 128)}, lcpo.Want{MRU: 128}}, {none, []api.Option{o(5, 1)}, lcpo.Want{Magic: fresh}},
	} {
		if got := lcpo.Naked(c.w, c.l, fresh); got != c.want {
			t.Errorf("Naked(%v, %v): %v, not %v", c.w, c.l, got, c.want)
		}
	}
}

// P25.2: what one wants behind a ConfRej.
func TestRejected(t *testing.T) {
	w := lcpo.Want{MRU: 1400, Magic: own, Prove: true}
	for _, c := range []struct {
		l    []api.Option
		want lcpo.Want
		may  bool
	}{
		{nil, w, true}, {[]api.Option{o(1)}, lcpo.Want{Magic: own, Prove: true}, true}, {[]api.Option{o(5, 1, 2, 3, 4)}, lcpo.Want{MRU: 1400, Prove: true}, true}, {[]api.Option{o(3)}, w, false}, {[]api.Option{o(7), o(9)}, w, true},
		{[]api.Option{o(5), o(3, 0xC2, 0x23, 0x81), o(1)}, lcpo.Want{Prove: true}, false},
	} {
		if got, may := lcpo.Rejected(w, c.l); got != c.want || may != c.may {
			t.Errorf("Rejected(%v): %v, %v", c.l, got, may)
		}
	}
}

// P25.3: what one wants is fine for whoever proves itself, and is what is asked for.
func TestWhatOneWants(t *testing.T) {
	for _, mru := range []uint16{0, 128, 129, 1400, 1500, 65535} {
		for _, magic := range []uint32{0, 1, fresh, 0xFFFFFFFF} {
			for _, prove := range []bool{false, true} {
				w := lcpo.Want{MRU: mru, Magic: magic, Prove: prove}
				l := lcpo.Options(w)
				if code, got := lcpo.Judge(l, true, own, 7); code != 2 || !same(got, l) {
					t.Errorf("%v: %d, %v", w, code, got)
				}
				asked := mru
				if mru == 0 {
					asked = 1500
				}
				if got := lcpo.Of(l); got != (lcpo.Got{MRU: asked, Magic: magic, Prove: prove}) {
					t.Errorf("%v: %v", w, got)
				}
			}
		}
	}
}

// R4 of the document: nothing is written into what is handed in, and answers share nothing with it.
func TestNothingIsShared(t *testing.T) {
	for _, l := range [][]api.Option{{o(1, 5, 120), o(5, 9, 9, 9, 9)}, {o(9, 1, 2), o(1, 5, 120)}, {o(1, 0, 1), o(5, 0, 0, 0, 0)}} {
		before := slices.Clone(l)
		_, got := lcpo.Judge(l, true, own, fresh)
		for _, x := range got {
			for i := range x.Data {
				x.Data[i] = 77
			}
		}
		for _, x := range l {
			if slices.Contains(x.Data, 77) || !same(l, before) {
				t.Error(l)
			}
		}
	}
}
