package octs

import (
	"bytes"
	"math"
	"strings"
	"testing"
	"time"

	"euphroe/api"
)

// numbers are some of each width, with all their bytes unlike where they have several.
func numbers() []uint64 {
	return []uint64{
		0, 1, 127, 128, 255, 256, 258, 65535, 65536, 0x010203, 0x01020304, 0xFFFFFFFF, 0x0102030405,
		0x010203040506, 0x01020304050607, 0x0102030405060708, 0xF1E2D3C4B5A69788, 1 << 63, math.MaxUint64,
	}
}

// every is all bytes, each once.
func every() []byte {
	b := make([]byte, 256)
	for i := range b {
		b[i] = byte(i)
	}
	return b
}

// P1.1: a number's lowest bits, the highest byte first, or the lowest one.
func TestPutLaysNumbers(t *testing.T) {
	for _, c := range []struct {
		n      uint64
		width  int
		little bool
		want   string
	}{
		{258, 2, false, "\x01\x02"},
		{258, 2, true, "\x02\x01"},
		{0, 1, false, "\x00"},
		{0, 8, true, "\x00\x00\x00\x00\x00\x00\x00\x00"},
		{5, 4, false, "\x00\x00\x00\x05"},
		{5, 4, true, "\x05\x00\x00\x00"},
		{0x010203, 3, false, "\x01\x02\x03"},
		{0x010203, 3, true, "\x03\x02\x01"},
		{0x0102030405060708, 8, false, "\x01\x02\x03\x04\x05\x06\x07\x08"},
		{0x0102030405060708, 8, true, "\x08\x07\x06\x05\x04\x03\x02\x01"},
		{0x0102030405060708, 7, false, "\x02\x03\x04\x05\x06\x07\x08"},
		{0x0102030405060708, 7, true, "\x08\x07\x06\x05\x04\x03\x02"},
		{0x0102030405060708, 1, false, "\x08"},
		{0x0102030405060708, 1, true, "\x08"},
		{math.MaxUint64, 8, false, "\xFF\xFF\xFF\xFF\xFF\xFF\xFF\xFF"},
		{math.MaxUint64, 5, true, "\xFF\xFF\xFF\xFF\xFF"},
	} {
		if b, e := Put(c.n, c.width, c.little); string(b) != c.want || e != api.OK {
			t.Errorf("Put(%#x, %d, %v): %x, %d, not %x", c.n, c.width, c.little, b, e, c.want)
		}
	}
}

// P1.1: a width that is not 1 to 8 is refused.
func TestPutRefusesWidths(t *testing.T) {
	for _, width := range []int{math.MinInt, -8, -1, 0, 9, 10, 16, 64, 257, math.MaxInt} {
		for _, little := range []bool{false, true} {
			if b, e := Put(258, width, little); len(b) != 0 || e != api.ErrArg {
				t.Errorf("Put in %d bytes: %x, %d", width, b, e)
			}
		}
	}
}

// P1.1: the number whose bytes they are.
func TestGetReadsNumbers(t *testing.T) {
	for _, c := range []struct {
		b      string
		little bool
		want   uint64
	}{
		{"\x01\x02", false, 258},
		{"\x02\x01", true, 258},
		{"\x00", false, 0},
		{"\xFF", true, 255},
		{"\x00\x00\x05", false, 5},
		{"\x00\x00\x05", true, 0x050000},
		{"\x80\x00\x00\x00", false, 1 << 31},
		{"\x80\x00\x00\x00", true, 128},
		{"\x01\x02\x03\x04\x05\x06\x07\x08", false, 0x0102030405060708},
		{"\x01\x02\x03\x04\x05\x06\x07\x08", true, 0x0807060504030201},
		{"\xFF\xFF\xFF\xFF\xFF\xFF\xFF\xFF", false, math.MaxUint64},
	} {
		if n, e := Get([]byte(c.b), c.little); n != c.want || e != api.OK {
			t.Errorf("Get(%x, %v): %#x, %d, not %#x", c.b, c.little, n, e, c.want)
		}
	}
}

// P1.1: no bytes, and more than eight, are refused.
func TestGetRefusesLengths(t *testing.T) {
	for _, b := range [][]byte{nil, {}, make([]byte, 9), bytes.Repeat([]byte{255}, 9), every()} {
		for _, little := range []bool{false, true} {
			if n, e := Get(b, little); n != 0 || e != api.ErrArg {
				t.Errorf("Get of %d bytes: %d, %d", len(b), n, e)
			}
		}
	}
}

// P1.2: each byte turned by the other one.
func TestXorTurns(t *testing.T) {
	for _, c := range []struct{ a, b, want string }{
		{"", "", ""},
		{"\x00", "\xFF", "\xFF"},
		{"\x0F\xF0\xAA", "\xFF\xFF\x55", "\xF0\x0F\xFF"},
		{"same", "same", "\x00\x00\x00\x00"},
	} {
		if b, e := Xor([]byte(c.a), []byte(c.b)); string(b) != c.want || e != api.OK {
			t.Errorf("Xor(%x, %x): %x, %d, not %x", c.a, c.b, b, e, c.want)
		}
	}
	if b, e := Xor(nil, []byte{}); len(b) != 0 || e != api.OK {
		t.Errorf("Xor of none: %x, %d", b, e)
	}
	down := every()
	for i := range down {
		down[i] = byte(7*i + 3)
	}
	b, e := Xor(every(), down)
	if len(b) != 256 || e != api.OK {
		t.Fatal(len(b), e)
	}
	for i := range b {
		if b[i] != byte(i)^down[i] {
			t.Errorf("byte %d: %x", i, b[i])
		}
	}
}

// P1.2: as many bytes of both are asked for.
func TestXorRefusesLengths(t *testing.T) {
	for _, c := range [][2][]byte{
		{nil, {1}}, {{1}, nil}, {{}, {0}}, {{1, 2}, {1}}, {{1}, {1, 2}}, {make([]byte, 256), {}}, {make([]byte, 257), {1}},
	} {
		if b, e := Xor(c[0], c[1]); len(b) != 0 || e != api.ErrArg {
			t.Errorf("Xor of %d and %d bytes: %x, %d", len(c[0]), len(c[1]), b, e)
		}
	}
}

// P1.2: the same are the same, whatever memory they lie in.
func TestSameTells(t *testing.T) {
	for _, c := range []struct {
		a, b []byte
		want bool
	}{
		{nil, nil, true},
		{nil, []byte{}, true},
		{[]byte{}, nil, true},
		{[]byte{0}, []byte{0}, true},
		{every(), every(), true},
		{nil, []byte{0}, false},
		{[]byte{0}, nil, false},
		{[]byte{1}, []byte{1, 0}, false},
		{[]byte{1, 0}, []byte{1}, false},
		{[]byte{1, 2}, []byte{2, 1}, false},
		{[]byte{1, 1}, []byte{0, 0}, false},
		{[]byte{128, 128}, []byte{0, 0}, false},
		{make([]byte, 256), nil, false},
		{nil, make([]byte, 65536), false},
		{make([]byte, 257), make([]byte, 1), false},
	} {
		if got := Same(c.a, c.b); got != c.want {
			t.Errorf("Same of %d and %d bytes: %v", len(c.a), len(c.b), got)
		}
	}
}

// P1.2: one bit at any place makes them unlike.
func TestSameLooksAtEachBit(t *testing.T) {
	for i := range 256 {
		for bit := range 8 {
			b := every()
			b[i] ^= 1 << bit
			if Same(every(), b) || Same(b, every()) {
				t.Fatalf("byte %d, bit %d", i, bit)
			}
		}
	}
}

// P1.2: all bytes are looked at, wherever the first one differs: to leave at the first one would be some 10^5 times faster here than to go on to the last one.
func TestSameGoesOnBehindADifference(t *testing.T) {
	a := make([]byte, 1<<22)
	first, last := bytes.Clone(a), bytes.Clone(a)
	first[0], last[len(last)-1] = 1, 1
	early, late := time.Hour, time.Hour
	for range 9 {
		early = min(early, lasts(t, a, first))
		late = min(late, lasts(t, a, last))
	}
	if early < late/10 {
		t.Errorf("%v where the first byte differs, %v where the last one does", early, late)
	}
}

// lasts is how long it takes to find that two are unlike.
func lasts(t *testing.T, a, b []byte) time.Duration {
	start := time.Now()
	if Same(a, b) {
		t.Fatal("unlike ones are told to be the same")
	}
	return time.Since(start)
}

// P1.2: all parts, one behind the other.
func TestJoinLaysPartsBehindEachOther(t *testing.T) {
	for _, c := range []struct {
		parts [][]byte
		want  string
	}{
		{nil, ""},
		{[][]byte{nil}, ""},
		{[][]byte{{}, nil, {}}, ""},
		{[][]byte{[]byte("one")}, "one"},
		{[][]byte{[]byte("b"), []byte("a")}, "ba"},
		{[][]byte{nil, []byte("ab"), {}, []byte("c"), nil, []byte("def")}, "abcdef"},
		{[][]byte{every(), every()}, string(every()) + string(every())},
	} {
		if b := Join(c.parts...); string(b) != c.want {
			t.Errorf("Join(%x): %x, not %x", c.parts, b, c.want)
		}
	}
	if b := Join(); len(b) != 0 {
		t.Errorf("Join of no parts: %x", b)
	}
}

// P1.3: two digits a byte, the great ones.
func TestHexTellsDigits(t *testing.T) {
	for _, c := range []struct{ b, want string }{
		{"", ""},
		{"\x00", "00"},
		{"\x09\x0A\x0F\x10", "090A0F10"},
		{"\x01\x23\x45\x67\x89\xAB\xCD\xEF", "0123456789ABCDEF"},
		{"\xFF\x9F\xA0", "FF9FA0"},
	} {
		if s := Hex([]byte(c.b)); s != c.want {
			t.Errorf("Hex(%x): %s, not %s", c.b, s, c.want)
		}
	}
	if s := Hex(nil); s != "" {
		t.Errorf("Hex of nil: %s", s)
	}
}

// P1.3: digits, great and small ones, are read.
func TestUnhexReadsDigits(t *testing.T) {
	for _, c := range []struct{ s, want string }{
		{"", ""},
		{"00", "\x00"},
		{"0123456789ABCDEF", "\x01\x23\x45\x67\x89\xAB\xCD\xEF"},
		{"0123456789abcdef", "\x01\x23\x45\x67\x89\xAB\xCD\xEF"},
		{"aBAbFfF0", "\xAB\xAB\xFF\xF0"},
	} {
		if b, e := Unhex(c.s); string(b) != c.want || e != api.OK {
			t.Errorf("Unhex(%q): %x, %d, not %x", c.s, b, e, c.want)
		}
	}
}

// P1.3: what is not of pairs of digits is refused, wherever the wrong sign stands.
func TestUnhexRefuses(t *testing.T) {
	for _, s := range []string{
		"0", "000", "ABC", "g", "0g", "g0", "0G", "G0", " 0", "0 ", "0x", "x0", "-1", "+1", "0_", "/0", "0/", ":0", "0:",
		"@0", "0@", "`0", "0`", "é", "\x00\x00", "\xFF\xFF", "00\n", "00\n\n", "zz00", "00zz00", "0000zz", "000000z", "\uFF10\uFF11",
	} {
		if b, e := Unhex(s); len(b) != 0 || e != api.ErrForm {
			t.Errorf("Unhex(%q): %x, %d", s, b, e)
		}
	}
}

// P1.3: of all pairs of bytes just those of digits are read.
func TestUnhexOfAllPairs(t *testing.T) {
	const all = "0123456789abcdef"
	for i := range 65536 {
		s := string([]byte{byte(i >> 8), byte(i)})
		high, low := strings.Index(all, strings.ToLower(s[:1])), strings.Index(all, strings.ToLower(s[1:]))
		b, e := Unhex(s)
		if high < 0 || low < 0 {
			if len(b) != 0 || e != api.ErrForm {
				t.Errorf("Unhex(%q): %x, %d", s, b, e)
			}
			continue
		}
		if e != api.OK || len(b) != 1 || int(b[0]) != 16*high+low {
			t.Errorf("Unhex(%q): %x, %d", s, b, e)
		}
	}
}

// P1.4: what is laid is read, if it fits, and its lowest bits else.
func TestWhatIsLaidIsRead(t *testing.T) {
	for _, n := range numbers() {
		for width := 1; width <= 8; width++ {
			for _, little := range []bool{false, true} {
				b, e := Put(n, width, little)
				if e != api.OK || len(b) != width {
					t.Fatalf("Put(%#x, %d, %v): %x, %d", n, width, little, b, e)
				}
				want := n & (math.MaxUint64 >> (64 - 8*width))
				if got, e := Get(b, little); got != want || e != api.OK {
					t.Errorf("%#x in %d bytes (%v): %#x, %d", n, width, little, got, e)
				}
			}
		}
	}
}

// P1.4: what is turned twice is as it was.
func TestTurnedTwiceIsAsItWas(t *testing.T) {
	for size := range 257 {
		a, key := every()[:size], make([]byte, size)
		for i := range key {
			key[i] = byte(31*i + size)
		}
		once, _ := Xor(a, key)
		twice, e := Xor(once, key)
		if e != api.OK || !Same(twice, a) || !bytes.Equal(twice, a) {
			t.Errorf("%d bytes: %x, %d", size, twice, e)
		}
	}
}

// P1.4: what is told in digits is read, as great ones and as small ones.
func TestWhatIsToldInDigitsIsRead(t *testing.T) {
	for size := range 257 {
		told := every()[256-size:]
		s := Hex(told)
		for _, x := range []string{s, strings.ToLower(s)} {
			if b, e := Unhex(x); !bytes.Equal(b, told) || e != api.OK {
				t.Errorf("%s: %x, %d", x, b, e)
			}
		}
	}
}

// R4 and rule 7 of the language: nothing is written into what is handed in, and an answer is memory of its own.
func TestAnswersShareNothing(t *testing.T) {
	a, b := []byte{1, 2, 3, 4}, []byte{5, 6, 7, 8}
	joined, alone, turned := Join(a[:2], b[:2]), Join(a), must(Xor(a, b))
	Get(a, true)
	Same(a, b)
	Hex(a)
	for _, answer := range [][]byte{joined, alone, turned} {
		for i := range answer {
			answer[i] = 99
		}
		_ = append(answer, 99, 99)
	}
	if !bytes.Equal(a, []byte{1, 2, 3, 4}) || !bytes.Equal(b, []byte{5, 6, 7, 8}) {
		t.Error(a, b)
	}
}

func must(b []byte, e api.Errno) []byte {
	if e != api.OK {
		panic(e)
	}
	return b
}
