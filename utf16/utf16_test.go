package utf16_test

import (
	"bytes"
	"encoding/binary"
	"slices"
	"strings"
	"testing"
	"unicode/utf16"
	"unicode/utf8"

	"euphroe/api"
	own "euphroe/utf16"
)

// texts are some that may be.
func texts() []string {
	return []string{
		"", "a", "User", "clientPass", "a\x00b", "\x00", "\x7f", "\u0080", "é", "ß", "\u07ff", "\u0800", "€", "日本", "\ud7ff", "\ue000", "\ufeff", "\ufffd", "\ufffe", "\uffff",
		"\U00010000", "\U00010001", "\U000103ff", "\U00010400", "𝄞", "😀", "\U000fffff", "\U00100000", "\U0010ffff", "a😀b", "😀😀é\\😀",
		strings.Repeat("a", 63), strings.Repeat("a", 64), strings.Repeat("é", 64), strings.Repeat("€", 64), strings.Repeat("😀", 64), strings.Repeat("a😀", 32),
	}
}

// broken are texts that are no right UTF-8.
func broken() []string {
	return []string{
		"\x80", "\xbf", "\xc0", "\xc0\x80", "\xc1\xbf", "\xc3", "\xc3(", "\xe0\x80\x80", "\xe2\x82", "\xed\xa0\x80", "\xed\xbf\xbf", "\xed\xa0\x80\xed\xb0\x80",
		"\xf0\x80\x80\x80", "\xf0\x9f\x98", "\xf4\x90\x80\x80", "\xf5\x80\x80\x80", "\xff", "\xfe", "a\xff", "\xffa", "a\xffb", "é\xc3", strings.Repeat("a", 64) + "\xff", strings.Repeat("\xff", 65),
		strings.Repeat("a", 100) + "\xff", "\xff" + strings.Repeat("😀", 70),
	}
}

// long are texts of too many signs.
func long() []string {
	return []string{strings.Repeat("a", 65), strings.Repeat("a", 1000), strings.Repeat("é", 65), strings.Repeat("😀", 65), strings.Repeat("a", 64) + "😀", strings.Repeat("\x00", 65)}
}

// laid are units, the lower byte of each first.
func laid(units ...uint16) []byte {
	var b []byte
	for _, u := range units {
		b = binary.LittleEndian.AppendUint16(b, u)
	}
	return b
}

// P9.1: right UTF-8, of 64 signs at most, may be.
func TestMay(t *testing.T) {
	for _, s := range texts() {
		if e := own.May(s); e != api.OK {
			t.Errorf("May(%q): %d", s, e)
		}
	}
	for _, s := range broken() {
		if e := own.May(s); e != api.ErrForm {
			t.Errorf("May(%q): %d", s, e)
		}
	}
	for _, s := range long() {
		if e := own.May(s); e != api.ErrBig {
			t.Errorf("May(%q): %d", s, e)
		}
	}
}

// P9.1: how many signs, also of too many; none of what is not right.
func TestCount(t *testing.T) {
	for _, s := range append(texts(), long()...) {
		if n := own.Count(s); n != utf8.RuneCountInString(s) {
			t.Errorf("Count(%q): %d", s, n)
		}
	}
	for _, s := range broken() {
		if n := own.Count(s); n != 0 {
			t.Errorf("Count(%q): %d", s, n)
		}
	}
	if own.Count("a😀b") != 3 || own.Count(strings.Repeat("é", 65)) != 65 {
		t.Error("of signs of several bytes")
	}
}

// P9.1: the units, two of a sign beyond 0xFFFF; none of what may not be.
func TestUnits(t *testing.T) {
	for _, c := range []struct {
		s    string
		want []uint16
	}{
		{"a", []uint16{0x61}},
		{"\uffff", []uint16{0xFFFF}},
		{"\U00010000", []uint16{0xD800, 0xDC00}},
		{"\U0010ffff", []uint16{0xDBFF, 0xDFFF}},
		{"\U000103ff", []uint16{0xD800, 0xDFFF}},
		{"\U00010400", []uint16{0xD801, 0xDC00}},
		{"a😀b", []uint16{0x61, 0xD83D, 0xDE00, 0x62}},
	} {
		if got := own.Units(c.s); !slices.Equal(got, c.want) {
			t.Errorf("Units(%q): %x, not %x", c.s, got, c.want)
		}
	}
	for _, s := range texts() {
		if got := own.Units(s); !slices.Equal(got, utf16.Encode([]rune(s))) {
			t.Errorf("Units(%q): %x", s, got)
		}
	}
	for _, s := range append(broken(), long()...) {
		if got := own.Units(s); len(got) != 0 {
			t.Errorf("Units(%q): %x", s, got)
		}
	}
}

// P9.1: the units' bytes, the lower one of each first.
func TestLay(t *testing.T) {
	if got, e := own.Lay("a"); !bytes.Equal(got, []byte{97, 0}) || e != api.OK {
		t.Error(got, e)
	}
	if got, e := own.Lay("€😀"); !bytes.Equal(got, []byte{0xAC, 0x20, 0x3D, 0xD8, 0x00, 0xDE}) || e != api.OK {
		t.Errorf("%x, %d", got, e)
	}
	for _, s := range texts() {
		if got, e := own.Lay(s); !bytes.Equal(got, laid(utf16.Encode([]rune(s))...)) || e != api.OK {
			t.Errorf("Lay(%q): %x, %d", s, got, e)
		}
	}
}

// P9.1: what may not be is refused by May's error.
func TestLayRefuses(t *testing.T) {
	for _, s := range broken() {
		if got, e := own.Lay(s); len(got) != 0 || e != api.ErrForm {
			t.Errorf("Lay(%q): %x, %d", s, got, e)
		}
	}
	for _, s := range long() {
		if got, e := own.Lay(s); len(got) != 0 || e != api.ErrBig {
			t.Errorf("Lay(%q): %x, %d", s, got, e)
		}
	}
}

// P9.2: each single unit, and each kind of pair.
func TestParse(t *testing.T) {
	for u := range 0x10000 {
		s, e := own.Parse(laid(uint16(u)))
		if u >= 0xD800 && u <= 0xDFFF {
			if s != "" || e != api.ErrForm {
				t.Fatalf("%x: %q, %d", u, s, e)
			}
		} else if s != string(rune(u)) || e != api.OK {
			t.Fatalf("%x: %q, %d", u, s, e)
		}
	}
	edges := []uint16{0, 0x61, 0xD7FF, 0xD800, 0xD801, 0xDBFF, 0xDC00, 0xDC01, 0xDFFF, 0xE000, 0xFFFD, 0xFFFF}
	for _, a := range edges {
		for _, b := range edges {
			high, low := a >= 0xD800 && a < 0xDC00, b >= 0xDC00 && b < 0xE000
			single := (a < 0xD800 || a > 0xDFFF) && (b < 0xD800 || b > 0xDFFF)
			s, e := own.Parse(laid(a, b))
			if high && low || single {
				if s != string(utf16.Decode([]uint16{a, b})) || e != api.OK {
					t.Errorf("%x, %x: %q, %d", a, b, s, e)
				}
			} else if s != "" || e != api.ErrForm {
				t.Errorf("%x, %x: %q, %d", a, b, s, e)
			}
		}
	}
}

// P9.2: an odd number of bytes, single halves of pairs, and too many signs are refused, in this order.
func TestParseRefuses(t *testing.T) {
	many := bytes.Repeat(laid(0x61), 65)
	wide := bytes.Repeat(laid(0xD83D, 0xDE00), 65)
	for _, c := range []struct {
		b    []byte
		want api.Errno
	}{
		{[]byte{0x61}, api.ErrEnd},
		{[]byte{0x00, 0xD8, 0x00}, api.ErrEnd},
		{append(slices.Clone(many), 0), api.ErrEnd},
		{append(laid(0xDC00), 0), api.ErrEnd},
		{laid(0xDC00, 0xD800), api.ErrForm},
		{laid(0xD800, 0xD800, 0xDC00), api.ErrForm},
		{laid(0xD800, 0xDC00, 0xDC00), api.ErrForm},
		{laid(0xD800, 0x61, 0xDC00), api.ErrForm},
		{laid(0x61, 0xD800), api.ErrForm},
		{laid(0xD800, 0xDC00, 0xD800), api.ErrForm},
		{append(slices.Clone(many), laid(0xD800)...), api.ErrForm},
		{append(slices.Clone(many), laid(0xDFFF, 0x61)...), api.ErrForm},
		{append(laid(0xDC00), many...), api.ErrForm},
		{many, api.ErrBig},
		{wide, api.ErrBig},
		{bytes.Repeat(many, 100), api.ErrBig},
		{append(slices.Clone(many[:128]), laid(0xD83D, 0xDE00)...), api.ErrBig},
	} {
		if s, e := own.Parse(c.b); s != "" || e != c.want {
			t.Errorf("Parse(%x): %q, %d, not %d", c.b, s, e, c.want)
		}
	}
	if s, e := own.Parse(many[:128]); s != strings.Repeat("a", 64) || e != api.OK {
		t.Errorf("64 signs of a unit: %q, %d", s, e)
	}
	if s, e := own.Parse(wide[:256]); s != strings.Repeat("😀", 64) || e != api.OK {
		t.Errorf("64 signs of two: %q, %d", s, e)
	}
	if s, e := own.Parse(nil); s != "" || e != api.OK {
		t.Errorf("none: %q, %d", s, e)
	}
}

// P9.3: what stands behind the last backslash.
func TestBare(t *testing.T) {
	for _, c := range [][2]string{
		{"", ""}, {"User", "User"}, {"DOM\\User", "User"}, {"a\\b\\c", "c"}, {"\\User", "User"}, {"User\\", ""}, {"\\", ""}, {"\\\\", ""}, {"\\\\a", "a"},
		{"a/b", "a/b"}, {"é\\😀", "😀"}, {"\xff\\\xfe", "\xfe"}, {"a\\b\x00c", "b\x00c"}, {strings.Repeat("x", 99) + "\\" + strings.Repeat("y", 99), strings.Repeat("y", 99)},
		{"a＼b", "a＼b"}, {"user@dom", "user@dom"},
	} {
		if got := own.Bare(c[0]); got != c[1] {
			t.Errorf("Bare(%q): %q, not %q", c[0], got, c[1])
		}
	}
}

// P9.3: all bytes are from 32 to 126.
func TestAscii(t *testing.T) {
	for b := range 256 {
		want := b >= 32 && b <= 126
		one := string([]byte{byte(b)})
		for _, s := range []string{one, "a" + one, one + "a", "a" + one + "a"} {
			if own.Ascii(s) != want {
				t.Errorf("Ascii(%q): %v", s, !want)
			}
		}
	}
	if !own.Ascii("") || own.Ascii("é") || own.Ascii("a😀") || !own.Ascii(strings.Repeat("~ ", 500)) {
		t.Error("of none, of other signs, of many")
	}
}

// P9.4: what is laid is parsed.
func TestWhatIsLaidIsParsed(t *testing.T) {
	for _, s := range texts() {
		b, _ := own.Lay(s)
		if got, e := own.Parse(b); got != s || e != api.OK {
			t.Errorf("%q: %q, %d", s, got, e)
		}
	}
	for r := rune(0); r <= utf8.MaxRune; r += 61 {
		if !utf8.ValidRune(r) {
			continue
		}
		s := "x" + string(r)
		b, _ := own.Lay(s)
		if got, e := own.Parse(b); got != s || e != api.OK {
			t.Fatalf("%x: %q, %d", r, got, e)
		}
	}
}

// P9.4: what is parsed is laid as the same.
func TestWhatIsParsedIsLaid(t *testing.T) {
	for i := range 1 << 16 {
		b := laid(uint16(i), uint16(i*40503+7), uint16(i*30011))
		s, e := own.Parse(b)
		if e != api.OK {
			continue
		}
		if got, e := own.Lay(s); !bytes.Equal(got, b) || e != api.OK {
			t.Fatalf("%x: %q, %x, %d", b, s, got, e)
		}
	}
}

// R4 of the document: nothing is written into what is handed in.
func TestNothingIsWritten(t *testing.T) {
	b := laid(0x61, 0xD83D, 0xDE00, 0x62)
	own.Parse(b[:6])
	own.Parse(b)
	if !bytes.Equal(b, laid(0x61, 0xD83D, 0xDE00, 0x62)) {
		t.Errorf("%x", b)
	}
}
