package words_test

import (
	"bytes"
	"math"
	"slices"
	"strconv"
	"strings"
	"testing"

	"euphroe/api"
	"euphroe/words"
)

// P14.1: A to Z alone are turned, whatever else stands there.
func TestLower(t *testing.T) {
	for _, c := range [][2]string{
		{"", ""}, {"Host", "host"}, {"AZ@[`az{", "az@[`az{"}, {"ÄÖÜ É", "ÄÖÜ É"}, {"A\xffB\x80", "a\xffb\x80"}, {"\xc3A", "\xc3a"}, {"0Z9\x00Q", "0z9\x00q"}, {"\u212aK", "\u212ak"}, {"日A本", "日a本"},
	} {
		if got := words.Lower(c[0]); got != c[1] {
			t.Errorf("Lower(%q): %q, not %q", c[0], got, c[1])
		}
	}
	for b := range 256 {
		want := byte(b)
		if b >= 65 && b <= 90 {
			want += 32
		}
		if got := words.Lower(string([]byte{byte(b)})); got != string([]byte{want}) {
			t.Errorf("of the byte %d: %q", b, got)
		}
	}
}

// P14.1: alike are texts whose letters may be great or small.
func TestAlike(t *testing.T) {
	for _, c := range []struct {
		a, b string
		want bool
	}{
		{"", "", true}, {"host", "HOST", true}, {"Host", "hOST", true}, {"Host", "Hos", false}, {"Hos", "Host", false}, {"a", "b", false}, {"@", "`", false}, {"[", "{", false},
		{"ä", "Ä", false}, {"\u212a", "k", false}, {"\u017f", "s", false}, {"\xff", "\xfe", false}, {"\xffA", "\xffa", true}, {"a ", "a", false},
	} {
		if words.Alike(c.a, c.b) != c.want {
			t.Errorf("Alike(%q, %q): %v", c.a, c.b, !c.want)
		}
	}
}

// P14.1: 1 to 64 letters, digits, and six signs more.
func TestToken(t *testing.T) {
	const fine = "ABCDEFGHIJKLMNOPQRSTUVWXYZabcdefghijklmnopqrstuvwxyz0123456789-_.{}/"
	for b := range 256 {
		one := string([]byte{byte(b)})
		want := b < 128 && strings.Contains(fine, one)
		for _, s := range []string{one, "a" + one, one + "a", "a" + one + "a"} {
			if words.Token(s) != want {
				t.Errorf("Token(%q): %v", s, !want)
			}
		}
	}
	for _, c := range []struct {
		s    string
		want bool
	}{
		{"", false}, {strings.Repeat("a", 64), true}, {strings.Repeat("a", 65), false}, {fine[:64], true}, {"é", false}, {strings.Repeat("/", 64), true}, {strings.Repeat("a", 63) + "é", false}, {strings.Repeat("a", 1000), false},
	} {
		if words.Token(c.s) != c.want {
			t.Errorf("Token(%q): %v", c.s, !c.want)
		}
	}
}

// P14.1: blanks, 32 and 9, go at both ends, and nowhere else.
func TestTrim(t *testing.T) {
	for _, c := range [][2]string{
		{"", ""}, {" a ", "a"}, {"a", "a"}, {" \t a \t b\t ", "a \t b"}, {"\t", ""}, {"  ", ""}, {"\na\r", "\na\r"}, {"\u00a0a\u00a0", "\u00a0a\u00a0"}, {"\v a \f", "\v a \f"}, {"\x00 ", "\x00"}, {" \xff ", "\xff"},
	} {
		if got := words.Trim(c[0]); got != c[1] {
			t.Errorf("Trim(%q): %q, not %q", c[0], got, c[1])
		}
	}
}

// P14.1: what is nobody's digits is ErrForm, whatever its size; what is too great ErrBig.
func TestNumber(t *testing.T) {
	for _, c := range []struct {
		s    string
		want uint64
		e    api.Errno
	}{
		{"0", 0, api.OK}, {"7", 7, api.OK}, {"10", 10, api.OK}, {"18446744073709551615", math.MaxUint64, api.OK}, {"9223372036854775808", 1 << 63, api.OK},
		{"18446744073709551616", 0, api.ErrBig}, {"20000000000000000000", 0, api.ErrBig}, {"99999999999999999999999", 0, api.ErrBig}, {"1" + strings.Repeat("0", 300), 0, api.ErrBig},
		{"", 0, api.ErrForm}, {"00", 0, api.ErrForm}, {"01", 0, api.ErrForm}, {"0" + strings.Repeat("9", 30), 0, api.ErrForm}, {"+1", 0, api.ErrForm}, {"-1", 0, api.ErrForm}, {"1 ", 0, api.ErrForm},
		{" 1", 0, api.ErrForm}, {"1_0", 0, api.ErrForm}, {"0x1", 0, api.ErrForm}, {"1.0", 0, api.ErrForm}, {"a", 0, api.ErrForm}, {"1/", 0, api.ErrForm}, {"1:", 0, api.ErrForm}, {"٣", 0, api.ErrForm},
		{"1\x00", 0, api.ErrForm}, {strings.Repeat("9", 30) + "x", 0, api.ErrForm}, {"1\xff", 0, api.ErrForm},
	} {
		if n, e := words.Number(c.s); n != c.want || e != c.e {
			t.Errorf("Number(%q): %d, %d, not %d, %d", c.s, n, e, c.want, c.e)
		}
	}
}

// P14.1, P14.4: digits without noughts ahead; they are read as the number.
func TestDigits(t *testing.T) {
	for _, n := range []uint64{0, 1, 9, 10, 11, 99, 100, 255, 65536, 1<<32 - 1, 1 << 32, 1<<63 - 1, 1 << 63, math.MaxUint64 - 1, math.MaxUint64} {
		s := words.Digits(n)
		if s != strconv.FormatUint(n, 10) {
			t.Errorf("Digits(%d): %q", n, s)
		}
		if got, e := words.Number(s); got != n || e != api.OK {
			t.Errorf("Number(%q): %d, %d", s, got, e)
		}
	}
}

// P14.4: what is Lower is alike.
func TestLowerIsAlike(t *testing.T) {
	for _, s := range []string{"", "Host", "CONTENT-Length", "ÄB", "\xffQ", "a\tZ"} {
		if !words.Alike(s, words.Lower(s)) || !words.Alike(words.Lower(s), s) || words.Lower(words.Lower(s)) != words.Lower(s) {
			t.Errorf("%q", s)
		}
	}
}

// P14.2: a head's lines, and how many bytes it has, whatever stands behind.
func TestHead(t *testing.T) {
	full := strings.Repeat("x", 2044)
	for _, c := range []struct {
		b     string
		lines []string
		size  int
	}{
		{"\r\n", nil, 2},
		{"\r\n\r\n", nil, 2},
		{"\r\nabc", nil, 2},
		{"a\r\n\r\n", []string{"a"}, 5},
		{"a\r\n\r\nrest\n\x00", []string{"a"}, 5},
		{"a\r\nb c\td~ \r\n\r\n", []string{"a", "b c\td~ "}, 14},
		{" \r\n\r\n", []string{" "}, 5},
		{"a\r\n\r\n\xff", []string{"a"}, 5},
		{full + "\r\n\r\n", []string{full}, 2048},
		{full + "\r\n\r\nmore", []string{full}, 2048},
		{"a\r\n\r\n" + strings.Repeat("\x00", 5000), []string{"a"}, 5},
	} {
		lines, size, e := words.Head([]byte(c.b))
		if !slices.Equal(lines, c.lines) || size != c.size || e != api.OK {
			t.Errorf("Head(%.40q): %q, %d, %d", c.b, lines, size, e)
		}
	}
}

// P14.2: what no line has, a 13 and a 10 that stand alone, what ends too soon, and what is too long.
func TestHeadRefuses(t *testing.T) {
	x := func(n int) string { return strings.Repeat("x", n) }
	for _, c := range []struct {
		b    string
		want api.Errno
	}{
		{"", api.ErrEnd}, {"\r", api.ErrEnd}, {"a", api.ErrEnd}, {"a\r", api.ErrEnd}, {"a\r\n", api.ErrEnd}, {"a\r\n\r", api.ErrEnd}, {"a\r\nb\r\n", api.ErrEnd}, {x(2047), api.ErrEnd}, {x(2046) + "\r", api.ErrEnd},
		{x(2044) + "\r\n\r", api.ErrEnd},
		{"\n", api.ErrForm}, {"a\n", api.ErrForm}, {"a\r\n\n", api.ErrForm}, {"\r\r\n", api.ErrForm}, {"a\rb", api.ErrForm}, {"a\r\r", api.ErrForm}, {"a\x00", api.ErrForm}, {"a\x7f", api.ErrForm}, {"\x1f", api.ErrForm},
		{"a\x80\r\n\r\n", api.ErrForm}, {"é\r\n\r\n", api.ErrForm}, {"a\v", api.ErrForm}, {"a\x08", api.ErrForm}, {"\n\r\n\r\n", api.ErrForm}, {"a\r\n\x00", api.ErrForm},
		{x(2047) + "\x00", api.ErrForm}, {x(2047) + "\n", api.ErrForm}, {x(2046) + "\r" + "y", api.ErrForm}, {x(3000)[:2000] + "\x00" + x(999), api.ErrForm},
		{x(2048), api.ErrBig}, {x(5000), api.ErrBig}, {x(2048) + "\x00", api.ErrBig}, {x(2047) + "\r", api.ErrBig}, {x(2047) + "\r\n\r\n", api.ErrBig}, {x(2047) + "\rq", api.ErrBig}, {x(2045) + "\r\n\r", api.ErrBig},
		{x(2045) + "\r\n\r\n", api.ErrBig}, {x(2046) + "\r\n\r\n", api.ErrBig}, {x(2045) + "\r\n\rq", api.ErrBig}, {x(2044) + "\r\nq\r\n\r\n", api.ErrBig},
	} {
		if lines, size, e := words.Head([]byte(c.b)); len(lines) != 0 || size != 0 || e != c.want {
			t.Errorf("Head(%.20q of %d): %q, %d, %d, not %d", c.b, len(c.b), lines, size, e, c.want)
		}
	}
}

// P14.2: of each byte by itself.
func TestHeadBytes(t *testing.T) {
	for b := range 256 {
		_, _, e := words.Head([]byte{'a', byte(b)})
		want := api.ErrForm
		if b == 9 || b == 13 || b >= 32 && b <= 126 {
			want = api.ErrEnd
		}
		if e != want {
			t.Errorf("%d: %d, not %d", b, e, want)
		}
	}
}

// P14.3: of each line a token, and its value without blanks.
func TestFields(t *testing.T) {
	got, e := words.Fields([]string{"Host: a", "X-1:b", "{y}/_.: \t c: d \t", "Z:", "Q: \t ", "V:\x00\xff\r\n", "host :x"[:4] + ":é "})
	want := []words.Field{{"Host", "a"}, {"X-1", "b"}, {"{y}/_.", "c: d"}, {"Z", ""}, {"Q", ""}, {"V", "\x00\xff\r\n"}, {"host", "é"}}
	if !slices.Equal(got, want) || e != api.OK {
		t.Errorf("%q, %d", got, e)
	}
	if got, e := words.Fields(nil); len(got) != 0 || e != api.OK {
		t.Errorf("of none: %q, %d", got, e)
	}
	if got, e := words.Fields(slices.Repeat([]string{"a: b"}, 32)); len(got) != 32 || e != api.OK {
		t.Errorf("of 32: %d, %d", len(got), e)
	}
}

// P14.3: too many lines, and what is no field.
func TestFieldsRefuses(t *testing.T) {
	if got, e := words.Fields(slices.Repeat([]string{"a: b"}, 33)); len(got) != 0 || e != api.ErrMany {
		t.Errorf("of 33: %d, %d", len(got), e)
	}
	if got, e := words.Fields(slices.Repeat([]string{""}, 33)); len(got) != 0 || e != api.ErrMany {
		t.Errorf("of 33 that are none: %d, %d", len(got), e)
	}
	for _, s := range []string{"", "a", ":", ": b", "a : b", " a: b", "a\t: b", "é: b", "a b: c", strings.Repeat("a", 65) + ": b", "\x00: b", "a;b"} {
		for _, l := range [][]string{{s}, {"a: b", s}, {s, "a: b"}} {
			if got, e := words.Fields(l); len(got) != 0 || e != api.ErrForm {
				t.Errorf("Fields(%q): %q, %d", l, got, e)
			}
		}
	}
}

// P14.3: none, one, and more than one of a name.
func TestFind(t *testing.T) {
	l := []words.Field{{"Host", "a"}, {"Two", "b"}, {"tWO", "b"}, {"Empty", ""}, {"ä b", "odd"}, {"Three", "1"}, {"Three", "2"}, {"Three", "3"}}
	for _, c := range []struct {
		name, want string
		e          api.Errno
	}{
		{"Host", "a", api.OK}, {"hOsT", "a", api.OK}, {"Empty", "", api.OK}, {"ä B", "odd", api.OK}, {"Two", "", api.ErrThere}, {"two", "", api.ErrThere}, {"three", "", api.ErrThere}, {"Hos", "", api.ErrNone}, {"", "", api.ErrNone}, {"Hosts", "", api.ErrNone},
	} {
		if got, e := words.Find(l, c.name); got != c.want || e != c.e {
			t.Errorf("Find(%q): %q, %d", c.name, got, e)
		}
	}
	if got, e := words.Find(nil, "Host"); got != "" || e != api.ErrNone {
		t.Errorf("of none: %q, %d", got, e)
	}
}

// R4 of the document: nothing is written into what is handed in, and nothing of it is kept.
func TestNothingIsWritten(t *testing.T) {
	b := []byte("Abc: d\r\nE: f\r\n\r\n")
	before := bytes.Clone(b)
	lines, _, _ := words.Head(b)
	if !bytes.Equal(b, before) {
		t.Errorf("%q", b)
	}
	clear(b)
	if !slices.Equal(lines, []string{"Abc: d", "E: f"}) {
		t.Errorf("%q", lines)
	}
}
