package httpq_test

import (
	"bytes"
	"math"
	"strings"
	"testing"

	"euphroe/api"
	"euphroe/httpq"
)

const (
	first  = "SSTP_DUPLEX_POST /sra_{BA195980-CD49-458b-9E23-C84EE0ADCD75}/ HTTP/1.1\r\n"
	host   = "Host: server.example\r\n"
	length = "Content-Length: 18446744073709551615\r\n"
	id     = "SSTPCORRELATIONID: {00112233-4455-6677-8899-AABBCCDDEEFF}\r\n"
	guid   = "{00112233-4455-6677-8899-AABBCCDDEEFF}"
)

// number are the bytes of guid.
func number() [16]byte {
	var n [16]byte
	for i := range n {
		n[i] = byte(17 * i)
	}
	return n
}

// The constants are the tunnel's.
func TestConstants(t *testing.T) {
	if httpq.Path != "/sra_{BA195980-CD49-458b-9E23-C84EE0ADCD75}/" || httpq.Method != "SSTP_DUPLEX_POST" || httpq.Length != "18446744073709551615" {
		t.Error(httpq.Path, httpq.Method, httpq.Length)
	}
}

// P15.1: an id's text has letters A to F.
func TestGuid(t *testing.T) {
	if s := httpq.Guid(number()); s != guid {
		t.Error(s)
	}
	if s := httpq.Guid([16]byte{}); s != "{00000000-0000-0000-0000-000000000000}" {
		t.Error(s)
	}
	if s := httpq.Guid([16]byte{0xBA, 0x19, 0x59, 0x80, 0xCD, 0x49, 0x45, 0x8B, 0x9E, 0x23, 0xC8, 0x4E, 0xE0, 0xAD, 0xCD, 0x75}); s != "{BA195980-CD49-458B-9E23-C84EE0ADCD75}" {
		t.Error(s)
	}
}

// P15.1: the id of a text, whose letters may be small.
func TestId(t *testing.T) {
	for _, s := range []string{guid, strings.ToLower(guid), "{00112233-4455-6677-8899-aABbCcDdeeFF}"} {
		if n, e := httpq.Id(s); n != number() || e != api.OK {
			t.Errorf("Id(%q): %x, %d", s, n, e)
		}
	}
	for _, s := range []string{
		"", "{}", guid[1:], guid[:37], guid + " ", " " + guid, "(" + guid[1:], guid[:37] + ")", "00112233-4455-6677-8899-AABBCCDDEEFF", "{00112233445566778899AABBCCDDEEFF}",
		"{0011223-34455-6677-8899-AABBCCDDEEFF}", "{00112233-4455-6677-8899-AABBCCDDEEFG}", "{00112233-4455-6677-8899_AABBCCDDEEFF}", "{00112233 4455-6677-8899-AABBCCDDEEFF}", "{00112233-4455a6677-8899-AABBCCDDEEFF}",
		"{00112233-4455-6677b8899-AABBCCDDEEFF}", "{00112233-4455-6677-8899-AABBCCDDEEF}", "{00112233-4455-6677-8899-AABBCCDDEEFFF}", "0" + guid[1:], guid[:37] + "0", strings.Repeat("0", 38), "{0011223é-4455-6677-8899-ABBCCDDEEFF}",
	} {
		if n, e := httpq.Id(s); n != [16]byte{} || e != api.ErrForm {
			t.Errorf("Id(%q): %x, %d", s, n, e)
		}
	}
	for i := range len(guid) {
		s := guid[:i] + "x" + guid[i+1:]
		if _, e := httpq.Id(s); e != api.ErrForm {
			t.Errorf("Id(%q): %d", s, e)
		}
	}
}

// P15.1: a request's bytes, with and without an id.
func TestLay(t *testing.T) {
	for _, c := range []struct {
		r    httpq.Request
		want string
	}{
		{httpq.Request{Host: "server.example"}, first + host + length + "\r\n"},
		{httpq.Request{Host: "server.example", ID: guid}, first + host + length + id + "\r\n"},
		{httpq.Request{Host: "server.example", ID: strings.ToLower(guid)}, first + host + length + "SSTPCORRELATIONID: " + strings.ToLower(guid) + "\r\n\r\n"},
		{httpq.Request{Host: "!"}, first + "Host: !\r\n" + length + "\r\n"},
		{httpq.Request{Host: "~:8080"}, first + "Host: ~:8080\r\n" + length + "\r\n"},
		{httpq.Request{Host: strings.Repeat("h", 255)}, first + "Host: " + strings.Repeat("h", 255) + "\r\n" + length + "\r\n"},
	} {
		if b, e := httpq.Lay(c.r); string(b) != c.want || e != api.OK {
			t.Errorf("Lay(%q): %q, %d", c.r, b, e)
		}
	}
}

// P15.1: a host that may not be, and an id that is none's text.
func TestLayRefuses(t *testing.T) {
	for _, r := range []httpq.Request{
		{}, {ID: guid}, {Host: " "}, {Host: "a b"}, {Host: "a\r\nb"}, {Host: "a\x7f"}, {Host: "é"}, {Host: "a\x00"}, {Host: "\t"}, {Host: "a\xff"}, {Host: strings.Repeat("h", 256)},
		{Host: "a", ID: "x"}, {Host: "a", ID: " "}, {Host: "a", ID: guid[1:]}, {Host: "a", ID: guid + guid}, {Host: "a", ID: "{}"},
	} {
		if b, e := httpq.Lay(r); len(b) != 0 || e != api.ErrForm {
			t.Errorf("Lay(%q): %q, %d", r, b, e)
		}
	}
}

// P15.2, P15.3: what is laid is parsed, whatever stands behind, and also what is laid otherwise but means the same.
func TestParse(t *testing.T) {
	for _, c := range []struct {
		b    string
		host string
		id   string
		more string
	}{
		{first + host + length + "\r\n", "server.example", "", ""},
		{first + host + length + "\r\n", "server.example", "", "\x10\x01\x00\x0e"},
		{first + host + length + id + "\r\n", "server.example", guid, "\r\n"},
		{first + id + length + host + "\r\n", "server.example", guid, ""},
		{first + "HOST:a\r\ncontent-LENGTH: \t18446744073709551615 \r\nsstpCorrelationId:" + strings.ToLower(guid) + "\r\n\r\n", "a", strings.ToLower(guid), "\x00"},
		{first + "Host: a:b\r\n" + length + "X: y\r\nX: z\r\nY:\r\n\r\n", "a:b", "", ""},
		{first + "Host: " + strings.Repeat("h", 255) + "\r\n" + length + "\r\n", strings.Repeat("h", 255), "", ""},
		{first + host + length + strings.Repeat("X: y\r\n", 30) + "\r\n", "server.example", "", ""},
	} {
		r, n, e := httpq.Parse([]byte(c.b + c.more))
		if r.Host != c.host || r.ID != c.id || n != len(c.b) || e != api.OK {
			t.Errorf("Parse(%q): %q, %d, %d", c.b, r, n, e)
		}
	}
	for _, r := range []httpq.Request{{Host: "h"}, {Host: "a.b:443", ID: guid}, {Host: "~", ID: strings.ToLower(guid)}} {
		b, _ := httpq.Lay(r)
		if got, n, e := httpq.Parse(b); got != r || n != len(b) || e != api.OK {
			t.Errorf("%q: %q, %d, %d", r, got, n, e)
		}
		for i := range b {
			if got, n, e := httpq.Parse(b[:i]); got != (httpq.Request{}) || n != 0 || e != api.ErrEnd {
				t.Fatalf("the first %d bytes: %q, %d, %d", i, got, n, e)
			}
		}
	}
}

// P15.2: each error, and which of two comes first.
func TestParseRefuses(t *testing.T) {
	const path = "/sra_{BA195980-CD49-458b-9E23-C84EE0ADCD75}/"
	rest := host + length + "\r\n"
	many := strings.Repeat("X: y\r\n", 33) + "\r\n"
	for _, c := range []struct {
		b    string
		want api.Errno
	}{
		{"", api.ErrEnd}, {first + host + length, api.ErrEnd}, {strings.Repeat("x", 2048), api.ErrBig}, {"\x00", api.ErrForm}, {first + "a\nb", api.ErrForm}, {first + host + length + "Y: " + strings.Repeat("y", 2000) + "\r\n\r\n", api.ErrBig},
		{"\r\n", api.ErrForm}, {"\r\n" + first + rest, api.ErrForm}, {"SSTP_DUPLEX_POST\r\n" + rest, api.ErrForm}, {"SSTP_DUPLEX_POST " + path + "\r\n" + rest, api.ErrForm}, {"SSTP_DUPLEX_POST  " + path + " HTTP/1.1\r\n" + rest, api.ErrForm},
		{" " + first + rest, api.ErrForm}, {"SSTP_DUPLEX_POST " + path + " HTTP/1.1 \r\n" + rest, api.ErrForm}, {"SSTP_DUPLEX_POST " + path + " HTTP/1.1 x\r\n" + rest, api.ErrForm}, {"  \r\n" + rest, api.ErrForm}, {"GET a b c\r\n" + rest, api.ErrForm},
		{"SSTP_DUPLEX_POST " + path + "  HTTP/1.1\r\n" + rest, api.ErrForm}, {"a  b\r\n" + rest, api.ErrForm}, {"SSTP_DUPLEX_POST\t" + path + "\tHTTP/1.1\r\n" + rest, api.ErrForm},
		{"GET " + path + " HTTP/1.1\r\n" + rest, api.ErrKind}, {"GET / HTTP/1.0\r\nbad\r\n\r\n", api.ErrKind}, {"sstp_duplex_post " + path + " HTTP/1.1\r\n" + rest, api.ErrKind}, {"SSTP_DUPLEX_POST\t " + path + " HTTP/1.1\r\n" + rest, api.ErrKind},
		{"SSTP_DUPLEX_POST " + path + " HTTP/1.0\r\n" + rest, api.ErrVersion}, {"SSTP_DUPLEX_POST / HTTP/2\r\nbad\r\n\r\n", api.ErrVersion}, {"SSTP_DUPLEX_POST " + path + " http/1.1\r\n" + rest, api.ErrVersion}, {"SSTP_DUPLEX_POST " + path + " HTTP/1.1\t\r\n" + rest, api.ErrVersion},
		{first + many, api.ErrMany}, {first + "bad\r\n" + rest, api.ErrForm}, {"SSTP_DUPLEX_POST / HTTP/1.1\r\n" + many, api.ErrMany}, {"SSTP_DUPLEX_POST / HTTP/1.1\r\nbad\r\n\r\n", api.ErrForm}, {first + "Host : a\r\n" + length + "\r\n", api.ErrForm},
		{"SSTP_DUPLEX_POST / HTTP/1.1\r\n" + rest, api.ErrNone}, {"SSTP_DUPLEX_POST " + strings.ToLower(path) + " HTTP/1.1\r\n" + rest, api.ErrNone}, {"SSTP_DUPLEX_POST " + path + "x HTTP/1.1\r\n" + host + host + "\r\n", api.ErrNone},
		{first + "\r\n", api.ErrNone}, {first + length + "\r\n", api.ErrNone}, {first + host + host + length + "\r\n", api.ErrThere}, {first + host + "hOST: b\r\n\r\n", api.ErrThere},
		{first + "Host:\r\n" + length + "\r\n", api.ErrForm}, {first + "Host: \t\r\n\r\n", api.ErrForm}, {first + "Host: a b\r\n\r\n", api.ErrForm}, {first + "Host: a\tb\r\n" + length + "\r\n", api.ErrForm}, {first + "Host: " + strings.Repeat("h", 256) + "\r\n\r\n", api.ErrForm},
		{first + host + "\r\n", api.ErrNone}, {first + host + id + id + "\r\n", api.ErrNone}, {first + host + length + length + "\r\n", api.ErrThere}, {first + host + "Content-Length: 1\r\n" + length + id + id + "\r\n", api.ErrThere},
		{first + host + "Content-Length: 0\r\n\r\n", api.ErrForm}, {first + host + "Content-Length: 18446744073709551616\r\n" + id + id + "\r\n", api.ErrForm}, {first + host + "Content-Length: 018446744073709551615\r\n\r\n", api.ErrForm}, {first + host + "Content-Length:\r\n\r\n", api.ErrForm},
		{first + host + length + id + id + "\r\n", api.ErrThere}, {first + host + length + "SSTPCORRELATIONID: x\r\nsstpcorrelationid: y\r\n\r\n", api.ErrThere},
		{first + host + length + "SSTPCORRELATIONID: x\r\n\r\n", api.ErrForm}, {first + host + length + "SSTPCORRELATIONID:\r\n\r\n", api.ErrForm}, {first + host + length + "SSTPCORRELATIONID: " + guid + "x\r\n\r\n", api.ErrForm},
	} {
		if r, n, e := httpq.Parse([]byte(c.b)); r != (httpq.Request{}) || n != 0 || e != c.want {
			t.Errorf("Parse(%q): %q, %d, %d, not %d", c.b, r, n, e, c.want)
		}
	}
}

// P15.2: what each error is answered by.
func TestStatus(t *testing.T) {
	want := map[api.Errno]int{api.OK: 200, api.ErrNone: 404, api.ErrKind: 405, api.ErrVersion: 505, api.ErrBig: 431, api.ErrMany: 431, api.ErrEnd: 0}
	for e := api.Errno(-3); e < 40; e++ {
		n, told := want[e]
		if !told {
			n = 400
		}
		if got := httpq.Status(e); got != n {
			t.Errorf("Status(%d): %d, not %d", e, got, n)
		}
	}
	for _, e := range []api.Errno{math.MinInt, math.MaxInt} {
		if got := httpq.Status(e); got != 400 {
			t.Errorf("Status(%d): %d", e, got)
		}
	}
}

// R4 of the document: nothing is written into what is handed in.
func TestNothingIsWritten(t *testing.T) {
	b := []byte(first + host + length + id + "\r\n")
	before := bytes.Clone(b)
	r, _, _ := httpq.Parse(b)
	if !bytes.Equal(b, before) {
		t.Errorf("%q", b)
	}
	clear(b)
	if r != (httpq.Request{Host: "server.example", ID: guid}) {
		t.Errorf("%q", r)
	}
}
