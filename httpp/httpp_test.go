package httpp_test

import (
	"bytes"
	"math"
	"strconv"
	"strings"
	"testing"

	"euphroe/api"
	"euphroe/httpp"
)

const endless = "Content-Length: 18446744073709551615\r\n\r\n"

// reasons are the texts that the document names.
func reasons() map[int]string {
	return map[int]string{200: "OK", 400: "Bad Request", 404: "Not Found", 405: "Method Not Allowed", 431: "Request Header Fields Too Large", 503: "Service Unavailable", 505: "HTTP Version Not Supported"}
}

// P16.1: each status's reason, and which one is fine.
func TestReasonAndFine(t *testing.T) {
	for status := -10; status < 1000; status++ {
		if got := httpp.Reason(status); got != reasons()[status] {
			t.Errorf("Reason(%d): %q", status, got)
		}
		if httpp.Fine(status) != (status == 200) {
			t.Errorf("Fine(%d)", status)
		}
	}
}

// P16.1, P16.3: each status is laid as told, and parsed, whatever stands behind.
func TestLayAndParse(t *testing.T) {
	for status := 100; status <= 599; status++ {
		want := "HTTP/1.1 " + strconv.Itoa(status)
		if r := reasons()[status]; r != "" {
			want += " " + r
		}
		want += "\r\nContent-Length: "
		if status == 200 {
			want += "18446744073709551615"
		} else {
			want += "0"
		}
		want += "\r\n\r\n"
		b, e := httpp.Lay(status)
		if string(b) != want || e != api.OK {
			t.Errorf("Lay(%d): %q, %d", status, b, e)
		}
		for _, more := range []string{"", "\x10\x01", "\r\n", "x"} {
			if got, n, e := httpp.Parse([]byte(want + more)); got != status || n != len(want) || e != api.OK {
				t.Errorf("Parse(%q): %d, %d, %d", want+more, got, n, e)
			}
		}
	}
	b, _ := httpp.Lay(503)
	for i := range b {
		if got, n, e := httpp.Parse(b[:i]); got != 0 || n != 0 || e != api.ErrEnd {
			t.Errorf("the first %d bytes: %d, %d, %d", i, got, n, e)
		}
	}
}

// P16.1: what is no status is refused.
func TestLayRefuses(t *testing.T) {
	for _, status := range []int{math.MinInt, -200, -1, 0, 1, 20, 99, 600, 601, 1000, 2000, math.MaxInt} {
		if b, e := httpp.Lay(status); len(b) != 0 || e != api.ErrArg {
			t.Errorf("Lay(%d): %q, %d", status, b, e)
		}
	}
}

// P16.2: responses that others lay.
func TestParse(t *testing.T) {
	for _, c := range []struct {
		b    string
		want int
	}{
		{"HTTP/1.1 200\r\n" + endless, 200},
		{"HTTP/1.1 200 \r\n" + endless, 200},
		{"HTTP/1.1 200 Fine as it is\r\nServer: x\r\n" + endless, 200},
		{"HTTP/1.1 200  two\r\ncontent-LENGTH:18446744073709551615\t\r\nDate: y\r\nDate: z\r\n\r\n", 200},
		{"HTTP/1.1 599 a\tb\r\nContent-Length: 0\r\n\r\n", 599},
		{"HTTP/1.1 100\r\nContent-Length:0\r\n\r\n", 100},
		{"HTTP/1.1 201 OK\r\nContent-Length: 0\r\n\r\n", 201},
	} {
		if got, n, e := httpp.Parse([]byte(c.b)); got != c.want || n != len(c.b) || e != api.OK {
			t.Errorf("Parse(%q): %d, %d, %d", c.b, got, n, e)
		}
	}
}

// P16.2: each error, and which of two comes first.
func TestParseRefuses(t *testing.T) {
	const none = "Content-Length: 0\r\n\r\n"
	for _, c := range []struct {
		b    string
		want api.Errno
	}{
		{"", api.ErrEnd}, {"HTTP/1.1 200 OK\r\n", api.ErrEnd}, {"\xff", api.ErrForm}, {"HTTP/1.1 200 OK\n", api.ErrForm}, {strings.Repeat("y", 2048), api.ErrBig},
		{"\r\n", api.ErrForm}, {"HTTP/1.1\r\n" + endless, api.ErrForm}, {"HTTP/1.0\r\n" + endless, api.ErrForm}, {"HTTP/1.1\t200\r\n" + endless, api.ErrForm},
		{"HTTP/1.0 200 OK\r\n" + endless, api.ErrVersion}, {" HTTP/1.1 200\r\n" + endless, api.ErrVersion}, {"http/1.1 200\r\n" + endless, api.ErrVersion}, {"HTTP/1.1x 2\r\nbad\r\n\r\n", api.ErrVersion}, {"HTTP/1.1\t 200\r\n" + endless, api.ErrVersion},
		{"HTTP/1.1 \r\n" + none, api.ErrForm}, {"HTTP/1.1  200\r\n" + endless, api.ErrForm}, {"HTTP/1.1 20\r\n" + none, api.ErrForm}, {"HTTP/1.1 2000\r\n" + none, api.ErrForm}, {"HTTP/1.1 099\r\n" + none, api.ErrForm}, {"HTTP/1.1 600\r\n" + none, api.ErrForm},
		{"HTTP/1.1 000\r\n" + none, api.ErrForm}, {"HTTP/1.1 +20\r\n" + none, api.ErrForm}, {"HTTP/1.1 200OK\r\n" + endless, api.ErrForm}, {"HTTP/1.1 200\tOK\r\n" + endless, api.ErrForm}, {"HTTP/1.1 2 00\r\n" + none, api.ErrForm}, {"HTTP/1.1 x\r\n" + none, api.ErrForm},
		{"HTTP/1.1 0200\r\n" + endless, api.ErrForm}, {"HTTP/1.1 99999999999999999999999\r\n" + none, api.ErrForm}, {"HTTP/1.1 18446744073709551615\r\n" + none, api.ErrForm}, {"HTTP/1.1 99\r\n" + none, api.ErrForm}, {"HTTP/1.1 600 x\r\n" + strings.Repeat("X: y\r\n", 33) + "\r\n", api.ErrForm},
		{"HTTP/1.1 404\r\nbad\r\n" + none, api.ErrForm}, {"HTTP/1.1 404\r\n" + strings.Repeat("X: y\r\n", 32) + none, api.ErrMany},
		{"HTTP/1.1 404\r\n\r\n", api.ErrNone}, {"HTTP/1.1 200 OK\r\nServer: x\r\n\r\n", api.ErrNone}, {"HTTP/1.1 404\r\nContent-Length: 0\r\n" + none, api.ErrThere}, {"HTTP/1.1 404\r\nContent-Length: 7\r\n" + none, api.ErrThere},
		{"HTTP/1.1 200 OK\r\n" + none, api.ErrForm}, {"HTTP/1.1 404\r\n" + endless, api.ErrForm}, {"HTTP/1.1 201\r\n" + endless, api.ErrForm}, {"HTTP/1.1 404\r\nContent-Length:\r\n\r\n", api.ErrForm}, {"HTTP/1.1 404\r\nContent-Length: 00\r\n\r\n", api.ErrForm}, {"HTTP/1.1 200\r\nContent-Length: 018446744073709551615\r\n\r\n", api.ErrForm},
	} {
		if got, n, e := httpp.Parse([]byte(c.b)); got != 0 || n != 0 || e != c.want {
			t.Errorf("Parse(%q): %d, %d, %d, not %d", c.b, got, n, e, c.want)
		}
	}
	fields := strings.Repeat("X: y\r\n", 31)
	if got, _, e := httpp.Parse([]byte("HTTP/1.1 404\r\n" + fields + none)); got != 404 || e != api.OK {
		t.Errorf("of 32 fields: %d, %d", got, e)
	}
}

// R4 of the document: nothing is written into what is handed in.
func TestNothingIsWritten(t *testing.T) {
	b, _ := httpp.Lay(404)
	before := bytes.Clone(b)
	httpp.Parse(b)
	if !bytes.Equal(b, before) {
		t.Errorf("%q", b)
	}
}
