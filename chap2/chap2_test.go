package chap2_test

import (
	"bytes"
	"crypto/sha1"
	"encoding/hex"
	"math"
	"strconv"
	"strings"
	"testing"

	"euphroe/api"
	"euphroe/chap2"
	"euphroe/des"
	"euphroe/nthash"
)

// The digits of RFC 2759's example, of the name User and the password clientPass.
const (
	authDigits      = "5b5d7c7d7b3f2f3e3c2c602132262628"
	peerDigits      = "21402324255e262a28295f2b3a337c7e"
	challengeDigits = "d02e4386bce91226"
	hashDigits      = "44ebba8d5312b8d611474411f56989ae"
	responseDigits  = "82309ecd8d708b5ea08faa3981cd83544233114a3d85d6df"
	answer          = "S=407A5589115FD0D6209F510FE9C04566932CDA56"
)

// read are the bytes of digits.
func read(digits string) []byte {
	b, err := hex.DecodeString(digits)
	if err != nil {
		panic(err)
	}
	return b
}

// auth, peer, challenge, hash and response are those of the example.
func auth() [16]byte     { return [16]byte(read(authDigits)) }
func peer() [16]byte     { return [16]byte(read(peerDigits)) }
func challenge() [8]byte { return [8]byte(read(challengeDigits)) }
func hash() nthash.Hash  { return nthash.Hash(read(hashDigits)) }
func response() [24]byte { return [24]byte(read(responseDigits)) }
func counted() []byte {
	return read("000102030405060708090a0b0c0d0e0f101112131415161718191a1b1c1d1e1f")
}

// P11.1: what RFC 2759 tells.
func TestTheExample(t *testing.T) {
	if got := chap2.Challenge(peer(), auth(), "User"); got != challenge() {
		t.Errorf("challenge: %x", got)
	}
	if got := chap2.Response(challenge(), hash()); got != response() {
		t.Errorf("response: %x", got)
	}
	if got, e := chap2.Prove(peer(), auth(), "User", "clientPass"); got != response() || e != api.OK {
		t.Errorf("proof: %x, %d", got, e)
	}
	if got := chap2.Answer(hash(), response(), challenge()); got != answer {
		t.Errorf("answer: %s", got)
	}
}

// P11.1: the digest's first eight bytes, of the peer's, the authenticator's, and the bare name.
func TestChallenge(t *testing.T) {
	for _, name := range []string{"", "User", "user", "DOM\\User", "A\\B\\User", "User\\", "é", "DOM\\é😀", "a b", "\xff", strings.Repeat("x", 65), strings.Repeat("y", 500)} {
		bare := name[strings.LastIndex(name, "\\")+1:]
		all := append(append(read(peerDigits), read(authDigits)...), bare...)
		digest := sha1.Sum(all)
		if got := chap2.Challenge(peer(), auth(), name); !bytes.Equal(got[:], digest[:8]) {
			t.Errorf("%q: %x, not %x", name, got, digest[:8])
		}
	}
	if chap2.Challenge(auth(), peer(), "User") == challenge() || chap2.Challenge(peer(), auth(), "user") == challenge() {
		t.Error("both ends, or great and small letters, are told to be the same")
	}
}

// P11.1: a block by each of the thirds.
func TestResponse(t *testing.T) {
	for _, h := range []nthash.Hash{{}, hash(), nthash.Hash(counted()[:16]), nthash.Hash(counted()[16:])} {
		for _, c := range [][8]byte{{}, challenge(), [8]byte(counted()[:8])} {
			var want []byte
			for _, third := range nthash.Thirds(h) {
				block, _ := des.Seven(third[:], c[:])
				want = append(want, block...)
			}
			if got := chap2.Response(c, h); !bytes.Equal(got[:], want) {
				t.Errorf("Response(%x, %x): %x, not %x", c, h, got, want)
			}
		}
	}
}

// P11.1: the response of a password to both challenges, for the bare name alone.
func TestProve(t *testing.T) {
	for _, password := range []string{"", "a", "clientPass", "é€😀", strings.Repeat("😀", 64)} {
		for _, name := range []string{"", "User", "DOM\\User", "\xff", strings.Repeat("x", 99)} {
			h, _ := nthash.Of(password)
			want := chap2.Response(chap2.Challenge(peer(), auth(), name), h)
			if got, e := chap2.Prove(peer(), auth(), name, password); got != want || e != api.OK {
				t.Errorf("%q, %q: %x, %d, not %x", name, password, got, e, want)
			}
		}
	}
	if got, _ := chap2.Prove(peer(), auth(), "DOM\\User", "clientPass"); got != response() {
		t.Errorf("with a domain: %x", got)
	}
	if got, _ := chap2.Prove(peer(), auth(), "User", "clientpass"); got == response() {
		t.Error("another password proves")
	}
}

// P11.1: a password that may not be proves nothing.
func TestProveRefuses(t *testing.T) {
	for _, c := range []struct {
		password string
		want     api.Errno
	}{{"\xff", api.ErrForm}, {strings.Repeat("a", 65) + "\xff", api.ErrForm}, {strings.Repeat("a", 65), api.ErrBig}, {strings.Repeat("😀", 65), api.ErrBig}} {
		if got, e := chap2.Prove(peer(), auth(), "User", c.password); got != ([24]byte{}) || e != c.want {
			t.Errorf("%q: %x, %d, not %d", c.password, got, e, c.want)
		}
	}
}

// P11.1: digests of digests, in digits.
func TestAnswer(t *testing.T) {
	for _, h := range []nthash.Hash{{}, hash(), nthash.Hash(counted()[:16])} {
		for _, r := range [][24]byte{{}, response(), [24]byte(counted()[:24])} {
			for _, c := range [][8]byte{{}, challenge()} {
				twice := nthash.Twice(h)
				signed := sha1.Sum(append(append(twice[:], r[:]...), "Magic server to client signing constant"...))
				padded := sha1.Sum(append(append(signed[:], c[:]...), "Pad to make it do more than one iteration"...))
				if got, want := chap2.Answer(h, r, c), "S="+strings.ToUpper(hex.EncodeToString(padded[:])); got != want || len(got) != 42 {
					t.Errorf("Answer(%x, %x, %x): %s, not %s", h, r, c, got, want)
				}
			}
		}
	}
}

// P11.2: the peer's challenge, noughts, the response, and a nought.
func TestValue(t *testing.T) {
	want := read(peerDigits + "0000000000000000" + responseDigits + "00")
	if got := chap2.Value(peer(), response()); !bytes.Equal(got, want) {
		t.Errorf("%x, not %x", got, want)
	}
}

// P11.2: both parts of a value.
func TestParse(t *testing.T) {
	p, r, e := chap2.Parse(read(peerDigits + "0000000000000000" + responseDigits + "00"))
	if p != peer() || r != response() || e != api.OK {
		t.Errorf("%x, %x, %d", p, r, e)
	}
	p, r, e = chap2.Parse(make([]byte, 49))
	if p != ([16]byte{}) || r != ([24]byte{}) || e != api.OK {
		t.Errorf("of noughts: %x, %x, %d", p, r, e)
	}
	p, r, e = chap2.Parse(append(append(bytes.Repeat([]byte{255}, 16), make([]byte, 8)...), append(bytes.Repeat([]byte{255}, 24), 0)...))
	if p != [16]byte(bytes.Repeat([]byte{255}, 16)) || r != [24]byte(bytes.Repeat([]byte{255}, 24)) || e != api.OK {
		t.Errorf("of most: %x, %x, %d", p, r, e)
	}
}

// P11.2: other lengths, and others than noughts, are refused.
func TestParseRefuses(t *testing.T) {
	refused := func(b []byte, want api.Errno) {
		if p, r, e := chap2.Parse(b); p != ([16]byte{}) || r != ([24]byte{}) || e != want {
			t.Errorf("Parse(%x): %x, %x, %d, not %d", b, p, r, e, want)
		}
	}
	refused(nil, api.ErrArg)
	for n := range 350 {
		if n != 49 {
			refused(make([]byte, n), api.ErrArg)
			refused(bytes.Repeat([]byte{255}, n), api.ErrArg)
		}
	}
	for i := range 49 {
		if i < 16 || i >= 24 && i < 48 {
			continue
		}
		for _, x := range []byte{1, 0x80, 0xFF} {
			b := chap2.Value(peer(), response())
			b[i] = x
			refused(b, api.ErrForm)
		}
	}
}

// P11.3: an answer, and a text.
func TestSuccess(t *testing.T) {
	for _, c := range [][3]string{
		{answer, "Welcome", answer + " M=Welcome"}, {answer, "", answer + " M="}, {"", "", " M="}, {"S=", "é\x00 M=x", "S= M=é\x00 M=x"}, {answer, "a b", answer + " M=a b"},
	} {
		if got := chap2.Success(c[0], c[1]); string(got) != c[2] {
			t.Errorf("Success(%q, %q): %q", c[0], c[1], got)
		}
	}
}

// P11.3: the answer of a message, whatever its text is.
func TestTold(t *testing.T) {
	for _, b := range []string{answer, answer + " ", answer + " M=Welcome", answer + " M=", answer + " \xff\x00", answer + "  ", "S=" + strings.Repeat("0", 40), "S=0123456789ABCDEF0123456789ABCDEF01234567 "} {
		if got, e := chap2.Told([]byte(b)); got != b[:42] || e != api.OK {
			t.Errorf("Told(%q): %q, %d", b, got, e)
		}
	}
}

// P11.3: what is too short, and what is no answer, is refused.
func TestToldRefuses(t *testing.T) {
	refused := func(b string, want api.Errno) {
		if got, e := chap2.Told([]byte(b)); got != "" || e != want {
			t.Errorf("Told(%q): %q, %d, not %d", b, got, e, want)
		}
	}
	for n := range 42 {
		refused(answer[:n], api.ErrEnd)
		refused(strings.Repeat("x", n), api.ErrEnd)
	}
	for x := range 256 {
		sign := string([]byte{byte(x)})
		for _, i := range []int{2, 3, 20, 40, 41} {
			if !strings.Contains("0123456789ABCDEF", sign) {
				refused(answer[:i]+sign+answer[i+1:], api.ErrForm)
				refused(answer[:i]+sign+answer[i+1:]+" M=x", api.ErrForm)
			}
		}
		if x != ' ' {
			refused(answer+sign, api.ErrForm)
			refused(answer+sign+" M=x", api.ErrForm)
		}
		if x != 'S' {
			refused(sign+answer[1:], api.ErrForm)
		}
		if x != '=' {
			refused("S"+sign+answer[2:], api.ErrForm)
		}
	}
	refused(" "+answer, api.ErrForm)
	refused(strings.ToLower(answer), api.ErrForm)
	refused("S="+strings.ToLower(answer[2:]), api.ErrForm)
}

// failures are some that may be.
func failures() []chap2.Failure {
	return []chap2.Failure{
		{}, {Code: 691, Challenge: auth(), Text: "No"}, {Code: 9999, Again: true}, {Code: 1, Text: " "}, {Code: 10, Again: true, Challenge: [16]byte{255, 171}, Text: "~ !"},
		{Code: 691, Text: " V=3 M=x R=1 C= E="}, {Code: 646, Again: true, Challenge: peer(), Text: strings.Repeat("long ", 1000)}, {Text: "V=3 M="},
	}
}

// P11.3: codes, whether again, digits, and a text.
func TestFail(t *testing.T) {
	for _, c := range []struct {
		f    chap2.Failure
		want string
	}{
		{chap2.Failure{Code: 691, Challenge: auth(), Text: "No"}, "E=691 R=0 C=5B5D7C7D7B3F2F3E3C2C602132262628 V=3 M=No"},
		{chap2.Failure{Again: true}, "E=0 R=1 C=00000000000000000000000000000000 V=3 M="},
		{chap2.Failure{Code: 9999, Text: " ~"}, "E=9999 R=0 C=00000000000000000000000000000000 V=3 M= ~"},
	} {
		if got, e := chap2.Fail(c.f); string(got) != c.want || e != api.OK {
			t.Errorf("Fail(%v): %q, %d", c.f, got, e)
		}
	}
}

// P11.3: other codes, and texts of other bytes, are refused, in this order.
func TestFailRefuses(t *testing.T) {
	refused := func(f chap2.Failure, want api.Errno) {
		if got, e := chap2.Fail(f); len(got) != 0 || e != want {
			t.Errorf("Fail(%v): %q, %d, not %d", f, got, e, want)
		}
	}
	for _, code := range []int{math.MinInt, -691, -1, 10000, 10001, 1 << 32, math.MaxInt} {
		refused(chap2.Failure{Code: code, Text: "No"}, api.ErrArg)
		refused(chap2.Failure{Code: code, Text: "\n"}, api.ErrArg)
	}
	for x := range 256 {
		sign := string([]byte{byte(x)})
		for _, s := range []string{sign, "No" + sign, sign + "No", "N" + sign + "o"} {
			if x < 32 || x > 126 {
				refused(chap2.Failure{Code: 691, Text: s}, api.ErrForm)
			} else if got, e := chap2.Fail(chap2.Failure{Code: 691, Text: s}); !strings.HasSuffix(string(got), " V=3 M="+s) || e != api.OK {
				t.Errorf("%q: %q, %d", s, got, e)
			}
		}
	}
	refused(chap2.Failure{Text: "é"}, api.ErrForm)
}

// P11.3: whatever Fail does not give is refused.
func TestFailedRefuses(t *testing.T) {
	const digits = "5B5D7C7D7B3F2F3E3C2C602132262628"
	for _, b := range []string{
		"", "E=", "E=691", "E=691 R=0", "E=691 R=0 C=" + digits, "E=691 R=0 C=" + digits + " V=3", "E=691 R=0 C=" + digits + " V=3 M",
		"E= R=0 C=" + digits + " V=3 M=No", "E=0691 R=0 C=" + digits + " V=3 M=No", "E=00 R=0 C=" + digits + " V=3 M=No", "E=+1 R=0 C=" + digits + " V=3 M=No",
		"E=-1 R=0 C=" + digits + " V=3 M=No", "E=10000 R=0 C=" + digits + " V=3 M=No", "E=99999999999999999999 R=0 C=" + digits + " V=3 M=No", "E=6_1 R=0 C=" + digits + " V=3 M=No",
		"E=0x1 R=0 C=" + digits + " V=3 M=No", "E= 1 R=0 C=" + digits + " V=3 M=No", "E=1  R=0 C=" + digits + " V=3 M=No", "E=x R=0 C=" + digits + " V=3 M=No",
		"E=1 R=2 C=" + digits + " V=3 M=No", "E=1 R= C=" + digits + " V=3 M=No", "E=1 R=00 C=" + digits + " V=3 M=No", "E=1 R=11 C=" + digits + " V=3 M=No", "E=1 R=x C=" + digits + " V=3 M=No",
		"E=1 R=0 C=" + strings.ToLower(digits) + " V=3 M=No", "E=1 R=0 C=" + digits[1:] + " V=3 M=No", "E=1 R=0 C=" + digits[2:] + " V=3 M=No", "E=1 R=0 C=" + digits + "00 V=3 M=No",
		"E=1 R=0 C= V=3 M=No", "E=1 R=0 C=" + digits[:31] + "g V=3 M=No", "E=1 R=0 C=" + digits + " V=2 M=No", "E=1 R=0 C=" + digits + " V=33 M=No", "E=1 R=0 C=" + digits + "  V=3 M=No",
		"E=1 R=0 C=" + digits + " V=3 M=\n", "E=1 R=0 C=" + digits + " V=3 M=\x7f", "E=1 R=0 C=" + digits + " V=3 M=é", "E=1 R=0 C=" + digits + " V=3 M=No\x00",
		" E=1 R=0 C=" + digits + " V=3 M=No", "e=1 R=0 C=" + digits + " V=3 M=No", "1 R=0 C=" + digits + " V=3 M=No", "E=E=1 R=0 C=" + digits + " V=3 M=No", "=1 R=0 C=" + digits + " V=3 M=No",
		"R=0 E=1 C=" + digits + " V=3 M=No", "E=1 C=" + digits + " R=0 V=3 M=No", "E=1 R=0 C=" + digits + " M=No V=3", "E=1 R=0 C=" + digits + " V=3 m=No", "E=1 r=0 C=" + digits + " V=3 M=No",
		"S=407A5589115FD0D6209F510FE9C04566932CDA56 M=Welcome",
	} {
		if got, e := chap2.Failed([]byte(b)); got != (chap2.Failure{}) || e != api.ErrForm {
			t.Errorf("Failed(%q): %v, %d", b, got, e)
		}
	}
	if got, e := chap2.Failed(nil); got != (chap2.Failure{}) || e != api.ErrForm {
		t.Errorf("Failed of nil: %v, %d", got, e)
	}
}

// P11.3: just what Fail gives is read, whichever byte is another one.
func TestFailedOfEachByte(t *testing.T) {
	whole, _ := chap2.Fail(chap2.Failure{Code: 691, Challenge: auth(), Text: "No"})
	for i := range whole {
		for x := range 256 {
			b := bytes.Clone(whole)
			b[i] = byte(x)
			f, e := chap2.Failed(b)
			if e == api.OK {
				if laid, _ := chap2.Fail(f); !bytes.Equal(laid, b) {
					t.Errorf("%q is read as %v", b, f)
				}
			} else if f != (chap2.Failure{}) || e != api.ErrForm || bytes.Equal(b, whole) {
				t.Errorf("%q: %v, %d", b, f, e)
			}
		}
	}
}

// P11.4: what is laid is parsed: values.
func TestValuesAreParsed(t *testing.T) {
	for i := range 50 {
		var p [16]byte
		var r [24]byte
		for k := range p {
			p[k] = byte(k*i + 3*k + 251*i)
		}
		for k := range r {
			r[k] = byte(7*k*i + 5*k + i)
		}
		p2, r2, e := chap2.Parse(chap2.Value(p, r))
		if p2 != p || r2 != r || e != api.OK {
			t.Errorf("%x, %x: %x, %x, %d", p, r, p2, r2, e)
		}
	}
}

// P11.4: what is laid is parsed: messages.
func TestMessagesAreParsed(t *testing.T) {
	for _, text := range []string{"", "Welcome", " ", "M=", "\xff", strings.Repeat("a", 3000)} {
		if got, e := chap2.Told(chap2.Success(answer, text)); got != answer || e != api.OK {
			t.Errorf("%q: %q, %d", text, got, e)
		}
	}
	for _, f := range failures() {
		b, e := chap2.Fail(f)
		if e != api.OK {
			t.Fatalf("%v: %d", f, e)
		}
		if got, e := chap2.Failed(b); got != f || e != api.OK {
			t.Errorf("%v: %v, %d", f, got, e)
		}
	}
	for code := range 10000 {
		b, _ := chap2.Fail(chap2.Failure{Code: code, Text: "No"})
		if f, e := chap2.Failed(b); f.Code != code || e != api.OK || !strings.HasPrefix(string(b), "E="+strconv.Itoa(code)+" R=0 ") {
			t.Errorf("%d: %q, %v, %d", code, b, f, e)
		}
	}
}

// R4 and rule 7 of the language: nothing is written into what is handed in, and an answer is memory of its own.
func TestAnswersShareNothing(t *testing.T) {
	value := append(chap2.Value(peer(), response()), 7)
	was := bytes.Clone(value)
	chap2.Parse(value[:49])
	chap2.Parse(value)
	message := append(chap2.Success(answer, "x"), 7)
	told := bytes.Clone(message)
	s, _ := chap2.Told(message)
	if !bytes.Equal(value, was) || !bytes.Equal(message, told) {
		t.Error("what was handed in is turned")
	}
	clear(message)
	if s != answer {
		t.Errorf("the answer turned to %q", s)
	}
}
