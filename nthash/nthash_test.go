package nthash_test

import (
	"bytes"
	"encoding/hex"
	"strings"
	"testing"

	"euphroe/api"
	"euphroe/md4"
	"euphroe/nthash"
	"euphroe/utf16"
)

// hash is a digest of digits.
func hash(digits string) nthash.Hash {
	b, err := hex.DecodeString(digits)
	if err != nil {
		panic(err)
	}
	return nthash.Hash(b)
}

// hashes are some, one with all bytes unlike among them.
func hashes() []nthash.Hash {
	all := []nthash.Hash{{}, hash(strings.Repeat("ff", 16)), hash("0102030405060708090a0b0c0d0e0f10"), hash("44ebba8d5312b8d611474411f56989ae")}
	for i := range 16 {
		var one nthash.Hash
		one[i] = byte(128 + i)
		all = append(all, one)
	}
	return all
}

// P10.1: passwords' digests that are known.
func TestOfSome(t *testing.T) {
	for _, c := range [][2]string{
		{"", "31d6cfe0d16ae931b73c59d7e0c089c0"},
		{"clientPass", "44ebba8d5312b8d611474411f56989ae"},
		{"password", "8846f7eaee8fb117ad06bdd830b7586c"},
		{"MyPw", "fc156af7edcd6c0edde3337d427f4eac"},
	} {
		if h, e := nthash.Of(c[0]); h != hash(c[1]) || e != api.OK {
			t.Errorf("Of(%q): %x, %d, not %s", c[0], h, e, c[1])
		}
	}
}

// P10.1: the digest of the password's bytes.
func TestOf(t *testing.T) {
	for _, s := range []string{"", "a", "A", "a\x00", "é", "€uro", "😀", "a\\b", strings.Repeat("a", 63), strings.Repeat("a", 64), strings.Repeat("😀", 64)} {
		b, _ := utf16.Lay(s)
		if h, e := nthash.Of(s); h != md4.Of(b) || e != api.OK {
			t.Errorf("Of(%q): %x, %d", s, h, e)
		}
	}
}

// P10.1: what may not be a text is no password.
func TestOfRefuses(t *testing.T) {
	for _, c := range []struct {
		s    string
		want api.Errno
	}{
		{"\xff", api.ErrForm}, {"a\xc3", api.ErrForm}, {"\xed\xa0\x80", api.ErrForm}, {strings.Repeat("a", 65) + "\xff", api.ErrForm},
		{strings.Repeat("a", 65), api.ErrBig}, {strings.Repeat("😀", 65), api.ErrBig}, {strings.Repeat("a", 5000), api.ErrBig},
	} {
		if h, e := nthash.Of(c.s); h != (nthash.Hash{}) || e != c.want {
			t.Errorf("Of(%q): %x, %d, not %d", c.s, h, e, c.want)
		}
	}
}

// P10.1: the digest of a digest.
func TestTwice(t *testing.T) {
	if got := nthash.Twice(hash("44ebba8d5312b8d611474411f56989ae")); got != hash("41c00c584bd2d91c4017a2a12fa59f3f") {
		t.Errorf("%x", got)
	}
	for _, h := range hashes() {
		was := h
		if got := nthash.Twice(h); got != md4.Of(h[:]) || h != was {
			t.Errorf("Twice(%x): %x", was, got)
		}
	}
}

// P10.2: the digest, and five noughts.
func TestLong(t *testing.T) {
	for _, h := range hashes() {
		got := nthash.Long(h)
		if !bytes.Equal(got[:16], h[:]) || !bytes.Equal(got[16:], make([]byte, 5)) {
			t.Errorf("Long(%x): %x", h, got)
		}
	}
}

// P10.2: seven bytes each.
func TestThirds(t *testing.T) {
	got := nthash.Thirds(hash("0102030405060708090a0b0c0d0e0f10"))
	if want := [3][7]byte{{1, 2, 3, 4, 5, 6, 7}, {8, 9, 10, 11, 12, 13, 14}, {15, 16}}; got != want {
		t.Errorf("%x", got)
	}
}

// P10.2: noughts are put in its place.
func TestZero(t *testing.T) {
	for _, h := range hashes() {
		row := [3]nthash.Hash{h, h, h}
		nthash.Zero(&row[1])
		if row != [3]nthash.Hash{h, {}, h} {
			t.Errorf("Zero of %x: %x", h, row)
		}
	}
	nthash.Zero(nil)
}

// P10.3: the thirds, one behind the other, are the long one.
func TestThirdsAreTheLongOne(t *testing.T) {
	for _, h := range hashes() {
		var all []byte
		for _, third := range nthash.Thirds(h) {
			all = append(all, third[:]...)
		}
		if long := nthash.Long(h); !bytes.Equal(all, long[:]) {
			t.Errorf("%x: %x, not %x", h, all, long)
		}
	}
}
