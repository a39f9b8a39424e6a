package prf_test

import (
	"bytes"
	"crypto/hmac"
	"crypto/sha256"
	"math"
	"testing"

	"euphroe/api"
	"euphroe/prf"
)

// sealed is the seal of all parts, as the library tells it.
func sealed(key []byte, parts ...[]byte) []byte {
	h := hmac.New(sha256.New, key)
	for _, p := range parts {
		h.Write(p)
	}
	return h.Sum(nil)
}

// derived is a derivation, piece by piece.
func derived(key, seed []byte, length int) []byte {
	var all, ahead []byte
	for n := 1; len(all) < length; n++ {
		ahead = sealed(key, ahead, seed, []byte{byte(length % 256), byte(length / 256), byte(n)})
		all = append(all, ahead...)
	}
	return all[:length]
}

// mixed are so many bytes, unlike those of other numbers.
func mixed(n int) []byte {
	b := make([]byte, n)
	for i := range b {
		b[i] = byte(i*7 + n*13 + 1)
	}
	return b
}

// lengths are those that a derivation may have: at the edges of pieces, and of bytes.
func lengths() []int {
	return []int{1, 2, 31, 32, 33, 63, 64, 65, 96, 255, 256, 257, 511, 512, 513, 4096, 8128, 8129, 8159, 8160}
}

// P13.1: pieces, one behind the other, cut to the length.
func TestDerive(t *testing.T) {
	for _, length := range lengths() {
		for _, key := range [][]byte{nil, mixed(32), mixed(65)} {
			for _, seed := range [][]byte{nil, []byte(prf.Seed), mixed(300)} {
				if got, e := prf.Derive(key, seed, length); !bytes.Equal(got, derived(key, seed, length)) || e != api.OK {
					t.Fatalf("Derive(%x, %x, %d): %x, %d", key, seed, length, got, e)
				}
			}
		}
	}
	for length := 1; length <= 600; length++ {
		if got, e := prf.Derive(mixed(32), mixed(5), length); !bytes.Equal(got, derived(mixed(32), mixed(5), length)) || e != api.OK {
			t.Fatalf("of length %d: %x, %d", length, got, e)
		}
	}
}

// P13.1: lengths below 1, and above 8160, are refused, and are of no pieces.
func TestDeriveRefuses(t *testing.T) {
	for _, c := range []struct {
		length int
		want   api.Errno
	}{
		{math.MinInt, api.ErrArg}, {-8160, api.ErrArg}, {-32, api.ErrArg}, {-1, api.ErrArg}, {0, api.ErrArg}, {-1 << 32, api.ErrArg},
		{8161, api.ErrBig}, {8192, api.ErrBig}, {65536, api.ErrBig}, {65568, api.ErrBig}, {1<<32 + 32, api.ErrBig}, {math.MaxInt - 30, api.ErrBig}, {math.MaxInt, api.ErrBig},
	} {
		for _, key := range [][]byte{nil, mixed(32)} {
			if got, e := prf.Derive(key, []byte("seed"), c.length); len(got) != 0 || e != c.want {
				t.Errorf("of length %d: %d bytes, %d, not %d", c.length, len(got), e, c.want)
			}
			if n := prf.Pieces(key, []byte("seed"), c.length); n != 0 {
				t.Errorf("of length %d: %d pieces", c.length, n)
			}
		}
	}
}

// P13.1: of how many pieces a derivation is.
func TestPieces(t *testing.T) {
	for length := 1; length <= 8160; length++ {
		want := length / 32
		if length%32 > 0 {
			want++
		}
		if got := prf.Pieces(nil, nil, length); got != want {
			t.Errorf("of length %d: %d pieces, not %d", length, got, want)
		}
	}
	if prf.Pieces(mixed(9), mixed(9), 8160) != 255 || prf.Pieces(mixed(9), mixed(9), 1) != 1 {
		t.Error("of a key and a seed")
	}
}

// P13.1: the binding key is a derivation of its seed, of one piece.
func TestBind(t *testing.T) {
	if prf.Seed != "SSTP inner method derived CMK" {
		t.Errorf("%q", prf.Seed)
	}
	for n := range 20 {
		upper := [32]byte(mixed(32 + n)[n:])
		got := prf.Bind(upper)
		if want := sealed(upper[:], []byte("SSTP inner method derived CMK"), []byte{32, 0, 1}); !bytes.Equal(got[:], want) {
			t.Errorf("Bind(%x): %x, not %x", upper, got, want)
		}
	}
	none := prf.Bind([32]byte{})
	if want := derived(make([]byte, 32), []byte(prf.Seed), 32); !bytes.Equal(none[:], want) {
		t.Errorf("of noughts: %x", none)
	}
}

// P13.2: the seal by it.
func TestSeal(t *testing.T) {
	for _, n := range []int{0, 1, 55, 56, 64, 112, 200} {
		bind := [32]byte(mixed(40 + n)[n:])
		got := prf.Seal(bind, mixed(n))
		if want := sealed(bind[:], mixed(n)); !bytes.Equal(got[:], want) {
			t.Errorf("Seal of %d bytes: %x, not %x", n, got, want)
		}
	}
	if prf.Seal([32]byte{}, nil) != [32]byte(sealed(nil)) {
		t.Error("of noughts, and no bytes")
	}
}

// P13.2: just the seal is it, and all of it.
func TestCheck(t *testing.T) {
	bind, packet := [32]byte(mixed(32)), mixed(112)
	seal := sealed(bind[:], packet)
	if !prf.Check(bind, packet, seal) {
		t.Error("the seal is told to be none")
	}
	for i := range seal {
		for bit := range 8 {
			other := bytes.Clone(seal)
			other[i] ^= 1 << bit
			if prf.Check(bind, packet, other) {
				t.Errorf("another byte %d, bit %d", i, bit)
			}
		}
		if prf.Check(bind, packet, seal[:i]) || prf.Check(bind, packet, seal[i+1:]) {
			t.Errorf("a part of the seal: %d", i)
		}
		key := bind
		key[i] ^= 1
		if prf.Check(key, packet, seal) {
			t.Errorf("another key's: byte %d", i)
		}
	}
	if prf.Check(bind, packet, nil) || prf.Check(bind, packet, append(bytes.Clone(seal), 0)) || prf.Check(bind, packet[1:], seal) || prf.Check(bind, nil, seal) || prf.Check(bind, seal, packet) {
		t.Error("too few, or too many bytes, or of other ones")
	}
	if prf.Check(bind, nil, nil) {
		t.Error("no bytes are no packet's seal")
	}
}

// P13.3: a derivation hangs on its length, but of one length the same ones are the same.
func TestADerivationHangsOnItsLength(t *testing.T) {
	for _, length := range lengths() {
		one, _ := prf.Derive([]byte("key"), []byte("seed"), length)
		same, _ := prf.Derive([]byte("key"), []byte("seed"), length)
		if !bytes.Equal(one, same) || len(one) != length {
			t.Errorf("of length %d: %x, and %x", length, one, same)
		}
		for _, more := range lengths() {
			long, _ := prf.Derive([]byte("key"), []byte("seed"), more)
			if more > length && length > 8 && bytes.HasPrefix(long, one) {
				t.Errorf("a derivation of %d bytes begins with that of %d", more, length)
			}
		}
	}
}

// P13.3: a longer one is of as many pieces or more.
func TestALongerOneIsOfAsManyPieces(t *testing.T) {
	ahead := 1
	for length := 1; length <= 8160; length++ {
		got := prf.Pieces([]byte("key"), []byte("seed"), length)
		if got < ahead || got > ahead+1 {
			t.Errorf("of length %d: %d pieces behind %d", length, got, ahead)
		}
		ahead = got
	}
}

// R4 and rule 7 of the language: nothing is written into what is handed in, and an answer is memory of its own.
func TestAnswersShareNothing(t *testing.T) {
	key, seed, packet, seal := mixed(60), mixed(61), mixed(62), mixed(63)
	got, _ := prf.Derive(key[:20], seed[:20], 100)
	prf.Pieces(key[:20], seed[:20], 100)
	prf.Seal([32]byte{}, packet[:20])
	prf.Check([32]byte{}, packet[:20], seal[:32])
	clear(got)
	if !bytes.Equal(key, mixed(60)) || !bytes.Equal(seed, mixed(61)) || !bytes.Equal(packet, mixed(62)) || !bytes.Equal(seal, mixed(63)) {
		t.Error("what was handed in is turned")
	}
	if again, _ := prf.Derive(key[:20], seed[:20], 100); !bytes.Equal(again, derived(key[:20], seed[:20], 100)) {
		t.Error("an answer is kept")
	}
}
