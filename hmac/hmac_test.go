package hmac_test

import (
	"bytes"
	"crypto/hmac"
	"crypto/sha256"
	"encoding/hex"
	"math"
	"strings"
	"testing"

	own "euphroe/hmac"
)

// mixed are so many bytes, unlike those of other numbers.
func mixed(n int) []byte {
	b := make([]byte, n)
	for i := range b {
		b[i] = byte(i*7 + n*13 + 1)
	}
	return b
}

// sealed is the seal as the library tells it.
func sealed(key, b []byte) [32]byte {
	h := hmac.New(sha256.New, key)
	h.Write(b)
	return [32]byte(h.Sum(nil))
}

// P7.1: a key, and noughts behind; a long one's digest.
func TestKey(t *testing.T) {
	if own.Key(nil) != ([64]byte{}) || own.Key([]byte{}) != ([64]byte{}) {
		t.Error("the block of no key is not of noughts")
	}
	for n := range 200 {
		want := mixed(n)
		if n > 64 {
			digest := sha256.Sum256(want)
			want = digest[:]
		}
		want = append(want, make([]byte, 64-len(want))...)
		if got := own.Key(mixed(n)); !bytes.Equal(got[:], want) {
			t.Errorf("Key of %d bytes: %x, not %x", n, got, want)
		}
	}
}

// P7.1: seals that RFC 4231 tells.
func TestOfSome(t *testing.T) {
	for _, c := range [][3]string{
		{strings.Repeat("\x0b", 20), "Hi There", "b0344c61d8db38535ca8afceaf0bf12b881dc200c9833da726e9376c2e32cff7"},
		{"Jefe", "what do ya want for nothing?", "5bdcc146bf60754e6a042426089575c75a003f089d2739839dec58b964ec3843"},
		{strings.Repeat("\xaa", 20), strings.Repeat("\xdd", 50), "773ea91e36800e46854db8ebd09181a72959098b3ef8c122d9635514ced565fe"},
		{strings.Repeat("\xaa", 131), "Test Using Larger Than Block-Size Key - Hash Key First", "60e431591ee0b67f0d8a26aacbf5b77f8e0bc6213728c5140546040f0ee37f54"},
		{"", "", "b613679a0814d9ec772f95d778c35fc5ff1697c493715653c6c712144292c5ad"},
	} {
		if got := own.Of([]byte(c[0]), []byte(c[1])); hex.EncodeToString(got[:]) != c[2] {
			t.Errorf("Of %x, %x: %x, not %s", c[0], c[1], got, c[2])
		}
	}
	if own.Of(nil) != own.Of([]byte{}, nil, []byte{}) {
		t.Error("of no parts, and of empty ones")
	}
}

// P7.1: seals by keys of all lengths, those at the edge of a block among them.
func TestOfAllLengths(t *testing.T) {
	for n := range 150 {
		for _, size := range []int{0, 1, 55, 64, 65, 200} {
			if got, want := own.Of(mixed(n), mixed(size)), sealed(mixed(n), mixed(size)); got != want {
				t.Errorf("Of a key of %d bytes, %d bytes: %x, not %x", n, size, got, want)
			}
		}
	}
}

// P7.1: all parts, one behind the other.
func TestOfParts(t *testing.T) {
	all := mixed(130)
	want := sealed([]byte("key"), all)
	for i := range len(all) + 1 {
		if got := own.Of([]byte("key"), all[:i], nil, all[i:]); got != want {
			t.Errorf("parted at %d: %x", i, got)
		}
	}
	if own.Of(nil, []byte("a"), []byte("b")) == own.Of(nil, []byte("b"), []byte("a")) {
		t.Error("the order of parts plays no part")
	}
	if own.Of([]byte("a"), []byte("b")) == own.Of([]byte("b"), []byte("a")) || own.Of([]byte("a"), []byte("b")) == own.Of(nil, []byte("ab")) {
		t.Error("the key is like a part")
	}
}

// P7.1: just the seal is it, and all of it.
func TestCheck(t *testing.T) {
	key, part := []byte("key"), []byte("what is sealed")
	seal := sealed(key, part)
	if !own.Check(key, seal[:], part) || !own.Check(key, seal[:], part[:3], nil, part[3:]) {
		t.Error("the seal is told to be none")
	}
	for i := range seal {
		for bit := range 8 {
			other := seal
			other[i] ^= 1 << bit
			if own.Check(key, other[:], part) {
				t.Errorf("another byte %d, bit %d", i, bit)
			}
		}
	}
	for n := range 32 {
		if own.Check(key, seal[:n], part) || own.Check(key, seal[n+1:], part) {
			t.Errorf("a part of the seal: %d", n)
		}
	}
	if own.Check(key, nil, part) || own.Check(key, append(seal[:], 0), part) || own.Check(key, append(seal[:], seal[:]...), part) {
		t.Error("too few, or too many bytes")
	}
	if own.Check([]byte("Key"), seal[:], part) || own.Check(nil, seal[:], part) || own.Check(key, seal[:], part[1:]) || own.Check(key, seal[:]) || own.Check(key, seal[:], part, part) {
		t.Error("of another key, or of other bytes")
	}
}

// P7.2: seals of seals.
func TestChain(t *testing.T) {
	for _, key := range [][]byte{nil, {1}, mixed(64), mixed(65)} {
		for n := range 33 {
			got := own.Chain(key, n)
			if len(got) != n {
				t.Fatalf("Chain of %d: %d seals", n, len(got))
			}
			var ahead []byte
			for i, seal := range got {
				if want := sealed(key, ahead); !bytes.Equal(seal, want[:]) {
					t.Fatalf("Chain of %d: the seal %d: %x, not %x", n, i, seal, want)
				}
				ahead = seal
			}
		}
	}
}

// P7.2: none below 1, at most 32.
func TestChainAtTheEdges(t *testing.T) {
	for _, n := range []int{math.MinInt, -32, -1, 0} {
		if got := own.Chain([]byte("key"), n); len(got) != 0 {
			t.Errorf("Chain of %d: %d seals", n, len(got))
		}
	}
	most := own.Chain([]byte("key"), 32)
	for _, n := range []int{33, 34, 64, 1 << 32, math.MaxInt} {
		got := own.Chain([]byte("key"), n)
		if len(got) != 32 || !bytes.Equal(bytes.Join(got, nil), bytes.Join(most, nil)) {
			t.Errorf("Chain of %d: %d seals", n, len(got))
		}
	}
}

// P7.3: a key and it with noughts behind, of at most 64 bytes, seal the same.
func TestNoughtsBehindAKey(t *testing.T) {
	for n := range 65 {
		for more := range 65 - n {
			long := append(mixed(n), make([]byte, more)...)
			if own.Key(long) != own.Key(mixed(n)) || own.Of(long, []byte("a")) != own.Of(mixed(n), []byte("a")) {
				t.Fatalf("%d bytes, and %d noughts", n, more)
			}
		}
	}
	if own.Of(append(mixed(64), 0), nil) == own.Of(mixed(64), nil) {
		t.Error("of 65 bytes")
	}
}

// R4 and rule 7 of the language: nothing is written into what is handed in, and no two lists share memory.
func TestAnswersShareNothing(t *testing.T) {
	key, seal, part := mixed(100), mixed(40), mixed(50)
	parts := make([][]byte, 2, 5)
	parts[0], parts[1] = part[:20], part[20:30]
	own.Key(key[:70])
	own.Key(key[:20])
	own.Of(key[:20], parts...)
	own.Of(key[:70], parts...)
	own.Check(key[:20], seal[:32], parts...)
	own.Chain(key[:20], 3)
	if !bytes.Equal(key, mixed(100)) || !bytes.Equal(seal, mixed(40)) || !bytes.Equal(part, mixed(50)) {
		t.Error("what was handed in is turned")
	}
	for _, p := range parts[2:5] {
		if p != nil {
			t.Errorf("%x is put behind the parts", p)
		}
	}
	chain := own.Chain(key, 3)
	clear(chain[0])
	_ = append(chain[1], 1, 2, 3)
	if fresh := own.Chain(key, 3); !bytes.Equal(chain[1], fresh[1]) || !bytes.Equal(chain[2], fresh[2]) || bytes.Equal(chain[0], fresh[0]) {
		t.Error("seals share memory")
	}
}
