package sha1_test

import (
	"bytes"
	"crypto/sha1"
	"encoding"
	"encoding/binary"
	"encoding/hex"
	"math"
	"strings"
	"testing"

	own "euphroe/sha1"
)

// mixed are so many bytes, unlike those of other numbers.
func mixed(n int) []byte {
	b := make([]byte, n)
	for i := range b {
		b[i] = byte(i*7 + n*13)
	}
	return b
}

// block is a block of bytes.
func block(b []byte) [64]byte { return [64]byte(b) }

// states are some, ordinary ones and those at the edges.
func states() []own.State {
	all := []own.State{own.First(), {}, {1, 2, 3, 4, 5}}
	for i := range own.First() {
		var one, most own.State
		one[i], most[i] = 0x80000001, math.MaxUint32
		all = append(all, one, most)
	}
	var many own.State
	for i := range many {
		many[i] = 0xDEADBEEF * uint32(i+1)
	}
	return append(all, many)
}

// blocks are some, ordinary ones and those at the edges.
func blocks() [][64]byte {
	all := [][64]byte{{}, block(bytes.Repeat([]byte{255}, 64)), block(mixed(64)), block(mixed(300)[200:264])}
	for i := range 64 {
		var one [64]byte
		one[i] = 1 << (i % 8)
		all = append(all, one)
	}
	return all
}

// told is the state behind a block more, as the library tells it: its digest's state is set, and read behind the block.
func told(t *testing.T, s own.State, b [64]byte) own.State {
	magic := []byte("sha\x01")
	set := magic
	for _, word := range s {
		set = binary.BigEndian.AppendUint32(set, word)
	}
	set = append(set, make([]byte, 64+8)...)
	h := sha1.New()
	if err := h.(encoding.BinaryUnmarshaler).UnmarshalBinary(set); err != nil {
		t.Fatal(err)
	}
	h.Write(b[:])
	got, err := h.(encoding.BinaryMarshaler).MarshalBinary()
	if err != nil {
		t.Fatal(err)
	}
	for i := range s {
		s[i] = binary.BigEndian.Uint32(got[len(magic)+4*i:])
	}
	return s
}

// P5.1: the state of no block.
func TestFirst(t *testing.T) {
	if s := own.First(); s != (own.State{0x67452301, 0xEFCDAB89, 0x98BADCFE, 0x10325476, 0xC3D2E1F0}) {
		t.Errorf("%x", s)
	}
}

// P5.1: the state behind a block more, of whatever state.
func TestBlock(t *testing.T) {
	for _, s := range states() {
		for _, b := range blocks() {
			was, put := s, b
			if got, want := own.Block(s, b), told(t, s, b); got != want {
				t.Fatalf("Block(%x, %x): %x, not %x", s, b, got, want)
			}
			if s != was || b != put {
				t.Fatal("what was handed in is turned")
			}
		}
	}
}

// P5.1: 128, noughts, and the bits' number, the highest byte first.
func TestTail(t *testing.T) {
	for _, c := range []struct {
		n    uint64
		size int
		last string
	}{
		{0, 64, "0000000000000000"}, {1, 63, "0000000000000008"}, {54, 10, "00000000000001b0"}, {55, 9, "00000000000001b8"},
		{56, 72, "00000000000001c0"}, {63, 65, "00000000000001f8"}, {64, 64, "0000000000000200"}, {119, 9, "00000000000003b8"}, {120, 72, "00000000000003c0"},
		{1 << 29, 64, "0000000100000000"}, {1<<60 + 1, 63, "8000000000000008"}, {1 << 61, 64, "0000000000000000"}, {1<<61 + 56, 72, "00000000000001c0"},
		{math.MaxUint64, 65, "fffffffffffffff8"}, {math.MaxUint64 - 8, 9, "ffffffffffffffb8"}, {math.MaxUint64 - 7, 72, "ffffffffffffffc0"}, {0x0102030405060708, 56, "0810182028303840"},
	} {
		want := "80" + strings.Repeat("00", c.size-9) + c.last
		if got := hex.EncodeToString(own.Tail(c.n)); got != want {
			t.Errorf("Tail(%d): %s, not %s", c.n, got, want)
		}
	}
}

// P5.2: digests that are known.
func TestOfSome(t *testing.T) {
	for _, c := range [][2]string{
		{"", "da39a3ee5e6b4b0d3255bfef95601890afd80709"},
		{"a", "86f7e437faa5a7fce15d1ddcb9eaeaea377667b8"},
		{"abc", "a9993e364706816aba3e25717850c26c9cd0d89d"},
		{"abcdbcdecdefdefgefghfghighijhijkijkljklmklmnlmnomnopnopq", "84983e441c3bd26ebaae4aa1f95129e5e54670f1"},
		{strings.Repeat("a", 1000000), "34aa973cd4c4daa4f61eeb2bdbad27316534016f"},
	} {
		if got := own.Of([]byte(c[0])); hex.EncodeToString(got[:]) != c[1] {
			t.Errorf("Of %d bytes: %x, not %s", len(c[0]), got, c[1])
		}
	}
	if own.Of() != own.Of(nil) || own.Of() != own.Of([]byte{}, nil) || own.Of() != own.Of([]byte("")) {
		t.Error("of no parts, and of empty ones")
	}
}

// P5.2: digests of all lengths, those at the edges of blocks among them.
func TestOfAllLengths(t *testing.T) {
	for n := range 600 {
		if got, want := own.Of(mixed(n)), sha1.Sum(mixed(n)); got != want {
			t.Errorf("Of %d bytes: %x, not %x", n, got, want)
		}
	}
	if got, want := own.Of(mixed(1<<20+7)), sha1.Sum(mixed(1<<20+7)); got != want {
		t.Errorf("%x, not %x", got, want)
	}
}

// P5.2, P5.1: the digest is the state behind all blocks of the bytes and their tail.
func TestOfIsTheStateBehindAllBlocks(t *testing.T) {
	for n := range 200 {
		all := append(mixed(n), own.Tail(uint64(n))...)
		s := own.First()
		for ; len(all) > 0; all = all[64:] {
			s = own.Block(s, block(all[:64]))
		}
		var want []byte
		for _, word := range s {
			want = binary.BigEndian.AppendUint32(want, word)
		}
		if got := own.Of(mixed(n)); !bytes.Equal(got[:], want) {
			t.Errorf("Of %d bytes: %x, not %x", n, got, want)
		}
	}
}

// P5.3: however bytes are parted, their digest is the same.
func TestOfParts(t *testing.T) {
	for _, n := range []int{0, 1, 2, 55, 56, 63, 64, 65, 127, 128, 129, 200} {
		all := mixed(n)
		want := own.Of(all)
		for i := range n + 1 {
			if got := own.Of(all[:i], all[i:]); got != want {
				t.Fatalf("%d bytes, parted at %d: %x, not %x", n, i, got, want)
			}
			if got := own.Of(nil, all[:i/2], all[i/2:i], []byte{}, all[i:]); got != want {
				t.Fatalf("%d bytes, parted at %d and %d: %x, not %x", n, i/2, i, got, want)
			}
		}
		var single [][]byte
		for i := range all {
			single = append(single, all[i:i+1])
		}
		if got := own.Of(single...); got != want {
			t.Errorf("%d parts: %x, not %x", n, got, want)
		}
	}
	if own.Of([]byte("a"), []byte("b")) == own.Of([]byte("b"), []byte("a")) {
		t.Error("the order of parts plays no part")
	}
}

// P5.3: bytes with their tail are whole blocks, one or two more than they fill.
func TestTailFillsBlocks(t *testing.T) {
	for n := range uint64(1000) {
		for _, m := range []uint64{n, 1<<32 + n, math.MaxUint64 - n} {
			size := uint64(len(own.Tail(m)))
			if (m%64+size)%64 != 0 || size < 9 || size > 72 {
				t.Errorf("Tail(%d): %d bytes", m, size)
			}
		}
	}
}

// R4 and rule 7 of the language: nothing is written into what is handed in, and an answer is memory of its own.
func TestAnswersShareNothing(t *testing.T) {
	part := bytes.Repeat([]byte{1}, 200)
	parts := make([][]byte, 2, 5)
	parts[0], parts[1] = part[:70], part[70:90]
	own.Of(parts...)
	if !bytes.Equal(part, bytes.Repeat([]byte{1}, 200)) {
		t.Errorf("%x", part)
	}
	for _, p := range parts[2:5] {
		if p != nil {
			t.Errorf("%x is put behind the parts", p)
		}
	}
	tail := own.Tail(3)
	clear(tail)
	if own.Tail(3)[0] != 128 {
		t.Error("a tail is kept")
	}
}
