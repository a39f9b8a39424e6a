package md4_test

import (
	"bytes"
	"encoding/binary"
	"encoding/hex"
	"math"
	"math/bits"
	"strings"
	"testing"

	"euphroe/md4"
)

// mixed are so many bytes, unlike those of other numbers.
func mixed(n int) []byte {
	b := make([]byte, n)
	for i := range b {
		b[i] = byte(i*7 + n*13)
	}
	return b
}

// block is a block of bytes.
func block(b []byte) [64]byte { return [64]byte(b) }

// states are some, ordinary ones and those at the edges.
func states() []md4.State {
	return []md4.State{
		md4.First(), {}, {1, 2, 3, 4}, {math.MaxUint32, math.MaxUint32, math.MaxUint32, math.MaxUint32},
		{0x80000000, 0, 0, 1}, {0, 0, 0, math.MaxUint32}, {0xDEADBEEF, 0x01234567, 0x89ABCDEF, 0xF0E1D2C3},
	}
}

// blocks are some, ordinary ones and those at the edges.
func blocks() [][64]byte {
	all := [][64]byte{{}, block(bytes.Repeat([]byte{255}, 64)), block(mixed(64)), block(mixed(300)[200:264])}
	for i := range 64 {
		var one [64]byte
		one[i] = 1 << (i % 8)
		all = append(all, one)
	}
	return all
}

// told is the state behind a block more, as RFC 1320 tells it: the words stay where they are, and each round names its own.
func told(s md4.State, b [64]byte) md4.State {
	var x [16]uint32
	for i := range x {
		x[i] = binary.LittleEndian.Uint32(b[4*i:])
	}
	v := s
	do := func(n int, by []int, mix func(x, y, z uint32) uint32, more uint32, places string) {
		for j, place := range strings.Fields(places) {
			k := bytes.IndexByte([]byte("0123456789abcdef"), place[0])
			at := (n*16 - j + 64) % 4
			sum := v[at] + mix(v[(at+1)%4], v[(at+2)%4], v[(at+3)%4]) + x[k] + more
			v[at] = bits.RotateLeft32(sum, by[j%4])
		}
	}
	do(0, []int{3, 7, 11, 19}, func(x, y, z uint32) uint32 { return z ^ x&(y^z) }, 0, "0 1 2 3 4 5 6 7 8 9 a b c d e f")
	do(1, []int{3, 5, 9, 13}, func(x, y, z uint32) uint32 { return x&(y|z) | y&z }, 0x5A827999, "0 4 8 c 1 5 9 d 2 6 a e 3 7 b f")
	do(2, []int{3, 9, 11, 15}, func(x, y, z uint32) uint32 { return x ^ y ^ z }, 0x6ED9EBA1, "0 8 4 c 2 a 6 e 1 9 5 d 3 b 7 f")
	for i := range v {
		v[i] += s[i]
	}
	return v
}

// P4.1: the state of no block.
func TestFirst(t *testing.T) {
	if s := md4.First(); s != (md4.State{0x67452301, 0xEFCDAB89, 0x98BADCFE, 0x10325476}) {
		t.Errorf("%x", s)
	}
}

// P4.1: the state behind a block more, of whatever state.
func TestBlock(t *testing.T) {
	for _, s := range states() {
		for _, b := range blocks() {
			was, put := s, b
			if got := md4.Block(s, b); got != told(s, b) {
				t.Fatalf("Block(%x, %x): %x, not %x", s, b, got, told(s, b))
			}
			if s != was || b != put {
				t.Fatal("what was handed in is turned")
			}
		}
	}
}

// P4.1: 128, noughts, and the bits' number, the lowest byte first.
func TestTail(t *testing.T) {
	for _, c := range []struct {
		n    uint64
		size int
		last string
	}{
		{0, 64, "0000000000000000"}, {1, 63, "0800000000000000"}, {54, 10, "b001000000000000"}, {55, 9, "b801000000000000"},
		{56, 72, "c001000000000000"}, {63, 65, "f801000000000000"}, {64, 64, "0002000000000000"}, {119, 9, "b803000000000000"}, {120, 72, "c003000000000000"},
		{1 << 29, 64, "0000000001000000"}, {1<<60 + 1, 63, "0800000000000080"}, {1 << 61, 64, "0000000000000000"}, {1<<61 + 56, 72, "c001000000000000"},
		{math.MaxUint64, 65, "f8ffffffffffffff"}, {math.MaxUint64 - 8, 9, "b8ffffffffffffff"}, {math.MaxUint64 - 7, 72, "c0ffffffffffffff"}, {0x0102030405060708, 56, "4038302820181008"},
	} {
		want := "80" + strings.Repeat("00", c.size-9) + c.last
		if got := hex.EncodeToString(md4.Tail(c.n)); got != want {
			t.Errorf("Tail(%d): %s, not %s", c.n, got, want)
		}
	}
}

// P4.2: digests that RFC 1320 tells.
func TestOfSome(t *testing.T) {
	for _, c := range [][2]string{
		{"", "31d6cfe0d16ae931b73c59d7e0c089c0"},
		{"a", "bde52cb31de33e46245e05fbdbd6fb24"},
		{"abc", "a448017aaf21d8525fc10ae87aa6729d"},
		{"message digest", "d9130a8164549fe818874806e1c7014b"},
		{"abcdefghijklmnopqrstuvwxyz", "d79e1c308aa5bbcdeea8ed63df412da9"},
		{"ABCDEFGHIJKLMNOPQRSTUVWXYZabcdefghijklmnopqrstuvwxyz0123456789", "043f8582f241db351ce627e153e7f0e4"},
		{strings.Repeat("1234567890", 8), "e33b4ddc9c38f2199c3e7b164fcc0536"},
		{strings.Repeat("\x00", 1000000), "d0b30f1d5bd243c0880eab13f4c9c643"},
	} {
		if got := md4.Of([]byte(c[0])); hex.EncodeToString(got[:]) != c[1] {
			t.Errorf("Of %d bytes: %x, not %s", len(c[0]), got, c[1])
		}
	}
	if md4.Of() != md4.Of(nil) || md4.Of() != md4.Of([]byte{}, nil) || md4.Of() != md4.Of([]byte("")) {
		t.Error("of no parts, and of empty ones")
	}
}

// P4.2: digests at the edges of blocks.
func TestOfAtTheEdges(t *testing.T) {
	for n, want := range map[int]string{
		54: "7494fd4fdfae08709872c833b373a045", 55: "49914de01e2ef2085cd2485f1ef1e386", 56: "c6c22d33d8af6ca16093218f46c9ee7f",
		57: "feb90e6d0713cc0b4030a7518ff67ee0", 63: "cd032c547873502e184d23eccbf75d25", 64: "fcbb886e8d1c3a29fe7486d79be0e879",
		65: "772b506702ce8b4320529cdea94cf41f", 119: "6818c9014ddafe060b7ba6208d9be12e", 120: "21132c62286d7e4328b9ea9bdcd11146",
		127: "80708085f34374db98a4b080ae3c9584", 128: "4d15d1e9259954b8e0589d4a0b1d1763", 129: "8ba73d1c7429df241148dc4bbac0c6cc",
	} {
		if got := md4.Of(mixed(n)); hex.EncodeToString(got[:]) != want {
			t.Errorf("Of %d bytes: %x, not %s", n, got, want)
		}
	}
}

// P4.2: the digest of the digests of 0 to 300 bytes.
func TestOfAllLengths(t *testing.T) {
	var all []byte
	for n := range 301 {
		d := md4.Of(mixed(n))
		all = append(all, d[:]...)
	}
	if got := md4.Of(all); hex.EncodeToString(got[:]) != "390a63d3efa9040167cf824bea318f94" {
		t.Errorf("%x", got)
	}
}

// P4.2, P4.1: the digest is the state behind all blocks of the bytes and their tail.
func TestOfIsTheStateBehindAllBlocks(t *testing.T) {
	for n := range 200 {
		all := append(mixed(n), md4.Tail(uint64(n))...)
		s := md4.First()
		for ; len(all) > 0; all = all[64:] {
			s = md4.Block(s, block(all[:64]))
		}
		var want []byte
		for _, word := range s {
			want = binary.LittleEndian.AppendUint32(want, word)
		}
		if got := md4.Of(mixed(n)); !bytes.Equal(got[:], want) {
			t.Errorf("Of %d bytes: %x, not %x", n, got, want)
		}
	}
}

// P4.3: however bytes are parted, their digest is the same.
func TestOfParts(t *testing.T) {
	for _, n := range []int{0, 1, 2, 55, 56, 63, 64, 65, 127, 128, 129, 200} {
		all := mixed(n)
		want := md4.Of(all)
		for i := range n + 1 {
			if got := md4.Of(all[:i], all[i:]); got != want {
				t.Fatalf("%d bytes, parted at %d: %x, not %x", n, i, got, want)
			}
			if got := md4.Of(nil, all[:i/2], all[i/2:i], []byte{}, all[i:]); got != want {
				t.Fatalf("%d bytes, parted at %d and %d: %x, not %x", n, i/2, i, got, want)
			}
		}
		var single [][]byte
		for i := range all {
			single = append(single, all[i:i+1])
		}
		if got := md4.Of(single...); got != want {
			t.Errorf("%d parts: %x, not %x", n, got, want)
		}
	}
	if md4.Of([]byte("a"), []byte("b")) == md4.Of([]byte("b"), []byte("a")) {
		t.Error("the order of parts plays no part")
	}
}

// P4.3: bytes with their tail are whole blocks, one or two more than they fill.
func TestTailFillsBlocks(t *testing.T) {
	for n := range uint64(1000) {
		for _, m := range []uint64{n, 1<<32 + n, math.MaxUint64 - n} {
			size := uint64(len(md4.Tail(m)))
			if (m%64+size)%64 != 0 || size < 9 || size > 72 {
				t.Errorf("Tail(%d): %d bytes", m, size)
			}
		}
	}
}

// R4 and rule 7 of the language: nothing is written into what is handed in, and an answer is memory of its own.
func TestAnswersShareNothing(t *testing.T) {
	part := bytes.Repeat([]byte{1}, 200)
	parts := make([][]byte, 2, 5)
	parts[0], parts[1] = part[:70], part[70:90]
	md4.Of(parts...)
	if !bytes.Equal(part, bytes.Repeat([]byte{1}, 200)) {
		t.Errorf("%x", part)
	}
	for _, p := range parts[2:5] {
		if p != nil {
			t.Errorf("%x is put behind the parts", p)
		}
	}
	tail := md4.Tail(3)
	clear(tail)
	if md4.Tail(3)[0] != 128 {
		t.Error("a tail is kept")
	}
}
