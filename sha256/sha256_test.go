package sha256_test

import (
	"bytes"
	"crypto/sha256"
	"encoding"
	"encoding/binary"
	"encoding/hex"
	"math"
	"strings"
	"testing"

	own "euphroe/sha256"
)

// mixed are so many bytes, unlike those of other numbers.
func mixed(n int) []byte {
	b := make([]byte, n)
	for i := range b {
		b[i] = byte(i*7 + n*13)
	}
	return b
}

// block is a block of bytes.
func block(b []byte) [64]byte { return [64]byte(b) }

// states are some, ordinary ones and those at the edges.
func states() []own.State {
	all := []own.State{own.First(), {}, {1, 2, 3, 4, 5}}
	for i := range own.First() {
		var one, most own.State
		one[i], most[i] = 0x80000001, math.MaxUint32
		all = append(all, one, most)
	}
	var many own.State
	for i := range many {
		many[i] = 0xDEADBEEF * uint32(i+1)
	}
	return append(all, many)
}

// blocks are some, ordinary ones and those at the edges.
func blocks() [][64]byte {
	all := [][64]byte{{}, block(bytes.Repeat([]byte{255}, 64)), block(mixed(64)), block(mixed(300)[200:264])}
	for i := range 64 {
		var one [64]byte
		one[i] = 1 << (i % 8)
		all = append(all, one)
	}
	return all
}

// told is the state behind a block more, as the library tells it: its digest's state is set, and read behind the block.
func told(t *testing.T, s own.State, b [64]byte) own.State {
	magic := []byte("sha\x03")
	set := magic
	for _, word := range s {
		set = binary.BigEndian.AppendUint32(set, word)
	}
	set = append(set, make([]byte, 64+8)...)
	h := sha256.New()
	if err := h.(encoding.BinaryUnmarshaler).UnmarshalBinary(set); err != nil {
		t.Fatal(err)
	}
	h.Write(b[:])
	got, err := h.(encoding.BinaryMarshaler).MarshalBinary()
	if err != nil {
		t.Fatal(err)
	}
	for i := range s {
		s[i] = binary.BigEndian.Uint32(got[len(magic)+4*i:])
	}
	return s
}

// P6.1: the state of no block.
func TestFirst(t *testing.T) {
	if s := own.First(); s != (own.State{0x6A09E667, 0xBB67AE85, 0x3C6EF372, 0xA54FF53A, 0x510E527F, 0x9B05688C, 0x1F83D9AB, 0x5BE0CD19}) {
		t.Errorf("%x", s)
	}
}

// P6.1: the state behind a block more, of whatever state.
func TestBlock(t *testing.T) {
	for _, s := range states() {
		for _, b := range blocks() {
			was, put := s, b
			if got, want := own.Block(s, b), told(t, s, b); got != want {
				t.Fatalf("Block(%x, %x): %x, not %x", s, b, got, want)
			}
			if s != was || b != put {
				t.Fatal("what was handed in is turned")
			}
		}
	}
}

// P6.1: 128, noughts, and the bits' number, the highest byte first.
func TestTail(t *testing.T) {
	for _, c := range []struct {
		n    uint64
		size int
		last string
	}{
		{0, 64, "0000000000000000"}, {1, 63, "0000000000000008"}, {54, 10, "00000000000001b0"}, {55, 9, "00000000000001b8"},
		{56, 72, "00000000000001c0"}, {63, 65, "00000000000001f8"}, {64, 64, "0000000000000200"}, {119, 9, "00000000000003b8"}, {120, 72, "00000000000003c0"},
		{1 << 29, 64, "0000000100000000"}, {1<<60 + 1, 63, "8000000000000008"}, {1 << 61, 64, "0000000000000000"}, {1<<61 + 56, 72, "00000000000001c0"},
		{math.MaxUint64, 65, "fffffffffffffff8"}, {math.MaxUint64 - 8, 9, "ffffffffffffffb8"}, {math.MaxUint64 - 7, 72, "ffffffffffffffc0"}, {0x0102030405060708, 56, "0810182028303840"},
	} {
		want := "80" + strings.Repeat("00", c.size-9) + c.last
		if got := hex.EncodeToString(own.Tail(c.n)); got != want {
			t.Errorf("Tail(%d): %s, not %s", c.n, got, want)
		}
	}
}

// P6.2: digests that are known.
func TestOfSome(t *testing.T) {
	for _, c := range [][2]string{
		{"", "e3b0c44298fc1c149afbf4c8996fb92427ae41e4649b934ca495991b7852b855"},
		{"a", "ca978112ca1bbdcafac231b39a23dc4da786eff8147c4e72b9807785afee48bb"},
		{"abc", "ba7816bf8f01cfea414140de5dae2223b00361a396177a9cb410ff61f20015ad"},
		{"abcdbcdecdefdefgefghfghighijhijkijkljklmklmnlmnomnopnopq", "248d6a61d20638b8e5c026930c3e6039a33ce45964ff2167f6ecedd419db06c1"},
		{strings.Repeat("a", 1000000), "cdc76e5c9914fb9281a1c7e284d73e67f1809a48a497200e046d39ccc7112cd0"},
	} {
		if got := own.Of([]byte(c[0])); hex.EncodeToString(got[:]) != c[1] {
			t.Errorf("Of %d bytes: %x, not %s", len(c[0]), got, c[1])
		}
	}
	if own.Of() != own.Of(nil) || own.Of() != own.Of([]byte{}, nil) || own.Of() != own.Of([]byte("")) {
		t.Error("of no parts, and of empty ones")
	}
}

// P6.2: digests of all lengths, those at the edges of blocks among them.
func TestOfAllLengths(t *testing.T) {
	for n := range 600 {
		if got, want := own.Of(mixed(n)), sha256.Sum256(mixed(n)); got != want {
			t.Errorf("Of %d bytes: %x, not %x", n, got, want)
		}
	}
	if got, want := own.Of(mixed(1<<20+7)), sha256.Sum256(mixed(1<<20+7)); got != want {
		t.Errorf("%x, not %x", got, want)
	}
}

// P6.2, P6.1: the digest is the state behind all blocks of the bytes and their tail.
func TestOfIsTheStateBehindAllBlocks(t *testing.T) {
	for n := range 200 {
		all := append(mixed(n), own.Tail(uint64(n))...)
		s := own.First()
		for ; len(all) > 0; all = all[64:] {
			s = own.Block(s, block(all[:64]))
		}
		var want []byte
		for _, word := range s {
			want = binary.BigEndian.AppendUint32(want, word)
		}
		if got := own.Of(mixed(n)); !bytes.Equal(got[:], want) {
			t.Errorf("Of %d bytes: %x, not %x", n, got, want)
		}
	}
}

// P6.3: however bytes are parted, their digest is the same.
func TestOfParts(t *testing.T) {
	for _, n := range []int{0, 1, 2, 55, 56, 63, 64, 65, 127, 128, 129, 200} {
		all := mixed(n)
		want := own.Of(all)
		for i := range n + 1 {
			if got := own.Of(all[:i], all[i:]); got != want {
				t.Fatalf("%d bytes, parted at %d: %x, not %x", n, i, got, want)
			}
			if got := own.Of(nil, all[:i/2], all[i/2:i], []byte{}, all[i:]); got != want {
				t.Fatalf("%d bytes, parted at %d and %d: %x, not %x", n, i/2, i, got, want)
			}
		}
		var single [][]byte
		for i := range all {
			single = append(single, all[i:i+1])
		}
		if got := own.Of(single...); got != want {
			t.Errorf("%d parts: %x, not %x", n, got, want)
		}
	}
	if own.Of([]byte("a"), []byte("b")) == own.Of([]byte("b"), []byte("a")) {
		t.Error("the order of parts plays no part")
	}
}

// P6.3: bytes with their tail are whole blocks, one or two more than they fill.
func TestTailFillsBlocks(t *testing.T) {
	for n := range uint64(1000) {
		for _, m := range []uint64{n, 1<<32 + n, math.MaxUint64 - n} {
			size := uint64(len(own.Tail(m)))
			if (m%64+size)%64 != 0 || size < 9 || size > 72 {
				t.Errorf("Tail(%d): %d bytes", m, size)
			}
		}
	}
}

// R4 and rule 7 of the language: nothing is written into what is handed in, and an answer is memory of its own.
func TestAnswersShareNothing(t *testing.T) {
	part := bytes.Repeat([]byte{1}, 200)
	parts := make([][]byte, 2, 5)
	parts[0], parts[1] = part[:70], part[70:90]
	own.Of(parts...)
	if !bytes.Equal(part, bytes.Repeat([]byte{1}, 200)) {
		t.Errorf("%x", part)
	}
	for _, p := range parts[2:5] {
		if p != nil {
			t.Errorf("%x is put behind the parts", p)
		}
	}
	tail := own.Tail(3)
	clear(tail)
	if own.Tail(3)[0] != 128 {
		t.Error("a tail is kept")
	}
}
