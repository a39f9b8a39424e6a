package bitp_test

import (
	"bytes"
	"math"
	"math/bits"
	"slices"
	"strconv"
	"strings"
	"testing"

	"euphroe/api"
	"euphroe/bitp"
)

// words are some, of all widths.
func words() []uint64 {
	return []uint64{
		0, 1, 2, 3, 5, 0x80, 0xA5, 0xFF, 0x100, 0x1234, 0xFFFFFFFF, 0x0123456789ABCDEF, 0xFEDCBA9876543210,
		0x5555555555555555, 1 << 63, 1<<63 | 1, 0xF0E1D2C3B4A59687, math.MaxUint64 - 1, math.MaxUint64,
	}
}

// noWidths are widths that a word has not.
func noWidths() []int {
	return []int{math.MinInt, -64, -1, 0, 65, 66, 128, 257, 1 << 32, math.MaxInt}
}

// shown is a word as a text of noughts and ones, of its width.
func shown(x uint64, width int) string {
	all := strconv.FormatUint(x, 2)
	all = strings.Repeat("0", 64-len(all)) + all
	return all[64-width:]
}

// read is the word of noughts and ones.
func read(s string) uint64 {
	if s == "" {
		return 0
	}
	x, err := strconv.ParseUint(s, 2, 64)
	if err != nil {
		panic(err)
	}
	return x
}

// P3.1: bits are counted from 1, the highest one, on.
func TestBit(t *testing.T) {
	for _, c := range []struct {
		x        uint64
		width, i int
		want     uint64
	}{
		{1, 1, 1, 1}, {2, 1, 1, 0}, {2, 2, 1, 1}, {2, 2, 2, 0}, {1, 8, 8, 1}, {1, 8, 1, 0}, {0x80, 8, 1, 1}, {0x80, 9, 1, 0}, {0x80, 9, 2, 1},
		{1 << 63, 64, 1, 1}, {1 << 63, 64, 64, 0}, {1, 64, 64, 1}, {1 << 63, 63, 1, 0}, {math.MaxUint64, 5, 3, 1},
	} {
		if got := bitp.Bit(c.x, c.width, c.i); got != c.want {
			t.Errorf("Bit(%x, %d, %d): %d", c.x, c.width, c.i, got)
		}
	}
	for _, x := range words() {
		for width := 1; width <= 64; width++ {
			for i, sign := range shown(x, width) {
				if got := bitp.Bit(x, width, i+1); got != uint64(sign-'0') {
					t.Fatalf("Bit(%x, %d, %d): %d", x, width, i+1, got)
				}
			}
		}
	}
}

// P3.1: 0 of a width, or a bit, that may not be.
func TestBitOfNone(t *testing.T) {
	for _, width := range noWidths() {
		for _, i := range []int{math.MinInt, -1, 0, 1, 2, 64, 65, math.MaxInt} {
			if got := bitp.Bit(math.MaxUint64, width, i); got != 0 {
				t.Errorf("Bit %d of width %d: %d", i, width, got)
			}
		}
	}
	for width := 1; width <= 64; width++ {
		for _, i := range []int{math.MinInt, -width, -1, 0, width + 1, width + 2, width + 64, width + 256, 1<<32 + 1, math.MaxInt} {
			if got := bitp.Bit(math.MaxUint64, width, i); got != 0 {
				t.Errorf("Bit %d of width %d: %d", i, width, got)
			}
		}
	}
}

// P3.1: the bits that a table names, in its order, as often as it names them.
func TestPermute(t *testing.T) {
	for _, c := range []struct {
		x     uint64
		width int
		table []int
		want  uint64
	}{
		{2, 2, []int{2, 1}, 1},
		{2, 2, []int{1, 2}, 2},
		{1, 2, []int{2, 1}, 2},
		{5, 3, nil, 0},
		{5, 3, []int{}, 0},
		{4, 3, []int{1, 1, 1, 1, 2, 1}, 0x3D},
		{0xFC, 2, []int{1, 2}, 0},
		{0xFD, 2, []int{2}, 1},
		{0x80, 8, []int{8, 7, 6, 5, 4, 3, 2, 1}, 1},
		{1, 1, slices.Repeat([]int{1}, 64), math.MaxUint64},
		{1 << 63, 64, []int{1}, 1},
		{1, 64, []int{64, 1}, 2},
	} {
		if got, e := bitp.Permute(c.x, c.width, c.table); got != c.want || e != api.OK {
			t.Errorf("Permute(%x, %d, %d): %x, %d, not %x", c.x, c.width, c.table, got, e, c.want)
		}
	}
}

// P3.1: words of all widths by tables of all lengths.
func TestPermuteOfAllWidths(t *testing.T) {
	for _, x := range words() {
		for width := 1; width <= 64; width++ {
			for many := range 65 {
				var table []int
				want := ""
				for k := range many {
					i := (k*k+5*k+many)%width + 1
					table = append(table, i)
					want += shown(x, width)[i-1 : i]
				}
				if got, e := bitp.Permute(x, width, table); got != read(want) || e != api.OK {
					t.Fatalf("Permute(%x, %d, %d): %x, %d", x, width, table, got, e)
				}
			}
		}
	}
}

// P3.1: what may not be is refused, wherever it stands.
func TestPermuteRefuses(t *testing.T) {
	for _, width := range noWidths() {
		for _, table := range [][]int{nil, {}, {1}, {2, 1}} {
			if got, e := bitp.Permute(7, width, table); got != 0 || e != api.ErrArg {
				t.Errorf("Permute of width %d: %x, %d", width, got, e)
			}
		}
	}
	for _, many := range []int{65, 66, 128, 320} {
		if got, e := bitp.Permute(7, 8, slices.Repeat([]int{1}, many)); got != 0 || e != api.ErrArg {
			t.Errorf("Permute by %d numbers: %x, %d", many, got, e)
		}
	}
	for width := 1; width <= 64; width++ {
		for _, i := range []int{math.MinInt, -1, 0, width + 1, width + 64, 1<<32 + 1, math.MaxInt} {
			for _, table := range [][]int{{i}, {i, 1}, {1, i}, {1, i, 1}} {
				if got, e := bitp.Permute(math.MaxUint64, width, table); got != 0 || e != api.ErrArg {
					t.Errorf("Permute of width %d by %d: %x, %d", width, table, got, e)
				}
			}
		}
	}
}

// turned is x turned left by n bits, one by one.
func turned(x uint64, width, n int) uint64 {
	s := shown(x, width)
	n = ((n % width) + width) % width
	return read(s[n:] + s[:n])
}

// P3.1: a word turned left, or right, modulo its width.
func TestTurn(t *testing.T) {
	for _, c := range []struct {
		x        uint64
		width, n int
		want     uint64
	}{
		{1, 8, 1, 2}, {0x80, 8, 1, 1}, {1, 8, -1, 0x80}, {0x81, 8, 0, 0x81}, {0x81, 8, 8, 0x81}, {0x81, 8, 9, 3}, {0x81, 8, -9, 0xC0},
		{0x181, 8, 1, 3}, {0x100, 8, 3, 0}, {1, 1, 5, 1}, {3, 1, -5, 1}, {0x8000001, 28, 1, 3}, {0xFF, 4, 2, 0xF},
		{1 << 63, 64, 1, 1}, {1, 64, -1, 1 << 63}, {1, 64, 64, 1}, {5, 64, 1 << 40, 5}, {5, 3, math.MinInt, 3}, {5, 3, math.MaxInt, 3},
	} {
		if got, e := bitp.Turn(c.x, c.width, c.n); got != c.want || e != api.OK {
			t.Errorf("Turn(%x, %d, %d): %x, %d, not %x", c.x, c.width, c.n, got, e, c.want)
		}
	}
	for _, x := range words() {
		for width := 1; width <= 64; width++ {
			for _, n := range []int{math.MinInt, math.MinInt + 1, -130, -65, -64, -63, -7, -1, 0, 1, 2, 13, 63, 64, 65, 127, 1000, math.MaxInt - 1, math.MaxInt} {
				if got, e := bitp.Turn(x, width, n); got != turned(x, width, n) || e != api.OK {
					t.Fatalf("Turn(%x, %d, %d): %x, %d", x, width, n, got, e)
				}
			}
		}
	}
}

// P3.1: a width that is none is refused.
func TestTurnRefuses(t *testing.T) {
	for _, width := range noWidths() {
		for _, n := range []int{math.MinInt, -1, 0, 1, 64, math.MaxInt} {
			if got, e := bitp.Turn(7, width, n); got != 0 || e != api.ErrArg {
				t.Errorf("Turn of width %d: %x, %d", width, got, e)
			}
		}
	}
}

// P3.1: the first bits, and the others.
func TestSplit(t *testing.T) {
	for _, c := range []struct {
		x         uint64
		width, at int
		ahead     uint64
		behind    uint64
	}{
		{0xAB, 8, 4, 0xA, 0xB}, {0xAB, 8, 0, 0, 0xAB}, {0xAB, 8, 8, 0xAB, 0}, {0xFAB, 8, 4, 0xA, 0xB}, {0xFAB, 8, 0, 0, 0xAB}, {0xFAB, 8, 8, 0xAB, 0},
		{0xABCDEF12345678, 56, 28, 0xABCDEF1, 0x2345678}, {1 << 63, 64, 1, 1, 0}, {math.MaxUint64, 64, 64, math.MaxUint64, 0}, {math.MaxUint64, 64, 0, 0, math.MaxUint64},
	} {
		ahead, behind, e := bitp.Split(c.x, c.width, c.at)
		if ahead != c.ahead || behind != c.behind || e != api.OK {
			t.Errorf("Split(%x, %d, %d): %x, %x, %d", c.x, c.width, c.at, ahead, behind, e)
		}
	}
	for _, x := range words() {
		for width := 1; width <= 64; width++ {
			for at := range width + 1 {
				s := shown(x, width)
				ahead, behind, e := bitp.Split(x, width, at)
				if ahead != read(s[:at]) || behind != read(s[at:]) || e != api.OK {
					t.Fatalf("Split(%x, %d, %d): %x, %x, %d", x, width, at, ahead, behind, e)
				}
			}
		}
	}
}

// P3.1: a width that is none, or a place that is not within it, is refused.
func TestSplitRefuses(t *testing.T) {
	refused := func(width, at int) {
		if ahead, behind, e := bitp.Split(math.MaxUint64, width, at); ahead != 0 || behind != 0 || e != api.ErrArg {
			t.Errorf("Split of width %d at %d: %x, %x, %d", width, at, ahead, behind, e)
		}
	}
	for _, width := range noWidths() {
		for _, at := range []int{-1, 0, 1, width} {
			refused(width, at)
		}
	}
	for width := 1; width <= 64; width++ {
		for _, at := range []int{math.MinInt, -64, -1, width + 1, width + 64, 1 << 32, math.MaxInt} {
			refused(width, at)
		}
	}
}

// P3.2: all bits but the lowest one stay, and an odd number of them is 1.
func TestOdd(t *testing.T) {
	for b := range 256 {
		got := bitp.Odd(byte(b))
		if got>>1 != byte(b)>>1 || bits.OnesCount8(got)%2 != 1 {
			t.Errorf("Odd(%x): %x", b, got)
		}
	}
	if bitp.Odd(0) != 1 || bitp.Odd(1) != 1 || bitp.Odd(2) != 2 || bitp.Odd(3) != 2 || bitp.Odd(255) != 254 {
		t.Error("Odd of 0, 1, 2, 3, 255")
	}
}

// keys are some of so many bytes.
func keys(size int) [][]byte {
	all := [][]byte{make([]byte, size), bytes.Repeat([]byte{255}, size)}
	for bit := range 8 * size {
		one := make([]byte, size)
		one[bit/8] = 0x80 >> (bit % 8)
		all = append(all, one)
	}
	for k := range 20 {
		mixed := make([]byte, size)
		for i := range mixed {
			mixed[i] = byte(37*i + 101*k + i*k)
		}
		all = append(all, mixed)
	}
	return all
}

// row is all bits of bytes.
func row(b []byte) string {
	s := ""
	for _, x := range b {
		s += shown(uint64(x), 8)
	}
	return s
}

// P3.2: seven bytes in eight.
func TestSpread(t *testing.T) {
	got, e := bitp.Spread([]byte{0xFC, 0x15, 0x6A, 0xF7, 0xED, 0xCD, 0x6C})
	if want := []byte{0xFD, 0x0B, 0x5B, 0x5E, 0x7F, 0x6E, 0x34, 0xD9}; !bytes.Equal(got, want) || e != api.OK {
		t.Errorf("%x, %d, not %x", got, e, want)
	}
	for _, key := range keys(7) {
		var want []byte
		for i := range 8 {
			want = append(want, bitp.Odd(byte(read(row(key)[7*i:7*i+7]))<<1))
		}
		if got, e := bitp.Spread(key); !bytes.Equal(got, want) || e != api.OK {
			t.Errorf("Spread(%x): %x, %d, not %x", key, got, e, want)
		}
	}
}

// P3.2: eight bytes in seven, whatever their lowest bits are.
func TestGather(t *testing.T) {
	for _, key := range keys(8) {
		bare := ""
		for _, b := range key {
			bare += shown(uint64(b), 8)[:7]
		}
		got, e := bitp.Gather(key)
		if len(got) != 7 || row(got) != bare || e != api.OK {
			t.Errorf("Gather(%x): %x, %d", key, got, e)
		}
	}
}

// P3.2: other lengths are refused.
func TestSpreadAndGatherRefuse(t *testing.T) {
	for size := range 300 {
		b := bytes.Repeat([]byte{1}, size)
		if got, e := bitp.Spread(b); size != 7 && (len(got) != 0 || e != api.ErrArg) {
			t.Errorf("Spread of %d bytes: %x, %d", size, got, e)
		}
		if got, e := bitp.Gather(b); size != 8 && (len(got) != 0 || e != api.ErrArg) {
			t.Errorf("Gather of %d bytes: %x, %d", size, got, e)
		}
	}
	if got, e := bitp.Spread(nil); len(got) != 0 || e != api.ErrArg {
		t.Errorf("Spread of nil: %x, %d", got, e)
	}
	if got, e := bitp.Gather(nil); len(got) != 0 || e != api.ErrArg {
		t.Errorf("Gather of nil: %x, %d", got, e)
	}
}

// P3.3: turned by two numbers is turned by both together.
func TestTurnedByTwo(t *testing.T) {
	for _, x := range words() {
		for width := 1; width <= 64; width++ {
			for a := -70; a <= 70; a += 7 {
				for b := -66; b <= 66; b += 11 {
					once, _ := bitp.Turn(x, width, a)
					twice, e := bitp.Turn(once, width, b)
					if both, _ := bitp.Turn(x, width, a+b); twice != both || e != api.OK {
						t.Fatalf("%x of width %d by %d and %d: %x, not %x", x, width, a, b, twice, both)
					}
				}
			}
		}
	}
}

// P3.3: what is spread is gathered.
func TestWhatIsSpreadIsGathered(t *testing.T) {
	for _, key := range keys(7) {
		wide, _ := bitp.Spread(key)
		if got, e := bitp.Gather(wide); !bytes.Equal(got, key) || e != api.OK {
			t.Errorf("%x: %x, %d", key, got, e)
		}
	}
}

// R4 and rule 7 of the language: nothing is written into what is handed in, and an answer is memory of its own.
func TestAnswersShareNothing(t *testing.T) {
	seven, eight, table := []byte{1, 2, 3, 4, 5, 6, 7, 99}[:7], []byte{1, 2, 3, 4, 5, 6, 7, 8, 99}[:8], []int{3, 2, 1, 99}[:3]
	wide, _ := bitp.Spread(seven)
	bare, _ := bitp.Gather(eight)
	bitp.Permute(5, 3, table)
	clear(wide)
	clear(bare)
	if !bytes.Equal(seven[:8], []byte{1, 2, 3, 4, 5, 6, 7, 99}) || !bytes.Equal(eight[:9], []byte{1, 2, 3, 4, 5, 6, 7, 8, 99}) || !slices.Equal(table[:4], []int{3, 2, 1, 99}) {
		t.Error(seven[:8], eight[:9], table[:4])
	}
}
