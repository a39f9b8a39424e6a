package des_test

import (
	"bytes"
	"crypto/des"
	"encoding/binary"
	"math"
	"math/bits"
	"math/rand"
	"slices"
	"strconv"
	"strings"
	"testing"

	"euphroe/api"
	own "euphroe/des"
)

// boxes are the boxes' digits, row by row, as the document tells them.
func boxes() [8][4]string {
	return [8][4]string{
		{"E4D12FB83A6C5907", "0F74E2D1A6CB9538", "41E8D62BFC973A50", "FC8249175B3EA06D"},
		{"F18E6B34972DC05A", "3D47F28EC01A69B5", "0E7BA4D158C6932F", "D8A13F42B67C05E9"},
		{"A09E63F51DC7B428", "D709346A285ECBF1", "D6498F30B12C5AE7", "1AD069874FE3B52C"},
		{"7DE3069A1285BC4F", "D8B56F03472C1AE9", "A690CB7DF13E5284", "3F06A1D8945BC72E"},
		{"2C417AB6853FD0E9", "EB2C47D150FA3986", "421BAD78F9C5630E", "B8C71E2D6F09A453"},
		{"C1AF92680D34E75B", "AF427C9561DE0B38", "9EF528C3704A1DB6", "432C95FABE17608D"},
		{"4B2EF08D3C975A61", "D0B7491AE35C2F86", "14BDC37EAF680592", "6BD814A7950FE23C"},
		{"D2846FB1A93E50C7", "1FD8A374C56B0E92", "7B419CE206ADF358", "21E74A8DFC90356B"},
	}
}

// words are some of 64 bits: those at the edges, each bit alone, and mixed ones.
func words() []uint64 {
	all := []uint64{0, math.MaxUint64, 0x133457799BBCDFF1, 0x0123456789ABCDEF, 0x0101010101010101, 0xFEFEFEFEFEFEFEFE, 0x1F1F1F1F0E0E0E0E, 0xAAAAAAAA55555555}
	for i := range 64 {
		all = append(all, 1<<i)
	}
	mixed := rand.New(rand.NewSource(8))
	for range 40 {
		all = append(all, mixed.Uint64())
	}
	return all
}

// library are a block turned, and turned back, as the library tells it.
func library(t *testing.T, key, block uint64) (uint64, uint64) {
	c, err := des.NewCipher(binary.BigEndian.AppendUint64(nil, key))
	if err != nil {
		t.Fatal(err)
	}
	b := binary.BigEndian.AppendUint64(nil, block)
	turned, back := make([]byte, 8), make([]byte, 8)
	c.Encrypt(turned, b)
	c.Decrypt(back, b)
	return binary.BigEndian.Uint64(turned), binary.BigEndian.Uint64(back)
}

// named is the text of the bits of x, of a width, that a list of numbers names.
func named(x uint64, width int, list string) string {
	all := strconv.FormatUint(x, 2)
	all = strings.Repeat("0", 64-len(all)) + all
	all = all[64-width:]
	s := ""
	for _, f := range strings.Fields(list) {
		i, err := strconv.Atoi(f)
		if err != nil {
			panic(err)
		}
		s += all[i-1 : i]
	}
	return s
}

// read is the word of noughts and ones.
func read(s string) uint64 {
	x, err := strconv.ParseUint(s, 2, 64)
	if err != nil {
		panic(err)
	}
	return x
}

// P8.1: all digits of all boxes, whatever stands above the six bits.
func TestBox(t *testing.T) {
	for n, rows := range boxes() {
		for six := range uint64(64) {
			row := six>>5<<1 | six&1
			want, err := strconv.ParseUint(rows[row][six>>1&15:][:1], 16, 64)
			if err != nil {
				t.Fatal(err)
			}
			for _, x := range []uint64{six, six | 64, six | 1<<63, six | ^uint64(63)} {
				if got := own.Box(n+1, x); got != want {
					t.Errorf("Box(%d, %x): %x, not %x", n+1, x, got, want)
				}
			}
		}
	}
}

// P8.1: 0 of none.
func TestBoxOfNone(t *testing.T) {
	for _, n := range []int{math.MinInt, -8, -1, 0, 9, 10, 16, 1<<32 + 1, math.MaxInt} {
		for six := range uint64(64) {
			if got := own.Box(n, six); got != 0 {
				t.Errorf("Box(%d, %x): %x", n, six, got)
			}
		}
	}
}

// P8.1: round keys that are known.
func TestKeysOfSome(t *testing.T) {
	want := [16]uint64{
		0x1B02EFFC7072, 0x79AED9DBC9E5, 0x55FC8A42CF99, 0x72ADD6DB351D, 0x7CEC07EB53A8, 0x63A53E507B2F, 0xEC84B7F618BC, 0xF78A3AC13BFB,
		0xE0DBEBEDE781, 0xB1F347BA464F, 0x215FD3DED386, 0x7571F59467E9, 0x97C5D1FABA41, 0x5F43B7F2E73A, 0xBF918D3D3F0A, 0xCB3D8B0E17F5,
	}
	if got := own.Keys(0x133457799BBCDFF1); got != want {
		t.Errorf("%x", got)
	}
	if own.Keys(0) != ([16]uint64{}) {
		t.Error("of noughts")
	}
}

// P8.1: round keys by the tables of FIPS 46.
func TestKeys(t *testing.T) {
	const left = "57 49 41 33 25 17 9 1 58 50 42 34 26 18 10 2 59 51 43 35 27 19 11 3 60 52 44 36"
	const right = "63 55 47 39 31 23 15 7 62 54 46 38 30 22 14 6 61 53 45 37 29 21 13 5 28 20 12 4"
	const rounds = "14 17 11 24 1 5 3 28 15 6 21 10 23 19 12 4 26 8 16 7 27 20 13 2 41 52 31 37 47 55 30 40 51 45 33 48 44 49 39 56 34 53 46 42 50 36 29 32"
	turns := [16]int{1, 2, 4, 6, 8, 10, 12, 14, 15, 17, 19, 21, 23, 25, 27, 28}
	for _, key := range words() {
		c, d := named(key, 64, left), named(key, 64, right)
		got := own.Keys(key)
		for i, n := range turns {
			half := read(c[n:] + c[:n] + d[n:] + d[:n])
			if want := read(named(half, 56, rounds)); got[i] != want {
				t.Fatalf("Keys(%x), round %d: %x, not %x", key, i+1, got[i], want)
			}
		}
	}
}

// P8.1: a round's word, by the tables of FIPS 46, and by the key's lowest 48 bits.
func TestWord(t *testing.T) {
	if got := own.Word(0xF0AAF0AA, 0x1B02EFFC7072); got != 0x234AA9BB {
		t.Errorf("%x", got)
	}
	const wide = "32 1 2 3 4 5 4 5 6 7 8 9 8 9 10 11 12 13 12 13 14 15 16 17 16 17 18 19 20 21 20 21 22 23 24 25 24 25 26 27 28 29 28 29 30 31 32 1"
	const mixing = "16 7 20 21 29 12 28 17 1 15 23 26 5 18 31 10 2 8 24 14 32 27 3 9 19 13 30 6 22 11 4 25"
	for _, x := range words() {
		for _, key := range []uint64{0, 1<<48 - 1, x, bits.ReverseBytes64(x), 0xFFFF000000000000, x | 0xFFFF000000000000, 1 << 48} {
			half := uint32(x) ^ uint32(x>>32)
			six := read(named(uint64(half), 32, wide)) ^ key
			var digits uint64
			for n := range 8 {
				digits = digits<<4 | own.Box(n+1, six>>(42-6*n)&63)
			}
			if got, want := own.Word(half, key), read(named(digits, 32, mixing)); uint64(got) != want {
				t.Fatalf("Word(%x, %x): %x, not %x", half, key, got, want)
			}
		}
	}
}

// P8.2: blocks that are known.
func TestTurnOfSome(t *testing.T) {
	for _, c := range [][3]uint64{
		{0x133457799BBCDFF1, 0x0123456789ABCDEF, 0x85E813540F0AB405},
		{0, 0, 0x8CA64DE9C1B123A7},
		{0x0E329232EA6D0D73, 0x8787878787878787, 0},
		{0x0101010101010101, 0x8000000000000000, 0x95F8A5E5DD31D900},
	} {
		if got := own.Turn(c[0], c[1]); got != c[2] {
			t.Errorf("Turn(%x, %x): %x, not %x", c[0], c[1], got, c[2])
		}
		if got := own.Back(c[0], c[2]); got != c[1] {
			t.Errorf("Back(%x, %x): %x, not %x", c[0], c[2], got, c[1])
		}
	}
}

// P8.2: blocks turned, and turned back, as the library does it.
func TestTurnAndBack(t *testing.T) {
	for _, key := range words() {
		for i, block := range words() {
			if i%7 != int(key%7) && block != key {
				continue
			}
			turned, back := library(t, key, block)
			if got := own.Turn(key, block); got != turned {
				t.Errorf("Turn(%x, %x): %x, not %x", key, block, got, turned)
			}
			if got := own.Back(key, block); got != back {
				t.Errorf("Back(%x, %x): %x, not %x", key, block, got, back)
			}
		}
	}
}

// spread is a key of seven bytes as one of eight, with lowest bits of noughts, which play no part.
func spread(seven []byte) uint64 {
	x := binary.BigEndian.Uint64(append([]byte{0}, seven...))
	var key uint64
	for i := range 8 {
		key = key<<8 | x>>(49-7*i)&127<<1
	}
	return key
}

// P8.2: a block turned by a key of seven bytes.
func TestSeven(t *testing.T) {
	for _, x := range words() {
		key, block := binary.BigEndian.AppendUint64(nil, x)[:7], binary.BigEndian.AppendUint64(nil, bits.Reverse64(x)+1)
		turned, _ := library(t, spread(key), binary.BigEndian.Uint64(block))
		want := binary.BigEndian.AppendUint64(nil, turned)
		if got, e := own.Seven(key, block); !bytes.Equal(got, want) || e != api.OK {
			t.Errorf("Seven(%x, %x): %x, %d, not %x", key, block, got, e, want)
		}
	}
}

// P8.2: keys and blocks of other lengths are refused.
func TestSevenRefuses(t *testing.T) {
	sizes := []int{0, 1, 6, 7, 8, 9, 14, 16, 56, 64, 263, 264}
	for _, k := range sizes {
		for _, b := range sizes {
			got, e := own.Seven(make([]byte, k), make([]byte, b))
			if k == 7 && b == 8 {
				if len(got) != 8 || e != api.OK {
					t.Errorf("Seven of 7 and 8 bytes: %x, %d", got, e)
				}
			} else if len(got) != 0 || e != api.ErrArg {
				t.Errorf("Seven of %d and %d bytes: %x, %d", k, b, got, e)
			}
		}
	}
	if got, e := own.Seven(nil, nil); len(got) != 0 || e != api.ErrArg {
		t.Errorf("Seven of nil: %x, %d", got, e)
	}
}

// P8.3: what is turned is turned back, either way.
func TestWhatIsTurnedIsTurnedBack(t *testing.T) {
	list := words()
	for i, key := range list {
		block := list[(i*31+7)%len(list)]
		if got := own.Back(key, own.Turn(key, block)); got != block {
			t.Errorf("%x by %x: %x", block, key, got)
		}
		if got := own.Turn(key, own.Back(key, block)); got != block {
			t.Errorf("%x by %x: %x", block, key, got)
		}
	}
}

// P8.3: the lowest bit of each byte of a key plays no part, each other bit does.
func TestLowestBitsPlayNoPart(t *testing.T) {
	const key, block = 0x133457799BBCDFF1, 0x0123456789ABCDEF
	for i := range 64 {
		other := uint64(key) ^ 1<<i
		same := i%8 == 0
		if (own.Keys(other) == own.Keys(key)) != same || (own.Turn(other, block) == own.Turn(key, block)) != same || (own.Back(other, block) == own.Back(key, block)) != same {
			t.Errorf("bit %d", i)
		}
	}
}

// R4 and rule 7 of the language: nothing is written into what is handed in, and an answer is memory of its own.
func TestAnswersShareNothing(t *testing.T) {
	key, block := []byte{1, 2, 3, 4, 5, 6, 7, 99, 99}, []byte{1, 2, 3, 4, 5, 6, 7, 8, 99, 99}
	got, _ := own.Seven(key[:7], block[:8])
	clear(got)
	if !slices.Equal(key, []byte{1, 2, 3, 4, 5, 6, 7, 99, 99}) || !slices.Equal(block, []byte{1, 2, 3, 4, 5, 6, 7, 8, 99, 99}) {
		t.Error(key, block)
	}
}
