package roots_test

import (
	"math"
	"math/big"
	"slices"
	"testing"

	"euphroe/api"
	"euphroe/roots"
)

// wrong are numbers, degrees and bits of which one at least may not be.
func wrong() [][3]int {
	return [][3]int{
		{-1, 2, 0}, {-1, 3, 32}, {1001, 2, 0}, {1001, 3, 32}, {math.MinInt, 2, 8}, {math.MaxInt, 3, 8}, {1 << 32, 2, 1}, {1<<32 + 4, 2, 1},
		{4, -2, 0}, {4, -1, 0}, {4, 0, 0}, {4, 1, 0}, {4, 4, 0}, {16, 4, 8}, {0, 1, 0}, {0, 5, 32}, {4, math.MinInt, 0}, {4, math.MaxInt, 0}, {4, 1<<32 + 2, 0},
		{4, 2, -1}, {8, 3, -1}, {4, 2, 33}, {8, 3, 33}, {0, 2, 33}, {0, 3, -1}, {4, 2, 64}, {4, 2, math.MinInt}, {8, 3, math.MaxInt}, {4, 2, 1 << 32},
		{-1, 1, -1}, {1001, 4, 33},
	}
}

// fits tells whether x, taken degree times as factor, is not above n times 2 to the power of degree times bits.
func fits(x *big.Int, n, degree, bits int) bool {
	power := new(big.Int).Exp(x, big.NewInt(int64(degree)), nil)
	bound := new(big.Int).Lsh(big.NewInt(int64(n)), uint(degree*bits))
	return power.Cmp(bound) <= 0
}

// P2.1: roots that are known.
func TestRootOfSome(t *testing.T) {
	for _, c := range []struct {
		n, degree, bits int
		want            uint64
	}{
		{2, 2, 30, 0x5A827999},
		{3, 2, 30, 0x6ED9EBA1},
		{5, 2, 30, 0x8F1BBCDC},
		{10, 2, 30, 0xCA62C1D6},
		{0, 2, 32, 0},
		{0, 3, 0, 0},
		{1, 2, 0, 1},
		{1, 3, 32, 1 << 32},
		{3, 2, 0, 1},
		{4, 2, 0, 2},
		{7, 3, 0, 1},
		{8, 3, 0, 2},
		{8, 3, 32, 2 << 32},
		{961, 2, 32, 31 << 32},
		{1000, 2, 0, 31},
		{1000, 3, 0, 10},
		{1000, 3, 32, 10 << 32},
		{999, 3, 0, 9},
		{2, 2, 32, 0x16A09E667},
		{2, 3, 32, 0x1428A2F98},
		{2, 2, 1, 2},
		{2, 2, 2, 5},
	} {
		if x, e := roots.Root(c.n, c.degree, c.bits); x != c.want || e != api.OK {
			t.Errorf("Root(%d, %d, %d): %x, %d, not %x", c.n, c.degree, c.bits, x, e, c.want)
		}
	}
}

// P2.1: each root is the greatest number that fits, and just that one is it.
func TestRootOfAll(t *testing.T) {
	one := big.NewInt(1)
	for n := range 1001 {
		for degree := 2; degree <= 3; degree++ {
			for bits := range 33 {
				x, e := roots.Root(n, degree, bits)
				whole := new(big.Int).SetUint64(x)
				if e != api.OK || !fits(whole, n, degree, bits) || fits(whole.Add(whole, one), n, degree, bits) {
					t.Fatalf("Root(%d, %d, %d): %x, %d", n, degree, bits, x, e)
				}
				if !roots.Is(x, n, degree, bits) || roots.Is(x+1, n, degree, bits) || roots.Is(x-1, n, degree, bits) {
					t.Fatalf("Is of %x, %d, %d, %d", x, n, degree, bits)
				}
			}
		}
	}
}

// P2.1: just the root is it.
func TestIsRefusesOthers(t *testing.T) {
	for _, x := range []uint64{0, 1, 3, 4, 1<<32 | 2, 1 << 63, math.MaxUint64, math.MaxUint64 - 1} {
		if roots.Is(x, 4, 2, 0) {
			t.Errorf("Is of %d, 4, 2, 0", x)
		}
	}
	if roots.Is(0x5A827998, 2, 2, 30) || roots.Is(0x5A82799A, 2, 2, 30) || roots.Is(0x5A827999, 2, 2, 29) || roots.Is(0x5A827999, 2, 3, 30) || roots.Is(0x5A827999, 3, 2, 30) {
		t.Error("another one's root")
	}
}

// P2.1: what may not be is refused, and nothing is its root.
func TestRootRefuses(t *testing.T) {
	for _, c := range wrong() {
		if x, e := roots.Root(c[0], c[1], c[2]); x != 0 || e != api.ErrArg {
			t.Errorf("Root of %d: %x, %d", c, x, e)
		}
		for _, x := range []uint64{0, 1, 2, 4, 31, 1 << 32, math.MaxUint64} {
			if roots.Is(x, c[0], c[1], c[2]) {
				t.Errorf("Is of %x, %d", x, c)
			}
		}
	}
}

// P2.2: the lowest 32 bits of the root with 32.
func TestFrac(t *testing.T) {
	for _, c := range []struct {
		n, degree int
		want      uint32
	}{
		{2, 2, 0x6A09E667}, {3, 2, 0xBB67AE85}, {19, 2, 0x5BE0CD19},
		{2, 3, 0x428A2F98}, {3, 3, 0x71374491}, {311, 3, 0xC67178F2},
		{0, 2, 0}, {1, 2, 0}, {4, 2, 0}, {961, 2, 0}, {0, 3, 0}, {1, 3, 0}, {1000, 3, 0},
	} {
		if x := roots.Frac(c.n, c.degree); x != c.want {
			t.Errorf("Frac(%d, %d): %x, not %x", c.n, c.degree, x, c.want)
		}
	}
	for n := range 1001 {
		for degree := 2; degree <= 3; degree++ {
			if x, _ := roots.Root(n, degree, 32); roots.Frac(n, degree) != uint32(x) {
				t.Errorf("Frac(%d, %d): %x", n, degree, roots.Frac(n, degree))
			}
		}
	}
}

// P2.2: nought of what may not be.
func TestFracOfNone(t *testing.T) {
	for _, c := range [][2]int{
		{-1, 2}, {-2, 3}, {1001, 2}, {1001, 3}, {math.MinInt, 2}, {math.MaxInt, 3}, {2, -1}, {2, 0}, {2, 1}, {2, 4}, {2, math.MinInt}, {2, math.MaxInt}, {1<<32 + 2, 2}, {2, 1<<32 + 2},
	} {
		if x := roots.Frac(c[0], c[1]); x != 0 {
			t.Errorf("Frac of %d: %x", c, x)
		}
	}
}

// below1000 are the primes below 1000.
func below1000() []int {
	var primes []int
	for n := range 1000 {
		if big.NewInt(int64(n)).ProbablyPrime(20) {
			primes = append(primes, n)
		}
	}
	return primes
}

// P2.2: the first primes, rising.
func TestPrimes(t *testing.T) {
	all := below1000()
	if len(all) != 168 {
		t.Fatal(len(all))
	}
	for many := range 169 {
		if got := roots.Primes(many); !slices.Equal(got, all[:many]) {
			t.Errorf("Primes(%d): %d", many, got)
		}
	}
}

// P2.2: none below 1, and those below 1000 at most.
func TestPrimesAtTheEdges(t *testing.T) {
	for _, many := range []int{0, -1, -168, math.MinInt} {
		if got := roots.Primes(many); len(got) != 0 {
			t.Errorf("Primes(%d): %d", many, got)
		}
	}
	for _, many := range []int{169, 170, 1000, 1 << 32, math.MaxInt} {
		if got := roots.Primes(many); !slices.Equal(got, below1000()) {
			t.Errorf("Primes(%d): %d", many, got)
		}
	}
}

// P2.2: the Fracs of the first primes.
func TestFracs(t *testing.T) {
	first := []uint32{0x6A09E667, 0xBB67AE85, 0x3C6EF372, 0xA54FF53A, 0x510E527F, 0x9B05688C, 0x1F83D9AB, 0x5BE0CD19}
	if got := roots.Fracs(8, 2); !slices.Equal(got, first) {
		t.Errorf("Fracs(8, 2): %x", got)
	}
	for _, many := range []int{math.MinInt, -1, 0, 1, 2, 64, 167, 168, 169, math.MaxInt} {
		for degree := 2; degree <= 3; degree++ {
			var want []uint32
			for _, p := range below1000()[:min(max(many, 0), 168)] {
				want = append(want, roots.Frac(p, degree))
			}
			if got := roots.Fracs(many, degree); !slices.Equal(got, want) {
				t.Errorf("Fracs(%d, %d): %x, not %x", many, degree, got, want)
			}
		}
	}
}

// P2.2: of a degree that may not be each prime has a nought.
func TestFracsOfNoDegree(t *testing.T) {
	for _, degree := range []int{math.MinInt, -2, 0, 1, 4, math.MaxInt} {
		if got := roots.Fracs(3, degree); !slices.Equal(got, []uint32{0, 0, 0}) {
			t.Errorf("Fracs(3, %d): %x", degree, got)
		}
	}
}

// P2.3: roots do not fall, as n grows.
func TestRootsDoNotFall(t *testing.T) {
	for degree := 2; degree <= 3; degree++ {
		for bits := range 33 {
			var ahead uint64
			for n := range 1001 {
				x, e := roots.Root(n, degree, bits)
				if e != api.OK || x < ahead {
					t.Fatalf("Root(%d, %d, %d): %x behind %x, %d", n, degree, bits, x, ahead, e)
				}
				ahead = x
			}
		}
	}
}

// P2.3: a bit more tells the same root more closely.
func TestABitMoreTellsTheSameRoot(t *testing.T) {
	for n := range 1001 {
		for degree := 2; degree <= 3; degree++ {
			for bits := range 32 {
				x, _ := roots.Root(n, degree, bits)
				if more, e := roots.Root(n, degree, bits+1); e != api.OK || more>>1 != x {
					t.Fatalf("Root(%d, %d, %d): %x, and %x with a bit more, %d", n, degree, bits, x, more, e)
				}
			}
		}
	}
}

// Rule 7 of the language: answers are memory of their own.
func TestAnswersShareNothing(t *testing.T) {
	primes, fracs := roots.Primes(168), roots.Fracs(8, 2)
	clear(primes)
	clear(fracs)
	if !slices.Equal(roots.Primes(168), below1000()) || roots.Fracs(8, 2)[0] != 0x6A09E667 {
		t.Error("an answer is kept")
	}
}
