package tests

import (
	"math"
	"math/big"
	"testing"

	"loop.example/g00316/impl"
)

const most = impl.MaxFix

// wrongFixes are no fixes; some would pass as one if only their low bits were
// looked at.
var wrongFixes = []int64{-1, -2, most + 1, most + 2, -most, -most - 1, 2 * most, math.MinInt64, math.MinInt64 + 1, math.MaxInt64, math.MaxInt64 - 1, 1 << 41, 1<<62 + 5, math.MinInt64 + 7}

// someFixes are edges of the fixes and of the words that hold their products.
var someFixes = []int64{0, 1, 2, 3, 7, 10, 99, 100, 2519, 65535, 65536, 1<<20 - 1, 1 << 20, 1<<20 + 1, 1<<24 - 1, 1 << 24, 1<<31 - 1, 1 << 31, 1 << 32, 1<<32 + 1, 999999999989, 1<<39 - 1, 1 << 39, 1<<39 + 1, most - 2, most - 1, most}

type twoCase struct{ a, b, want int64 }

type threeCase struct{ a, b, c, want int64 }

func isFix(a int64) bool {
	return a >= 0 && a <= most
}

// capped is what a whole number is once it stops at 0 and at MaxFix.
func capped(n *big.Int) int64 {
	if n.Sign() < 0 {
		return 0
	}
	if n.Cmp(big.NewInt(most)) > 0 {
		return most
	}
	return n.Int64()
}

func plusByBig(a, b int64) int64 {
	if !isFix(a) || !isFix(b) {
		return -1
	}
	return capped(new(big.Int).Add(big.NewInt(a), big.NewInt(b)))
}

func minusByBig(a, b int64) int64 {
	if !isFix(a) || !isFix(b) {
		return -1
	}
	return capped(new(big.Int).Sub(big.NewInt(a), big.NewInt(b)))
}

func shareByBig(a, b, c int64) int64 {
	if !isFix(a) || !isFix(b) || !isFix(c) {
		return -1
	}
	if c == 0 {
		return most
	}
	product := new(big.Int).Mul(big.NewInt(a), big.NewInt(b))
	return capped(product.Div(product, big.NewInt(c)))
}

func rootByBig(a int64) int64 {
	if !isFix(a) {
		return -1
	}
	return new(big.Int).Sqrt(big.NewInt(a)).Int64()
}

// anyNumbers are right and wrong ones together.
func anyNumbers() []int64 {
	list := append([]int64{}, someFixes...)
	return append(list, wrongFixes...)
}

// spread makes n numbers that lie all over the fixes, small and great ones.
func spread(n int) []int64 {
	var list []int64
	x := uint64(88172645463325252)
	for i := 0; i < n; i++ {
		x ^= x << 13
		x ^= x >> 7
		x ^= x << 17
		list = append(list, int64(x>>24)>>(i%41))
	}
	return list
}

func TestMaxFix(t *testing.T) {
	if most != 1<<40 {
		t.Fatal("MaxFix is", int64(most))
	}
}

func TestFixOk(t *testing.T) {
	for _, a := range someFixes {
		if !impl.FixOk(a) {
			t.Errorf("FixOk(%d) is false", a)
		}
	}
	for _, a := range wrongFixes {
		if impl.FixOk(a) {
			t.Errorf("FixOk(%d) is true", a)
		}
	}
}

func TestPlus(t *testing.T) {
	for _, c := range []twoCase{
		{0, 0, 0},
		{0, 1, 1},
		{1, 0, 1},
		{3, 4, 7},
		{0, most, most},
		{most, 0, most},
		{most - 1, 1, most},
		{1, most - 1, most},
		{most - 2, 1, most - 1},
		{1 << 39, 1 << 39, most},
		{1 << 39, 1<<39 + 1, most},
		{1 << 39, 1<<39 - 1, most - 1},
		{most, 1, most},
		{1, most, most},
		{most, most, most},
	} {
		if got := impl.Plus(c.a, c.b); got != c.want {
			t.Errorf("Plus(%d, %d) = %d, not %d", c.a, c.b, got, c.want)
		}
	}
}

func TestMinus(t *testing.T) {
	for _, c := range []twoCase{
		{0, 0, 0},
		{1, 0, 1},
		{9, 3, 6},
		{3, 3, 0},
		{3, 4, 0},
		{3, 9, 0},
		{0, 1, 0},
		{0, most, 0},
		{most, 0, most},
		{most, 1, most - 1},
		{most, most, 0},
		{most, most - 1, 1},
		{most - 1, most, 0},
	} {
		if got := impl.Minus(c.a, c.b); got != c.want {
			t.Errorf("Minus(%d, %d) = %d, not %d", c.a, c.b, got, c.want)
		}
	}
}

func TestShare(t *testing.T) {
	for _, c := range []threeCase{
		{7, 5, 2, 17},
		{7, 5, 35, 1},
		{7, 5, 36, 0},
		{6, 4, 3, 8},
		{0, 5, 2, 0},
		{5, 0, 2, 0},
		{0, most, most, 0},
		// nothing is lost ahead of the division
		{1, 2, 3, 0},
		{2, 2, 3, 1},
		{10, 10, 3, 33},
		// MaxFix, one less and one more, by a product of one word
		{1 << 20, 1 << 20, 1, most},
		{1<<20 + 1, 1<<20 - 1, 1, most - 1},
		{most, 1, 1, most},
		{most - 1, 1, 1, most - 1},
		{1<<20 + 1, 1 << 20, 1, most},
		{most, 3, 2, most},
		// the product passes an int64: the answer is below MaxFix
		{1 << 39, 1 << 39, 1<<39 + 1, 1<<39 - 1},
		{most, most, most, most},
		{most, most - 1, most, most - 1},
		{most - 1, most - 1, most, most - 2},
		{1 << 32, 1 << 31, 1 << 40, 1 << 23},
		{1 << 32, 1 << 32, 1 << 40, 1 << 24},
		{most, 1 << 24, 1<<25 + 1, 549755797504},
		{most, 1<<39 + 1, most, 1<<39 + 1},
		// .. it is MaxFix, and it is above that
		{most, 1 << 39, 1 << 39, most},
		{1 << 39, most, 1 << 39, most},
		{most, 1<<39 + 1, 1 << 39, most},
		{most, most, most - 1, most},
		{1 << 32, 1 << 32, 1, most},
		{most, most, 1, most},
		{most, most, 65535, most},
		{most, most, 65536, most},
		{most, most, 65537, most},
		// c is 0
		{0, 0, 0, most},
		{1, 1, 0, most},
		{0, 1, 0, most},
		{1, 0, 0, most},
		{most, most, 0, most},
	} {
		if got := impl.Share(c.a, c.b, c.c); got != c.want {
			t.Errorf("Share(%d, %d, %d) = %d, not %d", c.a, c.b, c.c, got, c.want)
		}
	}
}

func TestRoot(t *testing.T) {
	for _, c := range [][2]int64{
		{0, 0},
		{1, 1},
		{2, 1},
		{3, 1},
		{4, 2},
		{8, 2},
		{9, 3},
		{99, 9},
		{100, 10},
		{101, 10},
		{most - 1, 1<<20 - 1},
		{most, 1 << 20},
	} {
		if got := impl.Root(c[0]); got != c[1] {
			t.Errorf("Root(%d) = %d, not %d", c[0], got, c[1])
		}
	}
}

// Each square of a fix there is, and one less and one more than it.
func TestRootOfAllSquares(t *testing.T) {
	for n := int64(1); n <= 1<<20; n++ {
		if got := impl.Root(n * n); got != n {
			t.Fatalf("Root(%d) = %d, not %d", n*n, got, n)
		}
		if got := impl.Root(n*n - 1); got != n-1 {
			t.Fatalf("Root(%d) = %d, not %d", n*n-1, got, n-1)
		}
		if n == 1<<20 {
			break
		}
		if got := impl.Root(n*n + 1); got != n {
			t.Fatalf("Root(%d) = %d, not %d", n*n+1, got, n)
		}
	}
}

// One that is no fix, at each argument, beside right ones of all kinds.
func TestNoFixes(t *testing.T) {
	for _, w := range wrongFixes {
		if got := impl.Root(w); got != -1 {
			t.Errorf("Root(%d) = %d", w, got)
		}
		for _, a := range someFixes {
			pairs := [][2]int64{{w, a}, {a, w}, {w, w}}
			for _, p := range pairs {
				if got := impl.Plus(p[0], p[1]); got != -1 {
					t.Errorf("Plus(%d, %d) = %d", p[0], p[1], got)
				}
				if got := impl.Minus(p[0], p[1]); got != -1 {
					t.Errorf("Minus(%d, %d) = %d", p[0], p[1], got)
				}
			}
			for _, b := range someFixes {
				for _, p := range [][3]int64{{w, a, b}, {a, w, b}, {a, b, w}} {
					if got := impl.Share(p[0], p[1], p[2]); got != -1 {
						t.Errorf("Share(%d, %d, %d) = %d", p[0], p[1], p[2], got)
					}
				}
			}
		}
	}
}

// A wrong number ahead is told even where c is 0, and where all are wrong.
func TestNoFixGoesAheadOfNought(t *testing.T) {
	for _, w := range wrongFixes {
		for _, p := range [][3]int64{{w, 1, 0}, {1, w, 0}, {w, w, 0}, {w, 0, 0}, {0, w, 0}, {w, w, w}} {
			if got := impl.Share(p[0], p[1], p[2]); got != -1 {
				t.Errorf("Share(%d, %d, %d) = %d", p[0], p[1], p[2], got)
			}
		}
	}
}

// Right and wrong ones in all places, held against numbers without a limit.
// That it ends shows also that none of them panics.
func TestFixesByBigNumbers(t *testing.T) {
	list := anyNumbers()
	for _, a := range list {
		if got := impl.FixOk(a); got != isFix(a) {
			t.Fatalf("FixOk(%d) = %v", a, got)
		}
		if got, want := impl.Root(a), rootByBig(a); got != want {
			t.Fatalf("Root(%d) = %d, not %d", a, got, want)
		}
		for _, b := range list {
			if got, want := impl.Plus(a, b), plusByBig(a, b); got != want {
				t.Fatalf("Plus(%d, %d) = %d, not %d", a, b, got, want)
			}
			if got, want := impl.Minus(a, b), minusByBig(a, b); got != want {
				t.Fatalf("Minus(%d, %d) = %d, not %d", a, b, got, want)
			}
			for _, c := range list {
				if got, want := impl.Share(a, b, c), shareByBig(a, b, c); got != want {
					t.Fatalf("Share(%d, %d, %d) = %d, not %d", a, b, c, got, want)
				}
			}
		}
	}
}

func TestSpreadFixesByBigNumbers(t *testing.T) {
	list := spread(30000)
	for i := 2; i < len(list); i++ {
		a, b, c := list[i-2], list[i-1], list[i]
		if got, want := impl.Plus(a, b), plusByBig(a, b); got != want {
			t.Fatalf("Plus(%d, %d) = %d, not %d", a, b, got, want)
		}
		if got, want := impl.Minus(a, b), minusByBig(a, b); got != want {
			t.Fatalf("Minus(%d, %d) = %d, not %d", a, b, got, want)
		}
		if got, want := impl.Share(a, b, c), shareByBig(a, b, c); got != want {
			t.Fatalf("Share(%d, %d, %d) = %d, not %d", a, b, c, got, want)
		}
		if got, want := impl.Root(a), rootByBig(a); got != want {
			t.Fatalf("Root(%d) = %d, not %d", a, got, want)
		}
	}
}
