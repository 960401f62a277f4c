package tests

import (
	"math"
	"math/big"
	"testing"

	"loop.example/g00316/impl"
)

const mostFactor = 8

func rightFactors() []int64 { return []int64{1, 2, 3, 4, 5, 6, 7, 8} }

// coupleProbs are the edges, those whose square is near a whole number times
// One, and those that come near One with a factor.
func coupleProbs() []int64 {
	// With a rest of 1, and with the greatest rest that a square has.
	list := append(someProbs(), 524287, 524289, 49333, 474955, 573621, 999243)
	for _, root := range []int64{1, 2, 3, 31, 32, 511, 512, 700, 1022, 1023, 1024} {
		for prob := root*1024 - 2; prob <= min(root*1024+2, mostProb); prob++ {
			list = append(list, prob)
		}
	}
	for _, factor := range rightFactors() {
		for prob := mostProb/factor - 2; prob <= min(mostProb/factor+2, mostProb); prob++ {
			list = append(list, prob)
		}
	}
	return list
}

func wrongProbs() []int64 { return wrongAround(0, mostProb) }

func wrongFactors() []int64 { return wrongAround(1, mostFactor) }

func wrongDraws() []int64 { return wrongAround(0, mostProb-1) }

// squaredByBig, coupledByBig and fairByBig go by the words, in numbers that
// have no end, at every number.
func squaredByBig(prob int64) int64 {
	if !within(prob, 0, mostProb) {
		return -1
	}
	square := new(big.Int).Exp(big.NewInt(prob), big.NewInt(2), nil)
	return square.Div(square, big.NewInt(mostProb)).Int64()
}

func coupledByBig(prob, factor int64) int64 {
	if !within(prob, 0, mostProb) || !within(factor, 1, mostFactor) {
		return -1
	}
	product, one := new(big.Int).Mul(big.NewInt(prob), big.NewInt(factor)), big.NewInt(mostProb)
	if product.Cmp(one) > 0 {
		return one.Int64()
	}
	return product.Int64()
}

func fairByBig(prob, factor int64) int64 {
	coupled := coupledByBig(prob, factor)
	if coupled == -1 {
		return -1
	}
	square := new(big.Int).Exp(big.NewInt(factor), big.NewInt(2), nil)
	return square.Div(big.NewInt(squaredByBig(coupled)), square).Int64()
}

func choiceByBig(prob, factor int64, gentle bool, draw int64) int64 {
	coupled, squared := coupledByBig(prob, factor), squaredByBig(prob)
	switch {
	case coupled == -1 || !within(draw, 0, mostProb-1):
		return impl.ChBad
	case gentle && draw < coupled:
		return impl.ChMark
	case !gentle && draw < squared:
		return impl.ChDrop
	}
	return impl.ChPass
}

func squaredIs(t *testing.T, prob, want int64) {
	t.Helper()
	if got := impl.Squared(prob); got != want {
		t.Fatalf("Squared(%d) = %d, want %d", prob, got, want)
	}
}

func coupledIs(t *testing.T, prob, factor, want int64) {
	t.Helper()
	if got := impl.Coupled(prob, factor); got != want {
		t.Fatalf("Coupled(%d, %d) = %d, want %d", prob, factor, got, want)
	}
}

func fairIs(t *testing.T, prob, factor, want int64) {
	t.Helper()
	if got := impl.Fair(prob, factor); got != want {
		t.Fatalf("Fair(%d, %d) = %d, want %d", prob, factor, got, want)
	}
}

func choiceIs(t *testing.T, prob, factor int64, gentle bool, draw, want int64) {
	t.Helper()
	if got := impl.Choice(prob, factor, gentle, draw); got != want {
		t.Fatalf("Choice(%d, %d, %v, %d) = %d, want %d", prob, factor, gentle, draw, got, want)
	}
}

// bothByChoice asks of a gentle one and of another one.
func bothByChoice(t *testing.T, prob, factor, draw int64) {
	t.Helper()
	for _, gentle := range []bool{true, false} {
		choiceIs(t, prob, factor, gentle, draw, choiceByBig(prob, factor, gentle, draw))
	}
}

// badToAll asks all that take a prob and a factor.
func badToAll(t *testing.T, prob, factor int64) {
	t.Helper()
	coupledIs(t, prob, factor, -1)
	fairIs(t, prob, factor, -1)
	for _, draw := range append(wrongDraws(), 0, 1, mostProb/2, mostProb-1) {
		choiceIs(t, prob, factor, true, draw, impl.ChBad)
		choiceIs(t, prob, factor, false, draw, impl.ChBad)
	}
}

func TestCodesOfChoice(t *testing.T) {
	if impl.ChPass != 0 || impl.ChMark != 1 || impl.ChDrop != 2 || impl.ChBad != 3 {
		t.Fatal(impl.ChPass, impl.ChMark, impl.ChDrop, impl.ChBad)
	}
}

func TestSquaredByHand(t *testing.T) {
	for _, c := range []struct{ prob, want int64 }{
		{0, 0},
		{1, 0},
		{1023, 0},
		{1024, 1},
		{1025, 1},
		{1448, 1},
		{1449, 2},
		{2047, 3},
		{2048, 4},
		{2049, 4},
		{mostProb / 4, mostProb / 16},
		{mostProb / 2, mostProb / 4},
		// A square with a rest of 1, and one that lacks 7, the least that one
		// lacks, for one more.
		{524287, 262143},
		{524289, 262145},
		{49333, 2320},
		{474955, 215131},
		{573621, 313797},
		{999243, 952230},
		// The root is just below, just at and just above a whole one.
		{1047551, 1046527},
		{1047552, 1046529},
		{1047553, 1046530},
		{mostProb - 1, mostProb - 2},
		{mostProb, mostProb},
		// Out of range.
		{-1, -1},
		{-1024, -1},
		{mostProb + 1, -1},
		{1 << 32, -1},
		{math.MinInt64, -1},
		{math.MaxInt64, -1},
	} {
		squaredIs(t, c.prob, c.want)
	}
}

func TestCoupledByHand(t *testing.T) {
	for _, c := range []twoCase{
		{0, 1, 0},
		{0, 8, 0},
		{1, 1, 1},
		{1, 8, 8},
		{1000, 3, 3000},
		{mostProb / 4, 2, mostProb / 2},
		{mostProb / 4, 8, mostProb},
		{mostProb - 1, 1, mostProb - 1},
		{mostProb - 1, 2, mostProb},
		{mostProb - 1, 8, mostProb},
		{mostProb, 1, mostProb},
		{mostProb, 8, mostProb},
		// Just below, just at and just above One.
		{524287, 2, 1048574},
		{524288, 2, mostProb},
		{524289, 2, mostProb},
		{349525, 3, 1048575},
		{349526, 3, mostProb},
		{262143, 4, 1048572},
		{262144, 4, mostProb},
		{262145, 4, mostProb},
		{209715, 5, 1048575},
		{209716, 5, mostProb},
		{174762, 6, 1048572},
		{174763, 6, mostProb},
		{149796, 7, 1048572},
		{149797, 7, mostProb},
		{131071, 8, 1048568},
		{131072, 8, mostProb},
		{131073, 8, mostProb},
		// Out of range.
		{-1, 1, -1},
		{mostProb + 1, 1, -1},
		{1000, 0, -1},
		{1000, 9, -1},
		{0, 0, -1},
		{0, 9, -1},
		{1000, -1, -1},
		{-1, -1, -1},
		{math.MinInt64, 8, -1},
		{math.MaxInt64, 8, -1},
		{1, math.MinInt64, -1},
		{1, math.MaxInt64, -1},
	} {
		coupledIs(t, c.a, c.b, c.want)
	}
}

func TestFairByHand(t *testing.T) {
	for _, c := range []twoCase{
		{0, 1, 0},
		{0, 8, 0},
		{1, 8, 0},
		{1023, 8, 0},
		{1024, 1, 1},
		{1024, 8, 1},
		{mostProb / 4, 1, mostProb / 16},
		{mostProb / 4, 2, mostProb / 16},
		{mostProb / 4, 4, mostProb / 16},
		// Behind One with the factor it is One by the factor's square.
		{mostProb / 4, 8, mostProb / 64},
		{mostProb / 4, 5, 41943},
		{524287, 2, 262143},
		{524288, 2, 262144},
		{524289, 2, 262144},
		{349525, 3, 116508},
		{349526, 3, 116508},
		{209715, 5, 41942},
		{209716, 5, 41943},
		{174762, 6, 29126},
		{174763, 6, 29127},
		{149797, 7, 21399},
		{131071, 8, 16383},
		{131072, 8, 16384},
		{131073, 8, 16384},
		{mostProb - 1, 1, mostProb - 2},
		{mostProb - 1, 8, 16384},
		{mostProb, 1, mostProb},
		{mostProb, 2, mostProb / 4},
		{mostProb, 3, 116508},
		{mostProb, 7, 21399},
		{mostProb, 8, 16384},
		// Out of range.
		{-1, 1, -1},
		{-1, 8, -1},
		{mostProb + 1, 1, -1},
		{mostProb + 1, 8, -1},
		{1000, 0, -1},
		{1000, 9, -1},
		{0, 0, -1},
		{mostProb, 0, -1},
		{mostProb, -1, -1},
		{-1, 0, -1},
		{math.MinInt64, 8, -1},
		{math.MaxInt64, 8, -1},
		{1, math.MinInt64, -1},
		{1, math.MaxInt64, -1},
		// Its square would wrap to 0.
		{1, 1 << 32, -1},
	} {
		fairIs(t, c.a, c.b, c.want)
	}
}

func TestChoiceByHand(t *testing.T) {
	const quarter = mostProb / 4
	for _, c := range []struct {
		prob, factor int64
		gentle       bool
		draw, want   int64
	}{
		// Coupled is a half of One, Squared a sixteenth.
		{quarter, 2, true, 0, impl.ChMark},
		{quarter, 2, true, mostProb/2 - 1, impl.ChMark},
		{quarter, 2, true, mostProb / 2, impl.ChPass},
		{quarter, 2, true, mostProb - 1, impl.ChPass},
		{quarter, 2, false, 0, impl.ChDrop},
		{quarter, 2, false, mostProb/16 - 1, impl.ChDrop},
		{quarter, 2, false, mostProb / 16, impl.ChPass},
		{quarter, 2, false, mostProb/2 - 1, impl.ChPass},
		{quarter, 2, false, mostProb - 1, impl.ChPass},
		// The factor is nothing to another one.
		{quarter, 8, false, mostProb/16 - 1, impl.ChDrop},
		{quarter, 8, false, mostProb / 16, impl.ChPass},
		{quarter, 8, true, mostProb - 1, impl.ChMark},
		{0, 8, true, 0, impl.ChPass},
		{0, 8, false, 0, impl.ChPass},
		{1, 1, true, 0, impl.ChMark},
		{1, 1, true, 1, impl.ChPass},
		{1, 8, true, 7, impl.ChMark},
		{1, 8, true, 8, impl.ChPass},
		{1, 8, false, 0, impl.ChPass},
		{1023, 8, false, 0, impl.ChPass},
		{1024, 8, false, 0, impl.ChDrop},
		{1024, 8, false, 1, impl.ChPass},
		{mostProb - 1, 1, true, mostProb - 2, impl.ChMark},
		{mostProb - 1, 1, true, mostProb - 1, impl.ChPass},
		{mostProb - 1, 1, false, mostProb - 3, impl.ChDrop},
		{mostProb - 1, 1, false, mostProb - 2, impl.ChPass},
		{mostProb, 1, true, mostProb - 1, impl.ChMark},
		{mostProb, 1, false, mostProb - 1, impl.ChDrop},
		// Out of range, also where the answer would not turn on it.
		{-1, 2, true, 0, impl.ChBad},
		{-1, 2, false, 0, impl.ChBad},
		{mostProb + 1, 2, true, 0, impl.ChBad},
		{mostProb + 1, 2, false, 0, impl.ChBad},
		{quarter, 0, true, 0, impl.ChBad},
		{quarter, 0, false, 0, impl.ChBad},
		{quarter, 9, true, 0, impl.ChBad},
		{quarter, 9, false, 0, impl.ChBad},
		{quarter, 9, false, mostProb - 1, impl.ChBad},
		{0, 9, false, 0, impl.ChBad},
		{quarter, 2, true, -1, impl.ChBad},
		{quarter, 2, false, -1, impl.ChBad},
		{quarter, 2, true, mostProb, impl.ChBad},
		{quarter, 2, false, mostProb, impl.ChBad},
		{0, 2, true, mostProb, impl.ChBad},
		{0, 2, false, -1, impl.ChBad},
		{quarter, 2, true, math.MinInt64, impl.ChBad},
		{quarter, 2, false, math.MaxInt64, impl.ChBad},
		{math.MinInt64, 2, true, 0, impl.ChBad},
		{math.MaxInt64, 2, false, 0, impl.ChBad},
		{quarter, math.MinInt64, false, 0, impl.ChBad},
		{quarter, math.MaxInt64, true, 0, impl.ChBad},
		{-1, 0, true, -1, impl.ChBad},
		{-1, 0, false, mostProb, impl.ChBad},
	} {
		choiceIs(t, c.prob, c.factor, c.gentle, c.draw, c.want)
	}
}

func TestCoupleByBig(t *testing.T) {
	for _, prob := range coupleProbs() {
		squaredIs(t, prob, squaredByBig(prob))
		for _, factor := range rightFactors() {
			coupledIs(t, prob, factor, coupledByBig(prob, factor))
			fairIs(t, prob, factor, fairByBig(prob, factor))
		}
	}
}

func TestCoupleDrawn(t *testing.T) {
	d := &drawer{state: 11}
	for range 50000 {
		prob, factor, draw := d.below(mostProb+1), 1+d.below(mostFactor), d.below(mostProb)
		// Small ones too, which no factor brings to One.
		prob >>= d.below(12)
		squaredIs(t, prob, squaredByBig(prob))
		coupledIs(t, prob, factor, coupledByBig(prob, factor))
		fairIs(t, prob, factor, fairByBig(prob, factor))
		bothByChoice(t, prob, factor, draw)
		bothByChoice(t, prob, factor, draw>>d.below(12))
	}
}

// Every prob there is: the next square is so much more than the one ahead, and
// each One in it is 1 more.
func TestSquaredByCounting(t *testing.T) {
	whole, rest := int64(0), int64(0)
	for prob := range int64(mostProb + 1) {
		squaredIs(t, prob, whole)
		for rest += 2*prob + 1; rest >= mostProb; rest -= mostProb {
			whole++
		}
	}
}

// Every prob there is, added as often as the factor says.
func TestCoupledAndFairByCounting(t *testing.T) {
	for _, factor := range rightFactors() {
		parts := factor * factor
		for prob := range int64(mostProb + 1) {
			sum := int64(0)
			for range factor {
				sum = min(sum+prob, mostProb)
			}
			coupledIs(t, prob, factor, sum)
			fair, whole := impl.Fair(prob, factor), impl.Squared(sum)
			if fair*parts > whole || (fair+1)*parts <= whole {
				t.Fatalf("Fair(%d, %d) = %d, of %d", prob, factor, fair, whole)
			}
		}
	}
}

// The promise, at every prob and factor.
func TestCoupledIsNoLessThanSquared(t *testing.T) {
	for prob := range int64(mostProb + 1) {
		squared := impl.Squared(prob)
		if !within(squared, 0, prob) {
			t.Fatalf("Squared(%d) = %d", prob, squared)
		}
		for _, factor := range rightFactors() {
			coupled := impl.Coupled(prob, factor)
			if coupled < squared || !within(coupled, prob, mostProb) {
				t.Fatalf("Coupled(%d, %d) = %d, Squared %d", prob, factor, coupled, squared)
			}
			if fair := impl.Fair(prob, factor); !within(fair, 0, squared) {
				t.Fatalf("Fair(%d, %d) = %d, Squared %d", prob, factor, fair, squared)
			}
		}
	}
}

func TestCoupleGoesUpWithProb(t *testing.T) {
	for _, factor := range rightFactors() {
		squared, coupled, fair := int64(0), int64(0), int64(0)
		for prob := range int64(mostProb + 1) {
			nextSquared, nextCoupled, nextFair := impl.Squared(prob), impl.Coupled(prob, factor), impl.Fair(prob, factor)
			if nextSquared < squared || nextCoupled < coupled || nextFair < fair {
				t.Fatalf("of %d and %d: %d, %d and %d, ahead %d, %d and %d", prob, factor, nextSquared, nextCoupled, nextFair, squared, coupled, fair)
			}
			// What stays does so for a reason: it has come to One, or is
			// rounded down.
			if prob > 0 && coupled < mostProb && nextCoupled == coupled {
				t.Fatalf("Coupled(%d, %d) = %d does not go up", prob, factor, nextCoupled)
			}
			if prob > mostProb/2 && nextSquared == squared {
				t.Fatalf("Squared(%d) = %d does not go up", prob, nextSquared)
			}
			squared, coupled, fair = nextSquared, nextCoupled, nextFair
		}
		if squared != mostProb || coupled != mostProb || fair != mostProb/(factor*factor) {
			t.Fatalf("of One and %d: %d, %d and %d", factor, squared, coupled, fair)
		}
	}
}

// Rounded down twice is rounded down once, so that both are just the same.
func TestFairIsSquaredUpToOne(t *testing.T) {
	for _, factor := range rightFactors() {
		for prob := int64(0); prob <= mostProb; prob++ {
			if prob*factor <= mostProb {
				fairIs(t, prob, factor, impl.Squared(prob))
			} else {
				fairIs(t, prob, factor, mostProb/(factor*factor))
			}
		}
	}
}

func TestChoiceAroundCoupledAndSquared(t *testing.T) {
	for _, prob := range coupleProbs() {
		for _, factor := range rightFactors() {
			draws := []int64{0, 1, mostProb - 2, mostProb - 1, mostProb}
			for _, edge := range []int64{impl.Coupled(prob, factor), impl.Squared(prob), impl.Fair(prob, factor), prob} {
				draws = append(draws, edge-2, edge-1, edge, edge+1)
			}
			for _, draw := range draws {
				bothByChoice(t, prob, factor, draw)
			}
		}
	}
}

// Of all draws just as many are marked as Coupled is great, and just as many
// dropped as Squared is; who would be dropped would be marked.
func TestChoicesAreAsManyAsTheirProb(t *testing.T) {
	for _, prob := range []int64{0, 1, 1023, 1024, 50000, 131072, 131073, mostProb / 4, 573621, mostProb - 1, mostProb} {
		for _, factor := range []int64{1, 2, 7, mostFactor} {
			var gentle, other [4]int64
			for draw := range int64(mostProb) {
				g, o := impl.Choice(prob, factor, true, draw), impl.Choice(prob, factor, false, draw)
				if !within(g, 0, 3) || !within(o, 0, 3) || o == impl.ChDrop && g != impl.ChMark {
					t.Fatalf("of %d, %d and %d: %d and %d", prob, factor, draw, g, o)
				}
				gentle[g]++
				other[o]++
			}
			coupled, squared := coupledByBig(prob, factor), squaredByBig(prob)
			if gentle != [4]int64{mostProb - coupled, coupled, 0, 0} || other != [4]int64{mostProb - squared, 0, squared, 0} {
				t.Fatalf("of %d and %d: %v and %v", prob, factor, gentle, other)
			}
		}
	}
}

func TestCoupleOfWrongProbs(t *testing.T) {
	for _, prob := range wrongProbs() {
		squaredIs(t, prob, -1)
		for _, factor := range append(wrongFactors(), rightFactors()...) {
			badToAll(t, prob, factor)
		}
	}
}

func TestCoupleOfWrongFactors(t *testing.T) {
	for _, factor := range wrongFactors() {
		for _, prob := range coupleProbs() {
			badToAll(t, prob, factor)
		}
	}
}

func TestChoiceOfWrongDraws(t *testing.T) {
	for _, draw := range wrongDraws() {
		for _, prob := range coupleProbs() {
			for _, factor := range rightFactors() {
				choiceIs(t, prob, factor, true, draw, impl.ChBad)
				choiceIs(t, prob, factor, false, draw, impl.ChBad)
			}
		}
	}
}

// Each number in turn, over both of its edges.
func TestCoupleAtEachNumber(t *testing.T) {
	for _, edge := range []int64{0, mostProb} {
		for n := edge - 300; n <= edge+300; n++ {
			squaredIs(t, n, squaredByBig(n))
			coupledIs(t, n, 3, coupledByBig(n, 3))
			fairIs(t, n, 3, fairByBig(n, 3))
			bothByChoice(t, n, 3, 5)
			bothByChoice(t, 700000, 1, n)
			bothByChoice(t, mostProb, 1, n)
			bothByChoice(t, 0, 1, n)
		}
	}
	for n := int64(-300); n <= 300; n++ {
		coupledIs(t, 5000, n, coupledByBig(5000, n))
		fairIs(t, 5000, n, fairByBig(5000, n))
		bothByChoice(t, 5000, n, 20)
	}
}

func TestCoupleArgumentsStay(t *testing.T) {
	for _, prob := range append(coupleProbs(), wrongProbs()...) {
		for _, factor := range []int64{0, 1, 5, mostFactor, mostFactor + 1} {
			p, f, gentle, draw := prob, factor, true, int64(5000)
			squared, coupled, fair := impl.Squared(p), impl.Coupled(p, f), impl.Fair(p, f)
			marked, dropped := impl.Choice(p, f, gentle, draw), impl.Choice(p, f, !gentle, draw)
			if p != prob || f != factor || !gentle || draw != 5000 {
				t.Fatalf("%d and %d have become %d and %d, or what was asked beside them", prob, factor, p, f)
			}
			// Nothing is kept from call to call either.
			squaredIs(t, prob, squared)
			coupledIs(t, prob, factor, coupled)
			fairIs(t, prob, factor, fair)
			choiceIs(t, prob, factor, true, draw, marked)
			choiceIs(t, prob, factor, false, draw, dropped)
		}
	}
}
