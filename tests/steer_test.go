package tests

import (
	"math"
	"math/big"
	"slices"
	"testing"

	"loop.example/g00316/impl"
)

const (
	mostTarget = 1000
	mostDelay  = 100000
	mostProb   = 1 << 20
	mostStirs  = 1000
)

// stepsOfProb are where the divisor changes: One by 1000, by 100, by 10 and by
// 4, each rounded down.
var stepsOfProb = []int64{1048, 10485, 104857, 262144}

func steer(target, old, prob int64) impl.Steer {
	return impl.Steer{Target: target, Old: old, Prob: prob}
}

type steerField struct {
	of              func(s *impl.Steer) *int64
	least, greatest int64
}

func steerFields() []steerField {
	return []steerField{
		{func(s *impl.Steer) *int64 { return &s.Target }, 1, mostTarget},
		{func(s *impl.Steer) *int64 { return &s.Old }, 0, mostDelay},
		{func(s *impl.Steer) *int64 { return &s.Prob }, 0, mostProb},
	}
}

// someProbs are the edges, where the divisor changes, and some between.
func someProbs() []int64 {
	list := []int64{0, 1, 2, 63, 64, 65, 127, 128, 129, 500, 5000, 50000, 200000, 300000, 700000, mostProb - 22, mostProb - 1, mostProb}
	for _, step := range stepsOfProb {
		list = append(list, step-1, step, step+1)
	}
	return list
}

func rightSteers() []impl.Steer {
	var list []impl.Steer
	for _, target := range []int64{1, 2, 20, 500, mostTarget - 1, mostTarget} {
		for _, old := range []int64{0, 1, 2, 19, 20, 21, mostTarget, mostTarget + 1, 5000, mostDelay - 1, mostDelay} {
			for _, prob := range someProbs() {
				list = append(list, steer(target, old, prob))
			}
		}
	}
	return list
}

// wrongSteers have one number that is wrong, and some have all.
func wrongSteers() []impl.Steer {
	list := []impl.Steer{{}, steer(-1, -1, -1), steer(0, -1, mostProb+1), steer(mostTarget+1, mostDelay+1, mostProb+1)}
	for _, field := range steerFields() {
		for _, n := range wrongAround(field.least, field.greatest) {
			for _, s := range []impl.Steer{steer(1, 0, 0), steer(20, 30, 300000), steer(mostTarget, mostDelay, mostProb)} {
				*field.of(&s) = n
				list = append(list, s)
			}
		}
	}
	return list
}

// delaysAround are right delays: the edges, and those near Target and Old.
func delaysAround(s impl.Steer) []int64 {
	list := []int64{0, 1, 2, 100, 5000, mostDelay - 1, mostDelay}
	for _, edge := range []int64{s.Target, s.Old} {
		for k := int64(-2); k <= 2; k++ {
			if within(edge+k, 0, mostDelay) {
				list = append(list, edge+k)
			}
		}
	}
	return list
}

func wrongDelays() []int64 { return wrongAround(0, mostDelay) }

// divisorByBig goes by the words, in numbers that have no end.
func divisorByBig(prob int64) *big.Int {
	for _, step := range []struct{ part, divisor int64 }{{1000, 2048}, {100, 512}, {10, 128}, {4, 32}} {
		share := new(big.Int).Div(big.NewInt(mostProb), big.NewInt(step.part))
		if big.NewInt(prob).Cmp(share) < 0 {
			return big.NewInt(step.divisor)
		}
	}
	return big.NewInt(1)
}

// addedByBig rounds what is below 0 as what is above it, and turns it round
// behind that.
func addedByBig(s impl.Steer, delay int64) *big.Int {
	aboveTarget := new(big.Int).Sub(big.NewInt(delay), big.NewInt(s.Target))
	aboveOld := new(big.Int).Sub(big.NewInt(delay), big.NewInt(s.Old))
	sum := aboveTarget.Mul(aboveTarget, big.NewInt(2))
	sum.Add(sum, aboveOld.Mul(aboveOld, big.NewInt(20)))
	under := sum.Sign() < 0
	sum.Abs(sum).Div(sum, divisorByBig(s.Prob))
	if under {
		sum.Neg(sum)
	}
	return sum
}

// stirredByBig relies on a right steer and a right delay.
func stirredByBig(s impl.Steer, delay int64) impl.Steer {
	prob := new(big.Int).Add(big.NewInt(s.Prob), addedByBig(s, delay))
	if prob.Sign() < 0 {
		prob.SetInt64(0)
	}
	if one := big.NewInt(mostProb); prob.Cmp(one) > 0 {
		prob = one
	}
	if delay == 0 && s.Old == 0 {
		prob.Sub(prob, new(big.Int).Div(prob, big.NewInt(64)))
	}
	return steer(s.Target, delay, prob.Int64())
}

func stirredIs(t *testing.T, s impl.Steer, delay int64, want impl.Steer) {
	t.Helper()
	if got := impl.Stirred(s, delay); got != want {
		t.Fatalf("Stirred(%+v, %d) = %+v, want %+v", s, delay, got, want)
	}
}

func hitIs(t *testing.T, s impl.Steer, draw int64, want bool) {
	t.Helper()
	if got := impl.Hit(s, draw); got != want {
		t.Fatalf("Hit(%+v, %d) = %v, want %v", s, draw, got, want)
	}
}

func settledIs(t *testing.T, s impl.Steer, delay, n int64, want impl.Steer) {
	t.Helper()
	if got := impl.Settled(s, delay, n); got != want {
		t.Fatalf("Settled(%+v, %d, %d) = %+v, want %+v", s, delay, n, got, want)
	}
}

func TestOneOfSteers(t *testing.T) {
	if impl.One != mostProb {
		t.Fatal(impl.One)
	}
}

func TestSteerOk(t *testing.T) {
	for _, s := range rightSteers() {
		if !impl.SteerOk(s) {
			t.Fatalf("%+v is right", s)
		}
	}
	for _, s := range wrongSteers() {
		if impl.SteerOk(s) {
			t.Fatalf("%+v is wrong", s)
		}
	}
}

func TestSteerOkAtEachNumber(t *testing.T) {
	for _, field := range steerFields() {
		for _, edge := range []int64{field.least, field.greatest} {
			for n := edge - 300; n <= edge+300; n++ {
				s := steer(20, 30, 40)
				*field.of(&s) = n
				if got := impl.SteerOk(s); got != within(n, field.least, field.greatest) {
					t.Fatalf("SteerOk(%+v) = %v", s, got)
				}
			}
		}
	}
}

func TestStirredByHand(t *testing.T) {
	for _, c := range []struct {
		s     impl.Steer
		delay int64
		prob  int64
	}{
		// 2 times 100 and 20 times 120, whole.
		{steer(20, 0, 300000), 120, 302600},
		{steer(20, 120, 302600), 120, 302800},
		{steer(20, 120, 302800), 20, 300800},
		{steer(20, 20, 300800), 20, 300800},
		{steer(20, 20, 300800), 10, 300580},
		{steer(20, 20, 300800), 0, 300360},
		// Just below and just at where the divisor changes: 2*80 + 20*100 is 2160.
		{steer(20, 0, 0), 100, 1},
		{steer(20, 0, 1047), 100, 1048},
		{steer(20, 0, 1048), 100, 1052},
		{steer(20, 0, 10484), 100, 10488},
		{steer(20, 0, 10485), 100, 10501},
		{steer(20, 0, 104856), 100, 104872},
		{steer(20, 0, 104857), 100, 104924},
		{steer(20, 0, 262143), 100, 262210},
		{steer(20, 0, 262144), 100, 264304},
		// The greatest sum: 2*99999 + 20*100000 is 2199998.
		{steer(1, 0, 0), mostDelay, 1074},
		{steer(1, 0, 1047), mostDelay, 2121},
		{steer(1, 0, 1048), mostDelay, 1048 + 4296},
		{steer(1, 0, 10485), mostDelay, 10485 + 17187},
		{steer(1, 0, 104857), mostDelay, 104857 + 68749},
		{steer(1, 0, 262144), mostDelay, mostProb},
		{steer(1, 0, mostProb), mostDelay, mostProb},
		// Sums below 0 are rounded to nought: 2*1000 and 20*100000 is 2002000.
		{steer(1000, mostDelay, 1047), 0, 1047 - 977},
		{steer(1000, mostDelay, 1048), 0, 0},
		{steer(1000, mostDelay, 10484), 0, 10484 - 3910},
		{steer(1000, mostDelay, 10485), 0, 0},
		{steer(1000, mostDelay, 104856), 0, 104856 - 15640},
		{steer(1000, mostDelay, 104857), 0, 104857 - 62562},
		{steer(1000, mostDelay, 262143), 0, 262143 - 62562},
		{steer(1000, mostDelay, 262144), 0, 0},
		{steer(20, 21, 1047), 20, 1047},
		{steer(20, 21, 1048), 20, 1048},
		{steer(20, 21, 10485), 20, 10485},
		{steer(20, 21, 104857), 20, 104857},
		{steer(20, 22, 104857), 20, 104856},
		{steer(20, 21, 262144), 20, 262124},
		{steer(20, 122, 1047), 20, 1047},
		{steer(20, 123, 1047), 20, 1046},
		// A Prob that would come below 0, and one just not.
		{steer(1, 15000, 300001), 0, 0},
		{steer(1, 15000, 300002), 0, 0},
		{steer(1, 15000, 300003), 0, 1},
		{steer(1000, mostDelay, 976), 0, 0},
		{steer(1000, mostDelay, 977), 0, 0},
		{steer(1000, mostDelay, 978), 0, 1},
		{steer(1000, mostDelay, 0), 0, 0},
		{steer(1000, mostDelay, mostProb), 0, 0},
		// A Prob that would come above One, and one just not.
		{steer(20, 20, mostProb-23), 21, mostProb - 1},
		{steer(20, 20, mostProb-22), 21, mostProb},
		{steer(20, 20, mostProb-21), 21, mostProb},
		{steer(20, 20, mostProb-1), 21, mostProb},
		{steer(20, 20, mostProb), 21, mostProb},
		// A delay of 0 behind one of 0, and behind one of 1.
		{steer(20, 0, 500), 0, 493},
		{steer(20, 1, 500), 0, 500},
		{steer(20, 0, 0), 0, 0},
		{steer(20, 0, 1), 0, 1},
		{steer(20, 0, 63), 0, 63},
		{steer(20, 0, 64), 0, 63},
		{steer(20, 0, 127), 0, 126},
		{steer(20, 0, 128), 0, 126},
		{steer(20, 1, 128), 0, 128},
		{steer(20, 0, 128), 1, 128},
		{steer(1000, 0, 1048), 0, 1045 - 16},
		{steer(1000, 1, 1048), 0, 1045},
		{steer(1000, 0, mostProb), 0, 1046576 - 16352},
		{steer(1000, 1, mostProb), 0, 1046576 - 20},
		{steer(1, 0, mostProb), 0, 1048574 - 16383},
	} {
		stirredIs(t, c.s, c.delay, steer(c.s.Target, c.delay, c.prob))
	}
}

func TestStirredOfWrongOnesByHand(t *testing.T) {
	for _, c := range []struct {
		s     impl.Steer
		delay int64
		want  impl.Steer
	}{
		{steer(20, 30, 300000), -1, steer(20, 30, 300000)},
		{steer(20, 30, 300000), mostDelay + 1, steer(20, 30, 300000)},
		{steer(20, 0, 300000), math.MinInt64, steer(20, 0, 300000)},
		{steer(20, 0, 300000), math.MaxInt64, steer(20, 0, 300000)},
		{steer(0, 30, 300000), 30, impl.Steer{}},
		{steer(1001, 30, 300000), 30, impl.Steer{}},
		{steer(20, -1, 300000), 30, impl.Steer{}},
		{steer(20, mostDelay+1, 300000), 30, impl.Steer{}},
		{steer(20, 30, -1), 30, impl.Steer{}},
		{steer(20, 30, mostProb+1), 30, impl.Steer{}},
		{steer(20, 30, mostProb+1), -1, impl.Steer{}},
		{impl.Steer{}, 0, impl.Steer{}},
	} {
		stirredIs(t, c.s, c.delay, c.want)
		settledIs(t, c.s, c.delay, 1, c.want)
	}
}

func TestStirredByBig(t *testing.T) {
	for _, s := range rightSteers() {
		for _, delay := range delaysAround(s) {
			stirredIs(t, s, delay, stirredByBig(s, delay))
		}
	}
}

func TestStirredAtEachProb(t *testing.T) {
	edges := append([]int64{0, mostProb}, stepsOfProb...)
	for _, edge := range edges {
		for prob := max(edge-300, 0); prob <= min(edge+300, mostProb); prob++ {
			for _, delay := range []int64{0, 20, 21, 120, mostDelay} {
				for _, old := range []int64{0, 1, 20, 150} {
					s := steer(20, old, prob)
					stirredIs(t, s, delay, stirredByBig(s, delay))
				}
			}
		}
	}
}

// Each of many sums, above 0 and below it, over each divisor: a step is one
// more divisor that goes in whole.
func TestStirredByCounting(t *testing.T) {
	for _, c := range []struct{ prob, divisor int64 }{
		{1000, 2048}, {1048, 512}, {10000, 512}, {10485, 128}, {100000, 128}, {104857, 32}, {200000, 32}, {262144, 1}, {500000, 1},
	} {
		for above := int64(-900); above <= 900; above++ {
			for ahead := int64(-12); ahead <= 12; ahead++ {
				s := steer(1000, 1000+above-ahead, c.prob)
				sum, steps := 2*above+20*ahead, int64(0)
				for left := sum; left >= c.divisor; left -= c.divisor {
					steps++
				}
				for left := sum; left <= -c.divisor; left += c.divisor {
					steps--
				}
				stirredIs(t, s, 1000+above, steer(1000, 1000+above, c.prob+steps))
			}
		}
	}
}

func TestStirredDrawn(t *testing.T) {
	d := &drawer{state: 10}
	for range 300 {
		s := steer(1+d.below(mostTarget), d.below(mostDelay+1), d.below(mostProb+1))
		for range 300 {
			// Small delays by far the most, so that Prob moves in all its range.
			delay := []int64{0, d.below(40), d.below(2 * mostTarget), d.below(mostDelay + 1)}[d.below(4)]
			want := stirredByBig(s, delay)
			stirredIs(t, s, delay, want)
			if !impl.SteerOk(want) {
				t.Fatalf("Stirred(%+v, %d) = %+v, which is wrong", s, delay, want)
			}
			s = want
		}
	}
}

// goesUp holds Stirred of a delay above Target, where Old was not above it,
// against the promise.
func goesUp(t *testing.T, s impl.Steer, delay int64) {
	t.Helper()
	got := impl.Stirred(s, delay)
	if got.Prob < s.Prob || !within(got.Prob, 0, mostProb) {
		t.Fatalf("Stirred(%+v, %d) = %+v, which goes down", s, delay, got)
	}
	if addedByBig(s, delay).Sign() > 0 && s.Prob < mostProb && got.Prob == s.Prob {
		t.Fatalf("Stirred(%+v, %d) = %+v, which does not go up", s, delay, got)
	}
}

func TestProbGoesUp(t *testing.T) {
	for _, target := range []int64{1, 2, 20, 500, mostTarget} {
		for _, old := range []int64{0, 1, target / 2, target - 1, target} {
			for _, prob := range someProbs() {
				s := steer(target, min(old, target), prob)
				for _, more := range []int64{1, 2, 5, 6, 23, 24, 93, 94, 1000, mostDelay - target} {
					goesUp(t, s, target+more)
				}
			}
		}
	}
}

// The least delay above Target, behind one just at it, that is enough for each
// divisor: each tick is 22.
func TestProbGoesUpFromWhere(t *testing.T) {
	for _, c := range []struct{ least, greatest, ticks int64 }{
		{0, 1047, 94}, {1048, 10484, 24}, {10485, 104856, 6}, {104857, 262143, 2}, {262144, mostProb - 22, 1},
	} {
		for _, prob := range []int64{c.least, c.least + 1, (c.least + c.greatest) / 2, c.greatest - 1, c.greatest} {
			for _, target := range []int64{1, 20, mostTarget} {
				s := steer(target, target, prob)
				below, at := impl.Stirred(s, target+c.ticks-1), impl.Stirred(s, target+c.ticks)
				if below.Prob != prob || at.Prob <= prob {
					t.Fatalf("%+v becomes %+v, then %+v", s, below, at)
				}
			}
		}
	}
}

// Every one of the first steps of many steers, in any order of delays.
func TestProbStaysInRange(t *testing.T) {
	var walk func(s impl.Steer, steps int)
	walk = func(s impl.Steer, steps int) {
		if !impl.SteerOk(s) || !within(s.Prob, 0, mostProb) {
			t.Fatalf("%+v is wrong", s)
		}
		if steps == 0 {
			return
		}
		for _, delay := range []int64{0, 1, s.Target, s.Target + 1, 20000, mostDelay} {
			next := impl.Stirred(s, delay)
			if next.Old != delay || next.Target != s.Target {
				t.Fatalf("Stirred(%+v, %d) = %+v", s, delay, next)
			}
			if s.Old <= s.Target && delay > s.Target {
				goesUp(t, s, delay)
			}
			walk(next, steps-1)
		}
	}
	for _, target := range []int64{1, 20, mostTarget} {
		for _, old := range []int64{0, target, mostDelay} {
			for _, prob := range []int64{0, 1047, 262143, 262144, mostProb} {
				walk(steer(target, old, prob), 4)
			}
		}
	}
}

func TestHitByHand(t *testing.T) {
	for _, c := range []struct {
		s    impl.Steer
		draw int64
		want bool
	}{
		{steer(20, 0, 302600), 0, true},
		{steer(20, 0, 302600), 302599, true},
		{steer(20, 0, 302600), 302600, false},
		{steer(20, 0, 302600), mostProb - 1, false},
		{steer(20, 0, 0), 0, false},
		{steer(20, 0, 0), mostProb - 1, false},
		{steer(20, 0, 1), 0, true},
		{steer(20, 0, 1), 1, false},
		{steer(20, 0, mostProb), 0, true},
		{steer(20, 0, mostProb), mostProb - 1, true},
		{steer(20, 0, mostProb-1), mostProb - 2, true},
		{steer(20, 0, mostProb-1), mostProb - 1, false},
		// No draw, and a wrong steer.
		{steer(20, 0, mostProb), -1, false},
		{steer(20, 0, mostProb), mostProb, false},
		{steer(20, 0, mostProb), math.MinInt64, false},
		{steer(20, 0, mostProb), math.MaxInt64, false},
		{steer(20, 0, mostProb+1), 0, false},
		{steer(20, 0, math.MaxInt64), 0, false},
		{steer(20, 0, -1), -2, false},
		{steer(0, 0, 302600), 0, false},
		{steer(1001, 0, 302600), 0, false},
		{steer(20, -1, 302600), 0, false},
		{steer(20, mostDelay+1, 302600), 0, false},
		{impl.Steer{}, 0, false},
	} {
		hitIs(t, c.s, c.draw, c.want)
	}
}

func TestHitAroundProb(t *testing.T) {
	for _, s := range rightSteers() {
		for _, draw := range []int64{0, 1, s.Prob - 2, s.Prob - 1, s.Prob, s.Prob + 1, mostProb - 2, mostProb - 1, mostProb} {
			hitIs(t, s, draw, within(draw, 0, mostProb-1) && draw < s.Prob)
		}
		for _, draw := range wrongAround(0, mostProb-1) {
			hitIs(t, s, draw, false)
		}
	}
}

// Of all draws just as many hit as Prob is great.
func TestHitsAreAsManyAsProb(t *testing.T) {
	for _, prob := range someProbs() {
		s, hits := steer(20, 30, prob), int64(0)
		for draw := int64(-5); draw < mostProb+5; draw++ {
			if impl.Hit(s, draw) {
				hits++
			}
		}
		if hits != prob {
			t.Fatalf("%d draws hit %+v", hits, s)
		}
	}
}

func TestSettledByHand(t *testing.T) {
	for _, c := range []struct {
		s        impl.Steer
		delay, n int64
		want     impl.Steer
	}{
		{steer(20, 120, 302600), 120, 0, steer(20, 120, 302600)},
		{steer(20, 120, 302600), 120, 1, steer(20, 120, 302800)},
		{steer(20, 120, 302600), 120, 2, steer(20, 120, 303000)},
		{steer(20, 120, 302600), 120, 1000, steer(20, 120, 502600)},
		{steer(20, 0, 302600), 120, 1000, steer(20, 120, 302600+2400+200000)},
		{steer(20, 0, 302600), 120, 0, steer(20, 0, 302600)},
		{steer(20, 20, 302600), 20, 1000, steer(20, 20, 302600)},
		{steer(20, 0, 500), 0, 1, steer(20, 0, 493)},
		{steer(20, 0, 500), 0, 2, steer(20, 0, 486)},
		{steer(20, 0, 500), 0, 1000, steer(20, 0, 63)},
		{steer(20, 0, 0), 0, 1000, steer(20, 0, 0)},
		{steer(1, 0, 0), mostDelay, 1000, steer(1, mostDelay, mostProb)},
		{steer(20, 30, 500), 0, 0, steer(20, 30, 500)},
		// n, or delay, that is wrong: as it is.
		{steer(20, 30, 302600), 120, -1, steer(20, 30, 302600)},
		{steer(20, 30, 302600), 120, mostStirs + 1, steer(20, 30, 302600)},
		{steer(20, 30, 302600), 120, math.MinInt64, steer(20, 30, 302600)},
		{steer(20, 30, 302600), 120, math.MaxInt64, steer(20, 30, 302600)},
		{steer(20, 30, 302600), -1, 1000, steer(20, 30, 302600)},
		{steer(20, 30, 302600), mostDelay + 1, 1, steer(20, 30, 302600)},
		{steer(20, 30, 302600), mostDelay + 1, 0, steer(20, 30, 302600)},
		{steer(20, 30, 302600), -1, -1, steer(20, 30, 302600)},
		// A wrong steer, whatever else.
		{steer(0, 30, 302600), 120, 0, impl.Steer{}},
		{steer(0, 30, 302600), 120, 1, impl.Steer{}},
		{steer(20, -1, 302600), 120, 1000, impl.Steer{}},
		{steer(20, 30, mostProb+1), 120, -1, impl.Steer{}},
		{steer(20, 30, -1), 120, mostStirs + 1, impl.Steer{}},
		{steer(20, 30, -1), -1, 0, impl.Steer{}},
		{impl.Steer{}, 0, 0, impl.Steer{}},
	} {
		settledIs(t, c.s, c.delay, c.n, c.want)
	}
}

func TestSettledOneByOne(t *testing.T) {
	for _, s := range []impl.Steer{
		steer(20, 0, 300000), steer(20, 0, 0), steer(20, 150, 1047), steer(1, mostDelay, mostProb),
		steer(mostTarget, mostDelay, mostProb), steer(mostTarget, 0, 262144), steer(1, 0, 104857),
	} {
		for _, delay := range []int64{0, 1, 20, 21, 120, mostTarget + 1, mostDelay} {
			byOnes := s
			for n := range int64(mostStirs + 1) {
				settledIs(t, s, delay, n, byOnes)
				byOnes = stirredByBig(byOnes, delay)
			}
			settledIs(t, s, delay, mostStirs+1, s)
		}
	}
}

func TestSettledOfAllSteers(t *testing.T) {
	for _, s := range rightSteers() {
		for _, delay := range []int64{0, 1, s.Target, s.Target + 1, s.Old, mostDelay} {
			byOnes := s
			for n := range int64(5) {
				settledIs(t, s, delay, n, byOnes)
				byOnes = impl.Stirred(byOnes, delay)
			}
		}
	}
}

// Settled and settled again is settled as often as both.
func TestSettledInTwo(t *testing.T) {
	for _, s := range []impl.Steer{steer(20, 0, 300000), steer(1, 500, mostProb), steer(mostTarget, mostDelay, 5000)} {
		for _, delay := range []int64{0, 25, 800, mostDelay} {
			for _, n := range []int64{0, 1, 2, 499, 999, 1000} {
				settledIs(t, impl.Settled(s, delay, n), delay, mostStirs-n, impl.Settled(s, delay, mostStirs))
			}
		}
	}
}

func TestSteersOfWrongDelays(t *testing.T) {
	for _, s := range rightSteers() {
		for _, delay := range wrongDelays() {
			stirredIs(t, s, delay, s)
			for _, n := range []int64{0, 1, 5, -1, mostStirs + 1} {
				settledIs(t, s, delay, n, s)
			}
		}
	}
}

func TestSettledOfWrongN(t *testing.T) {
	for _, s := range rightSteers() {
		for _, n := range wrongAround(0, mostStirs) {
			for _, delay := range []int64{0, 21, mostDelay, -1, mostDelay + 1} {
				settledIs(t, s, delay, n, s)
			}
		}
	}
}

func TestWrongSteers(t *testing.T) {
	for _, s := range wrongSteers() {
		for _, delay := range append(wrongDelays(), 0, 1, 20, 30, mostDelay, s.Old, s.Target) {
			stirredIs(t, s, delay, impl.Steer{})
			for _, n := range append(wrongAround(0, mostStirs), 0, 1, 2, mostStirs) {
				settledIs(t, s, delay, n, impl.Steer{})
			}
		}
		for _, draw := range append(wrongAround(0, mostProb-1), 0, 1, 299999, mostProb-1, s.Prob, s.Prob-1) {
			hitIs(t, s, draw, false)
		}
	}
}

func TestSteerArgumentsStay(t *testing.T) {
	for _, s := range slices.Concat(rightSteers(), wrongSteers()) {
		for _, delay := range []int64{-1, 0, 21, mostDelay} {
			asked, kept, n, draw := s, delay, int64(3), int64(5000)
			ok, hit := impl.SteerOk(asked), impl.Hit(asked, draw)
			stirred, settled := impl.Stirred(asked, delay), impl.Settled(asked, delay, n)
			if asked != s || delay != kept || n != 3 || draw != 5000 {
				t.Fatalf("%+v has become %+v", s, asked)
			}
			// Nothing is kept from call to call either.
			if impl.SteerOk(s) != ok {
				t.Fatalf("SteerOk(%+v) was %v ahead", s, ok)
			}
			hitIs(t, s, draw, hit)
			stirredIs(t, s, delay, stirred)
			settledIs(t, s, delay, n, settled)
		}
	}
}
