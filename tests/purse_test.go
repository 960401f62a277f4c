package tests

import (
	"math"
	"math/big"
	"slices"
	"testing"

	"loop.example/g00316/impl"
)

const (
	mostRate  = 1000
	mostGap   = 1000
	mostSlack = 10000
)

func purse(rate, burst, level, at int64) impl.Purse {
	return impl.Purse{Rate: rate, Burst: burst, Level: level, At: at}
}

func pace(gap, slack, next, fill, last int64) impl.Pace {
	return impl.Pace{Gap: gap, Slack: slack, Next: next, Fill: fill, Last: last}
}

// rightPurses have each number at its edges, near them, and between.
func rightPurses() []impl.Purse {
	var list []impl.Purse
	for _, rate := range []int64{0, 1, 2, 7, mostRate - 1, mostRate} {
		for _, burst := range []int64{1, 2, 10, 1000, mostSize - 1, mostSize} {
			levels := []int64{0, 1, burst / 2, burst - 1, burst}
			slices.Sort(levels)
			for _, level := range slices.Compact(levels) {
				for _, at := range []int64{0, 1, 5000, mostTime - 101, mostTime - 1, mostTime} {
					list = append(list, purse(rate, burst, level, at))
				}
			}
		}
	}
	return list
}

// wrongPurses have one number that is wrong, and some have all.
func wrongPurses() []impl.Purse {
	list := []impl.Purse{{}, purse(-1, -1, -1, -1), purse(mostRate+1, mostSize+1, mostSize+2, mostTime+1), purse(0, 0, 0, 0), purse(1, -1, -1, 0)}
	for _, n := range wrongAround(0, mostRate) {
		list = append(list, purse(n, 10, 2, 4), purse(n, 1, 0, 0), purse(n, mostSize, mostSize, mostTime))
	}
	for _, n := range wrongAround(1, mostSize) {
		list = append(list, purse(3, n, 0, 4), purse(0, n, 0, 0), purse(mostRate, n, 1, mostTime), purse(3, n, n, 4))
	}
	for _, burst := range []int64{1, 10, mostSize - 1, mostSize} {
		for _, n := range wrongAround(0, burst) {
			list = append(list, purse(3, burst, n, 4), purse(0, burst, n, 0), purse(mostRate, burst, n, mostTime))
		}
	}
	for _, n := range wrongAround(0, mostTime) {
		list = append(list, purse(3, 10, 2, n), purse(0, 1, 0, n), purse(mostRate, mostSize, mostSize, n))
	}
	return list
}

// wrongTimes are no times, as now.
func wrongTimes() []int64 { return wrongAround(0, mostTime) }

// timesFrom are right times from one on: itself, near ones, and the last.
func timesFrom(at int64) []int64 {
	var list []int64
	for _, ticks := range []int64{0, 1, 2, 9, 10, 11, 99, 100, 101, 1000, mostSize - 1, mostSize, mostSize + 1, 1 << 31, 1<<32 + 1, mostTime - 1, mostTime} {
		if at+ticks <= mostTime {
			list = append(list, at+ticks)
		}
	}
	return append(list, mostTime)
}

// filledByBig relies on a right purse and a right now.
func filledByBig(p impl.Purse, now int64) impl.Purse {
	level := new(big.Int).Sub(big.NewInt(now), big.NewInt(p.At))
	level.Mul(level, big.NewInt(p.Rate)).Add(level, big.NewInt(p.Level))
	if level.Cmp(big.NewInt(p.Burst)) > 0 {
		level.SetInt64(p.Burst)
	}
	return purse(p.Rate, p.Burst, level.Int64(), now)
}

// purseByOnes is a purse into which one after another goes, and out again.
type purseByOnes struct {
	rate, burst, level, at int64
}

func (p *purseByOnes) tick() {
	p.at++
	for range p.rate {
		if p.level < p.burst {
			p.level++
		}
	}
}

// spend takes one by one, and puts all back where there were not so many.
func (p *purseByOnes) spend(n int64) bool {
	taken := int64(0)
	for taken < n && p.level > 0 {
		p.level--
		taken++
	}
	if taken < n {
		p.level += taken
		return false
	}
	return true
}

func onesOf(p impl.Purse) *purseByOnes { return &purseByOnes{p.Rate, p.Burst, p.Level, p.At} }

func (p *purseByOnes) purse() impl.Purse { return purse(p.rate, p.burst, p.level, p.at) }

func filledIs(t *testing.T, p impl.Purse, now int64, want impl.Purse) {
	t.Helper()
	if got := impl.Filled(p, now); got != want {
		t.Fatalf("Filled(%+v, %d) = %+v, want %+v", p, now, got, want)
	}
}

func spentIs(t *testing.T, p impl.Purse, now, n int64, want impl.Purse, wantDone bool) {
	t.Helper()
	if got, done := impl.Spent(p, now, n); got != want || done != wantDone {
		t.Fatalf("Spent(%+v, %d, %d) = %+v, %v, want %+v, %v", p, now, n, got, done, want, wantDone)
	}
}

func whenIs(t *testing.T, p impl.Purse, n, want int64) {
	t.Helper()
	if got := impl.When(p, n); got != want {
		t.Fatalf("When(%+v, %d) = %d, want %d", p, n, got, want)
	}
}

func earlyIs(t *testing.T, p impl.Pace, now int64, want impl.Pace, wantDone bool) {
	t.Helper()
	if got, done := impl.Early(p, now); got != want || done != wantDone {
		t.Fatalf("Early(%+v, %d) = %+v, %v, want %+v, %v", p, now, got, done, want, wantDone)
	}
}

func leakyIs(t *testing.T, p impl.Pace, now int64, want impl.Pace, wantDone bool) {
	t.Helper()
	if got, done := impl.Leaky(p, now); got != want || done != wantDone {
		t.Fatalf("Leaky(%+v, %d) = %+v, %v, want %+v, %v", p, now, got, done, want, wantDone)
	}
}

func TestPurseOk(t *testing.T) {
	for _, p := range rightPurses() {
		if !impl.PurseOk(p) {
			t.Fatalf("%+v is right", p)
		}
	}
	for _, p := range wrongPurses() {
		if impl.PurseOk(p) {
			t.Fatalf("%+v is wrong", p)
		}
	}
}

func TestPurseOkAtEachNumber(t *testing.T) {
	for k := int64(-300); k <= 300; k++ {
		for _, c := range []struct {
			p     impl.Purse
			right bool
		}{
			{purse(k, 10, 2, 4), k >= 0},
			{purse(mostRate+k, 10, 2, 4), k <= 0},
			{purse(3, k, 0, 4), k >= 1},
			{purse(3, mostSize+k, 2, 4), k <= 0},
			{purse(3, 500, k, 4), k >= 0},
			{purse(3, 500, 500+k, 4), k <= 0},
			{purse(3, mostSize, mostSize+k, 4), k <= 0},
			{purse(3, 400+k, 400, 4), k >= 0},
			{purse(3, 10, 2, k), k >= 0},
			{purse(3, 10, 2, mostTime+k), k <= 0},
		} {
			if got := impl.PurseOk(c.p); got != c.right {
				t.Fatalf("PurseOk(%+v) = %v", c.p, got)
			}
		}
	}
}

func TestFilledByHand(t *testing.T) {
	for _, c := range []struct {
		p    impl.Purse
		now  int64
		want impl.Purse
	}{
		{purse(3, 10, 2, 4), 4, purse(3, 10, 2, 4)},
		{purse(3, 10, 2, 4), 5, purse(3, 10, 5, 5)},
		{purse(3, 10, 2, 4), 6, purse(3, 10, 8, 6)},
		{purse(3, 10, 2, 4), 7, purse(3, 10, 10, 7)},
		{purse(3, 11, 2, 4), 7, purse(3, 11, 11, 7)},
		{purse(3, 12, 2, 4), 7, purse(3, 12, 11, 7)},
		{purse(3, 10, 2, 4), 99, purse(3, 10, 10, 99)},
		{purse(3, 10, 2, 4), mostTime, purse(3, 10, 10, mostTime)},
		{purse(0, 10, 2, 4), mostTime, purse(0, 10, 2, mostTime)},
		{purse(0, 10, 0, 0), 7, purse(0, 10, 0, 7)},
		{purse(1, mostSize, 0, 0), mostSize - 1, purse(1, mostSize, mostSize-1, mostSize-1)},
		{purse(1, mostSize, 0, 0), mostSize, purse(1, mostSize, mostSize, mostSize)},
		{purse(1, mostSize, 0, 0), mostSize + 1, purse(1, mostSize, mostSize, mostSize+1)},
		{purse(mostRate, mostSize, 0, 0), 99, purse(mostRate, mostSize, 99000, 99)},
		{purse(mostRate, mostSize, 0, 0), 100, purse(mostRate, mostSize, mostSize, 100)},
		{purse(mostRate, mostSize, 1, 0), 100, purse(mostRate, mostSize, mostSize, 100)},
		{purse(mostRate, mostSize, 0, 0), mostTime, purse(mostRate, mostSize, mostSize, mostTime)},
		{purse(mostRate, 1, 0, 0), 1, purse(mostRate, 1, 1, 1)},
		{purse(1, 5, 2, mostTime-1), mostTime, purse(1, 5, 3, mostTime)},
		{purse(1, 5, 2, mostTime), mostTime, purse(1, 5, 2, mostTime)},
		{purse(3, 10, 10, 4), 5, purse(3, 10, 10, 5)},
		// Below At, or no time.
		{purse(3, 10, 2, 4), 3, purse(3, 10, 2, 4)},
		{purse(3, 10, 2, 4), 0, purse(3, 10, 2, 4)},
		{purse(3, 10, 2, 4), -1, purse(3, 10, 2, 4)},
		{purse(3, 10, 2, 0), -1, purse(3, 10, 2, 0)},
		{purse(3, 10, 2, 4), mostTime + 1, purse(3, 10, 2, 4)},
		{purse(3, 10, 2, mostTime), mostTime + 1, purse(3, 10, 2, mostTime)},
		{purse(3, 10, 2, mostTime), mostTime - 1, purse(3, 10, 2, mostTime)},
		{purse(3, 10, 2, 4), math.MaxInt64, purse(3, 10, 2, 4)},
		{purse(3, 10, 2, 4), math.MinInt64, purse(3, 10, 2, 4)},
		{purse(3, 10, 11, 4), 5, impl.Purse{}},
		{purse(-1, 10, 2, 4), 5, impl.Purse{}},
		{purse(3, 0, 0, 4), 3, impl.Purse{}},
		{purse(3, 10, 2, -1), -1, impl.Purse{}},
		{impl.Purse{}, 0, impl.Purse{}},
	} {
		filledIs(t, c.p, c.now, c.want)
	}
}

func TestFilledByBig(t *testing.T) {
	for _, p := range rightPurses() {
		for _, now := range timesFrom(p.At) {
			filledIs(t, p, now, filledByBig(p, now))
		}
	}
}

// Tick by tick is the same as at once, and as what goes in one by one.
func TestFilledTickByTick(t *testing.T) {
	for _, p := range rightPurses() {
		byTicks, byOnes := p, onesOf(p)
		for now := p.At; now <= min(p.At+120, mostTime); now++ {
			if now > p.At {
				byTicks = impl.Filled(byTicks, now)
				byOnes.tick()
			}
			filledIs(t, p, now, byTicks)
			filledIs(t, p, now, byOnes.purse())
		}
	}
}

// Whatever time is looked at between, it is the same at the end.
func TestFilledInTwo(t *testing.T) {
	for _, p := range rightPurses() {
		for _, now := range timesFrom(p.At) {
			first := impl.Filled(p, now)
			if !impl.PurseOk(first) {
				t.Fatalf("Filled(%+v, %d) = %+v, which is wrong", p, now, first)
			}
			for _, later := range timesFrom(now) {
				filledIs(t, first, later, impl.Filled(p, later))
			}
		}
	}
}

func TestSpentByHand(t *testing.T) {
	for _, c := range []struct {
		p      impl.Purse
		now, n int64
		want   impl.Purse
		done   bool
	}{
		{purse(3, 10, 2, 4), 4, 0, purse(3, 10, 2, 4), true},
		{purse(3, 10, 2, 4), 4, 2, purse(3, 10, 0, 4), true},
		{purse(3, 10, 2, 4), 4, 3, purse(3, 10, 2, 4), false},
		{purse(3, 10, 2, 4), 6, 5, purse(3, 10, 3, 6), true},
		{purse(3, 10, 2, 4), 6, 8, purse(3, 10, 0, 6), true},
		{purse(3, 10, 2, 4), 6, 9, purse(3, 10, 8, 6), false},
		{purse(3, 10, 2, 4), 6, 0, purse(3, 10, 8, 6), true},
		{purse(3, 10, 2, 4), 99, 10, purse(3, 10, 0, 99), true},
		{purse(3, 10, 2, 4), 99, 11, purse(3, 10, 10, 99), false},
		{purse(3, 10, 2, 4), 99, math.MaxInt64, purse(3, 10, 10, 99), false},
		{purse(3, 10, 2, 4), mostTime, 10, purse(3, 10, 0, mostTime), true},
		{purse(0, 10, 2, 4), mostTime, 2, purse(0, 10, 0, mostTime), true},
		{purse(0, 10, 2, 4), mostTime, 3, purse(0, 10, 2, mostTime), false},
		{purse(mostRate, mostSize, 0, 0), 100, mostSize, purse(mostRate, mostSize, 0, 100), true},
		{purse(mostRate, mostSize, 0, 0), 99, mostSize, purse(mostRate, mostSize, 99000, 99), false},
		{purse(0, 1, 0, 0), 0, 0, purse(0, 1, 0, 0), true},
		{purse(0, 1, 0, 0), 0, 1, purse(0, 1, 0, 0), false},
		{purse(0, 1, 1, 0), 0, 1, purse(0, 1, 0, 0), true},
		{purse(0, 1, 1, 0), 0, 2, purse(0, 1, 1, 0), false},
		// n that is not from 0 on.
		{purse(3, 10, 2, 4), 4, -1, purse(3, 10, 2, 4), false},
		{purse(3, 10, 2, 4), 6, -1, purse(3, 10, 8, 6), false},
		{purse(3, 10, 2, 4), 6, math.MinInt64, purse(3, 10, 8, 6), false},
		// Below At, or no time.
		{purse(3, 10, 2, 4), 3, 1, purse(3, 10, 2, 4), false},
		{purse(3, 10, 2, 4), 3, 0, purse(3, 10, 2, 4), false},
		{purse(3, 10, 2, 4), -1, 1, purse(3, 10, 2, 4), false},
		{purse(3, 10, 2, 4), mostTime + 1, 1, purse(3, 10, 2, 4), false},
		{purse(3, 10, 2, 4), mostTime + 1, -1, purse(3, 10, 2, 4), false},
		{purse(3, 10, 11, 4), 5, 1, impl.Purse{}, false},
		{purse(3, 10, 11, 4), 5, 0, impl.Purse{}, false},
		{purse(3, 0, 0, 4), 5, 0, impl.Purse{}, false},
		{impl.Purse{}, 0, 0, impl.Purse{}, false},
	} {
		spentIs(t, c.p, c.now, c.n, c.want, c.done)
	}
}

// At each of many times: 0, all there is, one more, Burst, one more, and wrong
// ones.
func TestSpentAtTheLevel(t *testing.T) {
	for _, p := range rightPurses() {
		for _, now := range timesFrom(p.At) {
			full := filledByBig(p, now)
			for _, n := range append([]int64{0, 1, full.Level - 1, full.Level, full.Level + 1, p.Burst - 1, p.Burst, p.Burst + 1}, wrongAround(0, mostSize)...) {
				want, done := full, within(n, 0, full.Level)
				if done {
					want.Level -= n
				}
				spentIs(t, p, now, n, want, done)
			}
		}
	}
}

// spentByTurns asks a purse and one that is counted one by one for the same,
// by turns, and holds all that is given against Burst and what comes.
func spentByTurns(t *testing.T, p impl.Purse, steps int, wait, ask func() int64) {
	t.Helper()
	start, given, byOnes := p, int64(0), onesOf(p)
	for range steps {
		for range min(wait(), mostTime-p.At) {
			byOnes.tick()
		}
		n := ask()
		next, done := impl.Spent(p, byOnes.at, n)
		wantDone := byOnes.spend(n)
		if want := byOnes.purse(); next != want || done != wantDone {
			t.Fatalf("Spent(%+v, %d, %d) = %+v, %v, want %+v, %v", p, byOnes.at, n, next, done, want, wantDone)
		}
		if done {
			given += n
		}
		p = next
		ticks := p.At - start.At
		if given > start.Level+start.Rate*ticks || given > start.Burst+start.Rate*ticks || !impl.PurseOk(p) {
			t.Fatalf("%+v gave %d in %d ticks and became %+v", start, given, ticks, p)
		}
	}
}

func TestSpentByTurns(t *testing.T) {
	d := &drawer{state: 9}
	for _, p := range rightPurses() {
		if p.Rate > 10 && p.Burst > 1000 {
			continue
		}
		wait := func() int64 { return d.below(4) * d.below(3) }
		spentByTurns(t, p, 12, wait, func() int64 { return d.below(min(p.Burst, 40) + 2) })
		spentByTurns(t, p, 12, wait, func() int64 { return d.below(p.Rate*3 + 2) })
		spentByTurns(t, p, 12, wait, func() int64 { return 1 })
	}
}

// Who takes all there is, at each tick, has all that comes and no more.
func TestSpentAllThatComes(t *testing.T) {
	for _, p := range rightPurses() {
		given, start := int64(0), p
		for now := p.At; now <= min(start.At+50, mostTime); now++ {
			n := impl.Filled(p, now).Level
			spentIs(t, p, now, n+1, impl.Filled(p, now), false)
			next, done := impl.Spent(p, now, n)
			given += n
			if want := start.Level + min(start.Rate, start.Burst)*(now-start.At); !done || next.Level != 0 || given != want {
				t.Fatalf("%+v gave %d up to %d, want %d", start, given, now, want)
			}
			p = next
		}
	}
}

// Every one of the first steps of all small purses, in any order of waiting
// and asking.
func TestAllStepsOfSmallPurses(t *testing.T) {
	var walk func(p impl.Purse, came, given int64, steps int)
	walk = func(p impl.Purse, came, given int64, steps int) {
		if given > came || !impl.PurseOk(p) {
			t.Fatalf("%+v has given %d of %d", p, given, came)
		}
		if steps == 0 {
			return
		}
		for wait := range int64(3) {
			for n := range p.Burst + 2 {
				byOnes := onesOf(p)
				for range wait {
					byOnes.tick()
				}
				done := byOnes.spend(n)
				spentIs(t, p, p.At+wait, n, byOnes.purse(), done)
				if done {
					walk(byOnes.purse(), came+p.Rate*wait, given+n, steps-1)
				} else {
					walk(byOnes.purse(), came+p.Rate*wait, given, steps-1)
				}
			}
		}
	}
	for rate := range int64(3) {
		for burst := int64(1); burst <= 3; burst++ {
			for level := range burst + 1 {
				walk(purse(rate, burst, level, 5), level, 0, 4)
			}
		}
	}
}

func TestDrawnPurses(t *testing.T) {
	d := &drawer{state: 99}
	for range 300 {
		burst := 1 + d.below(mostSize)
		p := purse(d.below(mostRate+1), burst, d.below(burst+1), d.below(mostTime+1))
		for range 60 {
			now := min(mostTime, p.At+d.below(200))
			n := d.below(burst + burst/8 + 2)
			want, done := filledByBig(p, now), false
			filledIs(t, p, now, want)
			if n <= want.Level {
				want.Level, done = want.Level-n, true
			}
			spentIs(t, p, now, n, want, done)
			whenIs(t, p, n, whenByBig(p, n))
			p = want
		}
	}
}

// whenByBig relies on a right purse and n from 0 on: the ticks that are
// lacking are a quotient that is rounded up.
func whenByBig(p impl.Purse, n int64) int64 {
	if n > p.Burst || n > p.Level && p.Rate == 0 {
		return -1
	}
	ticks := int64(0)
	if n > p.Level {
		whole, rest := new(big.Int).DivMod(big.NewInt(n-p.Level), big.NewInt(p.Rate), new(big.Int))
		ticks = whole.Int64()
		if rest.Sign() > 0 {
			ticks++
		}
	}
	if p.At+ticks > mostTime {
		return -1
	}
	return p.At + ticks
}

func TestWhenByHand(t *testing.T) {
	for _, c := range []struct {
		p       impl.Purse
		n, want int64
	}{
		{purse(3, 10, 2, 4), 0, 4},
		{purse(3, 10, 2, 4), 1, 4},
		{purse(3, 10, 2, 4), 2, 4},
		{purse(3, 10, 2, 4), 3, 5},
		{purse(3, 10, 2, 4), 5, 5},
		{purse(3, 10, 2, 4), 6, 6},
		{purse(3, 10, 2, 4), 8, 6},
		{purse(3, 10, 2, 4), 9, 7},
		{purse(3, 10, 2, 4), 10, 7},
		{purse(3, 10, 2, 4), 11, -1},
		{purse(3, 10, 2, 4), -1, -1},
		{purse(3, 10, 2, 4), math.MinInt64, -1},
		{purse(3, 10, 2, 4), math.MaxInt64, -1},
		{purse(0, 10, 2, 4), 2, 4},
		{purse(0, 10, 2, 4), 3, -1},
		{purse(0, 10, 0, 4), 0, 4},
		{purse(0, 10, 10, 4), 10, 4},
		{purse(0, 10, 10, 4), 11, -1},
		{purse(1, mostSize, 0, 0), mostSize, mostSize},
		{purse(mostRate, mostSize, 0, 0), mostSize, 100},
		{purse(mostRate, mostSize, 0, 0), mostSize - 999, 100},
		{purse(mostRate, mostSize, 0, 0), mostSize - 1000, 99},
		{purse(mostRate, 1, 0, 7), 1, 8},
		// The last time, and one above it.
		{purse(3, 10, 2, mostTime), 2, mostTime},
		{purse(3, 10, 2, mostTime), 3, -1},
		{purse(3, 10, 2, mostTime-1), 5, mostTime},
		{purse(3, 10, 2, mostTime-1), 6, -1},
		{purse(1, mostSize, 0, mostTime-mostSize), mostSize, mostTime},
		{purse(1, mostSize, 0, mostTime-mostSize+1), mostSize, -1},
		{purse(1, mostSize, 0, mostTime-mostSize+1), mostSize - 1, mostTime},
		{purse(3, 10, 11, 4), 1, -1},
		{purse(-1, 10, 2, 4), 1, -1},
		{purse(3, 10, 2, -1), 0, -1},
		{impl.Purse{}, 0, -1},
	} {
		whenIs(t, c.p, c.n, c.want)
	}
}

// someAmounts are those near the Level, near Burst, and near what some ticks
// bring.
func someAmounts(p impl.Purse) []int64 {
	list := []int64{0, 1, 2, p.Burst / 2, p.Burst - 1, p.Burst, p.Burst + 1}
	for ticks := range int64(5) {
		for k := int64(-1); k <= 1; k++ {
			list = append(list, max(p.Level+p.Rate*ticks+k, 0))
		}
	}
	return list
}

func TestWhenByBig(t *testing.T) {
	for _, p := range rightPurses() {
		for _, n := range someAmounts(p) {
			whenIs(t, p, n, whenByBig(p, n))
		}
	}
}

// When is the first time at which Filled tells of so much, asked time by time.
func TestWhenTimeByTime(t *testing.T) {
	const most = 130
	for _, p := range rightPurses() {
		for _, n := range someAmounts(p) {
			first := int64(-1)
			for now := p.At; now <= min(p.At+most, mostTime); now++ {
				if impl.Filled(p, now).Level >= n {
					first = now
					break
				}
			}
			got := impl.When(p, n)
			// What comes behind the times that were asked is told by others.
			if got != first && (first != -1 || within(got, 0, p.At+most)) {
				t.Fatalf("When(%+v, %d) = %d, want %d", p, n, got, first)
			}
			if got == -1 && p.Rate > 0 && n <= p.Burst && impl.Filled(p, mostTime).Level >= n {
				t.Fatalf("When(%+v, %d): there is so much at the last time", p, n)
			}
		}
	}
}

// At When it can be Spent, one tick ahead of it it can't.
func TestSpentAtWhen(t *testing.T) {
	for _, p := range rightPurses() {
		for _, n := range someAmounts(p) {
			at := impl.When(p, n)
			if at == -1 {
				if _, done := impl.Spent(p, mostTime, n); done {
					t.Fatalf("When(%+v, %d) = -1, but it is Spent at the last time", p, n)
				}
				continue
			}
			if _, done := impl.Spent(p, at, n); !done {
				t.Fatalf("When(%+v, %d) = %d, at which it is not Spent", p, n, at)
			}
			if _, done := impl.Spent(p, at-1, n); done {
				t.Fatalf("When(%+v, %d) = %d, but it is Spent one tick ahead", p, n, at)
			}
		}
	}
}

func TestWhenOfWrongAmounts(t *testing.T) {
	for _, p := range rightPurses() {
		for _, n := range wrongAround(0, p.Burst) {
			whenIs(t, p, n, -1)
		}
	}
}

func TestPursesAtWrongTimes(t *testing.T) {
	for _, p := range rightPurses() {
		for _, now := range append(wrongTimes(), p.At-1, p.At/2-1) {
			filledIs(t, p, now, p)
			for _, n := range []int64{0, 1, p.Level, p.Level + 1, p.Burst, -1, math.MinInt64, math.MaxInt64} {
				spentIs(t, p, now, n, p, false)
			}
		}
	}
}

func TestWrongPurses(t *testing.T) {
	for _, p := range wrongPurses() {
		for _, now := range append(wrongTimes(), 0, 3, 4, 5, 100, mostTime, p.At) {
			filledIs(t, p, now, impl.Purse{})
			for _, n := range []int64{0, 1, 2, p.Level, mostSize, -1, math.MinInt64, math.MaxInt64} {
				spentIs(t, p, now, n, impl.Purse{}, false)
				whenIs(t, p, n, -1)
			}
		}
	}
}

type paceField struct {
	of              func(p *impl.Pace) *int64
	least, greatest int64
}

func paceFields() []paceField {
	return []paceField{
		{func(p *impl.Pace) *int64 { return &p.Gap }, 1, mostGap},
		{func(p *impl.Pace) *int64 { return &p.Slack }, 0, mostSlack},
		{func(p *impl.Pace) *int64 { return &p.Next }, 0, mostTime},
		{func(p *impl.Pace) *int64 { return &p.Fill }, 0, mostTime},
		{func(p *impl.Pace) *int64 { return &p.Last }, 0, mostTime},
	}
}

func rightPaces() []impl.Pace {
	var list []impl.Pace
	times := []int64{0, 1, 5, 10000, 10001, mostTime - 1, mostTime}
	for _, gap := range []int64{1, 10, mostGap - 1, mostGap} {
		for _, slack := range []int64{0, 5, mostSlack - 1, mostSlack} {
			for _, next := range times {
				for _, fill := range times {
					for _, last := range times {
						list = append(list, pace(gap, slack, next, fill, last))
					}
				}
			}
		}
	}
	return list
}

// wrongPaces have one number that is wrong, and some have all.
func wrongPaces() []impl.Pace {
	list := []impl.Pace{{}, pace(-1, -1, -1, -1, -1), pace(mostGap+1, mostSlack+1, mostTime+1, mostTime+1, mostTime+1)}
	for _, field := range paceFields() {
		for _, n := range wrongAround(field.least, field.greatest) {
			for _, p := range []impl.Pace{pace(1, 0, 0, 0, 0), pace(10, 5, 7, 3, 4), pace(mostGap, mostSlack, mostTime, mostTime, mostTime)} {
				*field.of(&p) = n
				list = append(list, p)
			}
		}
	}
	return list
}

func rightPace(p impl.Pace) bool {
	for _, field := range paceFields() {
		if !within(*field.of(&p), field.least, field.greatest) {
			return false
		}
	}
	return true
}

// earlyByBig goes by the words, in numbers that have no end.
func earlyByBig(p impl.Pace, now int64) (impl.Pace, bool) {
	if !rightPace(p) || !within(now, 0, mostTime) {
		return p, false
	}
	next, at := big.NewInt(p.Next), big.NewInt(now)
	if next.Cmp(new(big.Int).Add(at, big.NewInt(p.Slack))) > 0 {
		return p, false
	}
	if at.Cmp(next) > 0 {
		next = at
	}
	next = new(big.Int).Add(next, big.NewInt(p.Gap))
	if next.Cmp(big.NewInt(mostTime)) > 0 {
		return p, false
	}
	p.Next = next.Int64()
	return p, true
}

// leakyByBig goes by the words, in numbers that have no end.
func leakyByBig(p impl.Pace, now int64) (impl.Pace, bool) {
	if !rightPace(p) || !within(now, 0, mostTime) || now < p.Last {
		return p, false
	}
	ran := new(big.Int).Sub(big.NewInt(now), big.NewInt(p.Last))
	f := new(big.Int).Sub(big.NewInt(p.Fill), ran)
	if f.Sign() < 0 {
		f.SetInt64(0)
	}
	if f.Cmp(big.NewInt(p.Slack)) > 0 {
		return p, false
	}
	p.Fill, p.Last = f.Int64()+p.Gap, now
	return p, true
}

func bothByBig(t *testing.T, p impl.Pace, now int64) {
	t.Helper()
	early, done := earlyByBig(p, now)
	earlyIs(t, p, now, early, done)
	leaky, done := leakyByBig(p, now)
	leakyIs(t, p, now, leaky, done)
}

func TestEarlyByHand(t *testing.T) {
	for _, c := range []struct {
		p    impl.Pace
		now  int64
		next int64
		done bool
	}{
		{pace(10, 5, 0, 0, 0), 0, 10, true},
		{pace(10, 5, 10, 0, 0), 4, 10, false},
		{pace(10, 5, 10, 0, 0), 5, 20, true},
		{pace(10, 5, 10, 0, 0), 10, 20, true},
		{pace(10, 5, 10, 0, 0), 11, 21, true},
		{pace(10, 5, 10, 0, 0), 500, 510, true},
		{pace(10, 0, 10, 0, 0), 9, 10, false},
		{pace(10, 0, 10, 0, 0), 10, 20, true},
		{pace(1, 0, 0, 0, 0), 0, 1, true},
		{pace(1, 0, 1, 0, 0), 0, 1, false},
		{pace(1, 0, 1, 0, 0), 1, 2, true},
		{pace(mostGap, mostSlack, mostSlack, 0, 0), 0, mostSlack + mostGap, true},
		{pace(mostGap, mostSlack, mostSlack+1, 0, 0), 0, mostSlack + 1, false},
		{pace(mostGap, mostSlack, mostSlack+1, 0, 0), 1, mostSlack + 1 + mostGap, true},
		// Fill and Last are not asked, whatever times they are.
		{pace(10, 5, 0, mostTime, mostTime), 0, 10, true},
		{pace(10, 5, 10, 0, 0), 9, 20, true},
		{pace(10, 5, 10, 0, 9), 8, 20, true},
		// A Next that would be the last time, or one above it.
		{pace(10, 5, 0, 0, 0), mostTime - 10, mostTime, true},
		{pace(10, 5, 0, 0, 0), mostTime - 9, 0, false},
		{pace(10, 5, mostTime-10, 0, 0), mostTime - 15, mostTime, true},
		{pace(10, 5, mostTime-9, 0, 0), mostTime - 14, mostTime - 9, false},
		{pace(1, 0, mostTime-1, 0, 0), mostTime - 1, mostTime, true},
		{pace(1, 0, mostTime-1, 0, 0), mostTime, mostTime - 1, false},
		{pace(1, 0, mostTime, 0, 0), mostTime, mostTime, false},
		{pace(mostGap, 0, 0, 0, 0), mostTime - mostGap, mostTime, true},
		{pace(mostGap, 0, 0, 0, 0), mostTime - mostGap + 1, 0, false},
		// No time, and a wrong pace.
		{pace(10, 5, 0, 0, 0), -1, 0, false},
		{pace(10, 5, 0, 0, 0), mostTime + 1, 0, false},
		{pace(10, 5, 0, 0, 0), math.MinInt64, 0, false},
		{pace(10, 5, 0, 0, 0), math.MaxInt64, 0, false},
		{pace(0, 5, 3, 0, 0), 9, 3, false},
		{pace(10, -1, 3, 0, 0), 9, 3, false},
		{pace(10, 5, -1, 0, 0), 9, -1, false},
		{pace(10, 5, 3, -1, 0), 9, 3, false},
		{pace(10, 5, 3, 0, -1), 9, 3, false},
		{impl.Pace{}, 0, 0, false},
	} {
		want := c.p
		want.Next = c.next
		earlyIs(t, c.p, c.now, want, c.done)
	}
}

func TestLeakyByHand(t *testing.T) {
	for _, c := range []struct {
		p          impl.Pace
		now        int64
		fill, last int64
		done       bool
	}{
		{pace(10, 5, 0, 0, 0), 0, 10, 0, true},
		{pace(10, 5, 0, 10, 0), 4, 10, 0, false},
		{pace(10, 5, 0, 10, 0), 5, 15, 5, true},
		{pace(10, 5, 0, 10, 0), 10, 10, 10, true},
		{pace(10, 5, 0, 10, 0), 11, 10, 11, true},
		{pace(10, 5, 0, 10, 0), mostTime, 10, mostTime, true},
		{pace(10, 5, 0, 10, 7), 11, 10, 7, false},
		{pace(10, 5, 0, 10, 7), 12, 15, 12, true},
		// f just at Slack, and one above.
		{pace(10, 5, 0, 5, 7), 7, 15, 7, true},
		{pace(10, 5, 0, 6, 7), 7, 6, 7, false},
		{pace(10, 5, 0, 6, 7), 8, 15, 8, true},
		{pace(1, 0, 0, 0, 7), 7, 1, 7, true},
		{pace(1, 0, 0, 1, 7), 7, 1, 7, false},
		{pace(1, 0, 0, 1, 7), 8, 1, 8, true},
		{pace(mostGap, mostSlack, 0, mostSlack, 0), 0, mostSlack + mostGap, 0, true},
		{pace(mostGap, mostSlack, 0, mostSlack+1, 0), 0, mostSlack + 1, 0, false},
		{pace(mostGap, mostSlack, 0, mostTime, 0), mostTime - mostSlack, mostSlack + mostGap, mostTime - mostSlack, true},
		{pace(mostGap, mostSlack, 0, mostTime, 0), mostTime - mostSlack - 1, mostTime, 0, false},
		{pace(mostGap, mostSlack, 0, mostTime, mostTime), mostTime, mostTime, mostTime, false},
		// At Last, and one below it.
		{pace(10, 5, 0, 0, 7), 7, 10, 7, true},
		{pace(10, 5, 0, 0, 7), 6, 0, 7, false},
		{pace(10, 5, 0, 0, 7), 0, 0, 7, false},
		{pace(10, 5, 0, 0, mostTime), mostTime - 1, 0, mostTime, false},
		// Fill is no time by the clock, so that the last time lets through.
		{pace(10, 5, 0, 0, mostTime), mostTime, 10, mostTime, true},
		{pace(mostGap, 5, mostTime, 0, 0), mostTime, mostGap, mostTime, true},
		// Next is not asked, whatever time it is.
		{pace(10, 5, mostTime, 0, 0), 0, 10, 0, true},
		// No time, and a wrong pace.
		{pace(10, 5, 0, 0, 0), -1, 0, 0, false},
		{pace(10, 5, 0, 0, 0), mostTime + 1, 0, 0, false},
		{pace(10, 5, 0, 0, mostTime), mostTime + 1, 0, mostTime, false},
		{pace(10, 5, 0, 0, 0), math.MinInt64, 0, 0, false},
		{pace(10, 5, 0, 0, 0), math.MaxInt64, 0, 0, false},
		{pace(0, 5, 0, 3, 4), 9, 3, 4, false},
		{pace(10, -1, 0, 3, 4), 9, 3, 4, false},
		{pace(10, 5, -1, 3, 4), 9, 3, 4, false},
		{pace(10, 5, 0, -1, 4), 9, -1, 4, false},
		{pace(10, 5, 0, 3, -1), 9, 3, -1, false},
		{pace(10, 5, 0, 3, -1), -1, 3, -1, false},
		{impl.Pace{}, 0, 0, 0, false},
	} {
		want := c.p
		want.Fill, want.Last = c.fill, c.last
		leakyIs(t, c.p, c.now, want, c.done)
	}
}

// timesAround are now where Early or Leaky could change its mind.
func timesAround(p impl.Pace) []int64 {
	var list []int64
	for _, edge := range []int64{0, p.Next, p.Next - p.Slack, p.Last, p.Last + p.Fill, p.Last + p.Fill - p.Slack, mostTime, mostTime - p.Gap} {
		list = append(list, edge-1, edge, edge+1)
	}
	return list
}

func TestPacesByBig(t *testing.T) {
	for _, p := range rightPaces() {
		for _, now := range timesAround(p) {
			bothByBig(t, p, now)
		}
	}
}

func TestPaceAtEachNumber(t *testing.T) {
	for _, field := range paceFields() {
		for _, edge := range []int64{field.least, field.greatest} {
			for n := edge - 300; n <= edge+300; n++ {
				for _, now := range []int64{5, 1000, mostTime - mostGap, mostTime} {
					p := pace(10, 5, 7, 3, 4)
					*field.of(&p) = n
					bothByBig(t, p, now)
				}
			}
		}
	}
}

func TestPacesAtWrongTimes(t *testing.T) {
	for _, p := range rightPaces() {
		for _, now := range wrongTimes() {
			earlyIs(t, p, now, p, false)
			leakyIs(t, p, now, p, false)
		}
	}
}

func TestWrongPaces(t *testing.T) {
	for _, p := range wrongPaces() {
		for _, now := range append(wrongTimes(), 0, 4, 9, 10000, mostTime-1, mostTime, p.Next, p.Fill, p.Last) {
			earlyIs(t, p, now, p, false)
			leakyIs(t, p, now, p, false)
		}
	}
}

// sameThrough asks both at each of the times that come one behind the other,
// as long as no Next would be above the last time, and a bucket that drips
// once a tick.
func sameThrough(t *testing.T, start impl.Pace, owed int64, times ...int64) {
	t.Helper()
	early, leaky, at := start, start, start.Last
	for _, now := range times {
		owed, at = max(owed-(now-at), 0), now
		if now+owed+start.Gap > mostTime {
			return
		}
		var one, two bool
		early, one = impl.Early(early, now)
		leaky, two = impl.Leaky(leaky, now)
		want := owed <= start.Slack
		if one != want || two != want {
			t.Fatalf("%+v at %v: Early tells %v and Leaky %v at %d, want %v", start, times, one, two, now, want)
		}
		if !want {
			continue
		}
		owed += start.Gap
		if early.Next != now+owed || early.Next != leaky.Last+leaky.Fill || early.Fill != start.Fill || early.Last != start.Last || leaky.Next != start.Next {
			t.Fatalf("%+v at %v: Early has %+v and Leaky %+v behind %d", start, times, early, leaky, now)
		}
	}
}

// alikeFrom are paces that begin alike at a time: Next is as far ahead of Last
// as Fill is great.
func alikeFrom(gap, slack, owed, last int64) impl.Pace {
	return pace(gap, slack, last+owed, owed, last)
}

// All that come one behind the other within some ticks, each of the times up
// to twice.
func TestEarlyAndLeakyOfAllSmall(t *testing.T) {
	for gap := int64(1); gap <= 4; gap++ {
		for slack := range int64(6) {
			for owed := range int64(5) {
				for which := range int64(3 * 3 * 3 * 3 * 3 * 3) {
					var times []int64
					for now, left := int64(20), which; left > 0; now, left = now+1, left/3 {
						times = append(times, slices.Repeat([]int64{now}, int(left%3))...)
					}
					sameThrough(t, alikeFrom(gap, slack, owed, 20), owed, times...)
				}
			}
		}
	}
}

func TestEarlyAndLeakyDrawn(t *testing.T) {
	d := &drawer{state: 909}
	for k := range int64(4000) {
		gap, slack := 1+d.below(mostGap), d.below(mostSlack+1)
		switch k % 5 {
		case 0:
			gap = []int64{1, mostGap}[d.below(2)]
		case 1:
			slack = []int64{0, mostSlack}[d.below(2)]
		case 2:
			gap, slack = 1+d.below(5), d.below(9)
		}
		at := []int64{0, 1, d.below(mostTime), mostTime - d.below(40000)}[d.below(4)]
		owed := min(d.below(gap+slack+1), mostTime-at)
		start := alikeFrom(gap, slack, owed, at)
		var times []int64
		for range 40 {
			at = min(at+d.below(2)*d.below(2*gap), mostTime)
			times = append(times, at)
		}
		sameThrough(t, start, owed, times...)
	}
}

// Beginning with nothing owed, Next may be any time up to Last.
func TestEarlyAndLeakyWithNothingOwed(t *testing.T) {
	for _, last := range []int64{0, 1, 5000, mostTime - 5000} {
		for _, next := range []int64{0, last / 2, last} {
			for _, gap := range []int64{1, 10, mostGap} {
				for _, slack := range []int64{0, 1, 25, mostSlack} {
					var times []int64
					for k := range int64(50) {
						times = append(times, last+k*k%7+k*gap/3)
					}
					slices.Sort(times)
					sameThrough(t, pace(gap, slack, next, 0, last), 0, times...)
				}
			}
		}
	}
}

// At one time as many come through as Slack has room for, then one for each
// Gap.
func TestHowManyComeThrough(t *testing.T) {
	for _, c := range []struct{ gap, slack, atOnce int64 }{
		{1, 0, 1}, {10, 0, 1}, {10, 9, 1}, {10, 10, 2}, {10, 19, 2}, {10, 20, 3},
		{1, mostSlack, mostSlack + 1}, {mostGap, mostSlack, 11}, {mostGap, mostSlack - 1, 10},
	} {
		early, leaky := pace(c.gap, c.slack, 0, 0, 0), pace(c.gap, c.slack, 0, 0, 0)
		ones, twos, one, two := int64(-1), int64(-1), true, true
		for ; one; ones++ {
			early, one = impl.Early(early, 0)
		}
		for ; two; twos++ {
			leaky, two = impl.Leaky(leaky, 0)
		}
		if ones != c.atOnce || twos != c.atOnce {
			t.Fatalf("Gap %d, Slack %d: Early lets %d through and Leaky %d, want %d", c.gap, c.slack, ones, twos, c.atOnce)
		}
		ones, twos = 0, 0
		for now := int64(1); now <= 5*c.gap; now++ {
			early, one = impl.Early(early, now)
			leaky, two = impl.Leaky(leaky, now)
			if one != two {
				t.Fatalf("Gap %d, Slack %d: Early tells %v and Leaky %v at %d", c.gap, c.slack, one, two, now)
			}
			if one {
				ones++
			}
		}
		// What was left of Slack may let one more through.
		if !within(ones, 5, 5+1) {
			t.Fatalf("Gap %d, Slack %d: %d come through in 5 Gaps", c.gap, c.slack, ones)
		}
	}
}

func TestPurseArgumentsStay(t *testing.T) {
	for _, p := range slices.Concat(rightPurses(), wrongPurses()) {
		asked, now, n := p, p.At/2+500, int64(3)
		kept := now
		impl.PurseOk(asked)
		filled, when := impl.Filled(asked, now), impl.When(asked, n)
		spent, done := impl.Spent(asked, now, n)
		if asked != p || now != kept || n != 3 {
			t.Fatalf("%+v has become %+v", p, asked)
		}
		// Nothing is kept from call to call either.
		filledIs(t, p, now, filled)
		whenIs(t, p, n, when)
		spentIs(t, p, now, n, spent, done)
	}
}

func TestPaceArgumentsStay(t *testing.T) {
	for _, p := range slices.Concat(rightPaces(), wrongPaces()) {
		for _, now := range []int64{-1, 0, 10000, mostTime - mostGap, mostTime} {
			asked, kept := p, now
			early, one := impl.Early(asked, now)
			leaky, two := impl.Leaky(asked, now)
			if asked != p || now != kept {
				t.Fatalf("%+v has become %+v", p, asked)
			}
			earlyIs(t, p, now, early, one)
			leakyIs(t, p, now, leaky, two)
		}
	}
}
