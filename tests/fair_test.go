package tests

import (
	"math"
	"slices"
	"testing"

	"loop.example/g00316/impl"
)

const (
	mostFair     = 1 << 50
	mostPayers   = 8
	mostWeight   = 10
	mostSizes    = 40
	mostFairSize = 2000
)

// unitPrice is 2520 by each Weight, reckoned by hand.
func unitPrice(weight int64) int64 {
	return []int64{0, 2520, 1260, 840, 630, 504, 420, 360, 315, 280, 252}[weight]
}

func payer(weight, finish int64, sizes ...int64) impl.Flow {
	return impl.Flow{Weight: weight, Finish: finish, Sizes: sizes}
}

func fairOf(now int64, flows ...impl.Flow) impl.Fairness {
	return impl.Fairness{Now: now, Flows: flows}
}

// fairSizes are n right ones; which ones goes by first.
func fairSizes(first int64, n int) []int64 {
	sizes := make([]int64, n)
	for k := range sizes {
		sizes[k] = 1 + (first+int64(k)*int64(k)*37+int64(k)*11)%mostFairSize
	}
	return sizes
}

// evenFair has n Flows that are all alike.
func evenFair(now int64, n int, weight, finish int64, sizes ...int64) impl.Fairness {
	flows := make([]impl.Flow, n)
	for k := range flows {
		flows[k] = payer(weight, finish, append([]int64{}, sizes...)...)
	}
	return fairOf(now, flows...)
}

// unevenFair has n Flows of unlike Weights, Finish below, at and above Now,
// some without Sizes and some full.
func unevenFair(now int64, n int) impl.Fairness {
	flows := make([]impl.Flow, n)
	for k := range flows {
		finish := now + []int64{-7, 0, 7, 5000, -1, 1}[(k+n)%6]
		count := []int{1, 0, 3, mostSizes, 2, 0, mostSizes - 1}[(k*3+n)%7]
		flows[k] = payer(1+int64(k*7+n)%mostWeight, min(max(finish, 0), mostFair), fairSizes(int64(k*500+n), count)...)
	}
	return fairOf(now, flows...)
}

// edgeTimes are right ones for Now and for Finish.
func edgeTimes() []int64 {
	return []int64{0, 1, 2519, 2520, 1 << 20, mostFair/2 + 1, mostFair - 2520, mostFair - 1, mostFair}
}

func rightFairs() []impl.Fairness {
	list := []impl.Fairness{
		fairOf(0, payer(1, 0)), fairOf(mostFair, payer(mostWeight, mostFair, mostFairSize)),
		fairOf(0, payer(1, 0, 10), payer(2, 0, 10)), fairOf(7, payer(3, 9, 1), payer(2, 8), payer(2, 7, 2)),
		fairOf(7, payer(3, 2, 5), payer(2, 6, 1, 1), payer(2, 7, 2)),
	}
	for _, now := range edgeTimes() {
		for n := 1; n <= mostPayers; n++ {
			list = append(list, unevenFair(now, n))
		}
		for _, finish := range edgeTimes() {
			for _, count := range []int{0, 1, 2, mostSizes - 1, mostSizes} {
				for _, n := range []int{1, 2, mostPayers} {
					weight := 1 + (now%7+finish%5+int64(count))%mostWeight
					list = append(list, evenFair(now, n, weight, finish, fairSizes(finish%99, count)...))
				}
			}
		}
	}
	return list
}

// smallFairs are all of 1 to 3 Flows of a few kinds.
func smallFairs() []impl.Fairness {
	var kinds []impl.Flow
	for _, weight := range []int64{1, 3} {
		for _, finish := range []int64{0, 4, 5000} {
			kinds = append(kinds, payer(weight, finish), payer(weight, finish, 1), payer(weight, finish, 2, 1))
		}
	}
	var list []impl.Fairness
	for _, now := range []int64{0, 4, 2520} {
		for _, a := range kinds {
			list = append(list, fairOf(now, a))
			for _, b := range kinds {
				list = append(list, fairOf(now, a, b))
				for _, c := range kinds {
					list = append(list, fairOf(now, a, b, c))
				}
			}
		}
	}
	return list
}

// fair has any Flows, with times below most and a few that are alike.
func (d *drawer) fair(most int64) impl.Fairness {
	flows := make([]impl.Flow, 1+d.below(mostPayers))
	for k := range flows {
		count := d.below(2) * d.below(mostSizes+1)
		flows[k] = payer(1+d.below(mostWeight), d.below(most)*d.below(2))
		for range count {
			flows[k].Sizes = append(flows[k].Sizes, 1+d.below(mostFairSize))
		}
	}
	return fairOf(d.below(most)*d.below(2), flows...)
}

// fairField is one number of a Fairness with a Flow and a Size.
type fairField struct {
	of              func(f *impl.Fairness, flow, size int) *int64
	least, greatest int64
}

func fairFields() []fairField {
	return []fairField{
		{func(f *impl.Fairness, flow, size int) *int64 { return &f.Now }, 0, mostFair},
		{func(f *impl.Fairness, flow, size int) *int64 { return &f.Flows[flow].Weight }, 1, mostWeight},
		{func(f *impl.Fairness, flow, size int) *int64 { return &f.Flows[flow].Finish }, 0, mostFair},
		{func(f *impl.Fairness, flow, size int) *int64 { return &f.Flows[flow].Sizes[size] }, 1, mostFairSize},
	}
}

func wrongFor(field fairField) []int64 {
	return slices.DeleteFunc(wrongAround(field.least, field.greatest), func(n int64) bool { return within(n, field.least, field.greatest) })
}

// wrongFairs have one thing that is wrong, and some have all.
func wrongFairs() []impl.Fairness {
	list := []impl.Fairness{
		{}, {Flows: []impl.Flow{}}, {Now: -1}, {Now: 1}, {Now: mostFair}, {Now: mostFair + 1}, {Now: math.MinInt64}, {Now: math.MaxInt64},
		fairOf(0, impl.Flow{}), fairOf(0, make([]impl.Flow, mostPayers)...),
		fairOf(-1, payer(0, -1, 0)), fairOf(mostFair+1, payer(11, mostFair+1, 2001)),
		fairOf(math.MinInt64, payer(math.MinInt64, math.MinInt64, math.MinInt64)),
		fairOf(math.MaxInt64, payer(math.MaxInt64, math.MaxInt64, math.MaxInt64)),
		// What is too much and too little together may be right in all.
		fairOf(0, payer(1, 0, 2001, -1)), fairOf(0, payer(1, 0, math.MaxInt64, math.MinInt64, 5)), fairOf(0, payer(0, 0), payer(2, 0)),
	}
	for _, n := range []int{9, 10, 16, 17, 257, 1<<16 + 1} {
		list = append(list, evenFair(0, n, 1, 0), evenFair(5, n, 2, 9, 3))
	}
	for _, count := range []int{41, 42, 64, 80, 256, 257, 1<<16 + 1} {
		list = append(list, fairOf(0, payer(1, 0, fairSizes(1, count)...)), fairOf(9, payer(1, 0, 5), payer(2, 0, fairSizes(2, count)...)),
			fairOf(9, payer(1, 0), payer(2, 0, fairSizes(3, count)...), payer(1, 0)))
	}
	for _, field := range fairFields() {
		for _, number := range wrongFor(field) {
			for _, n := range []int{1, 3, mostPayers} {
				for _, flow := range []int{0, n / 2, n - 1} {
					for _, count := range []int{1, 3, mostSizes} {
						f := evenFair(50, n, 2, 60, fairSizes(4, count)...)
						*field.of(&f, flow, count-1) = number
						list = append(list, f)
					}
				}
			}
		}
	}
	return list
}

func rightFairByWords(f impl.Fairness) bool {
	if !within(f.Now, 0, mostFair) || !within(int64(len(f.Flows)), 1, 8) {
		return false
	}
	for _, x := range f.Flows {
		if !within(x.Weight, 1, 10) || !within(x.Finish, 0, mostFair) || len(x.Sizes) > 40 {
			return false
		}
		for _, size := range x.Sizes {
			if !within(size, 1, 2000) {
				return false
			}
		}
	}
	return true
}

func keptFair(f impl.Fairness) impl.Fairness {
	flows := make([]impl.Flow, len(f.Flows))
	for k, x := range f.Flows {
		flows[k] = payer(x.Weight, x.Finish, append([]int64{}, x.Sizes...)...)
	}
	return fairOf(f.Now, flows...)
}

func sameFair(a, b impl.Fairness) bool {
	return a.Now == b.Now && slices.EqualFunc(a.Flows, b.Flows, func(x, y impl.Flow) bool {
		return x.Weight == y.Weight && x.Finish == y.Finish && slices.Equal(x.Sizes, y.Sizes)
	})
}

// beginsByWords, and what follows, relies on a right Fairness and place.
func beginsByWords(f impl.Fairness, flow int64) int64 {
	if len(f.Flows[flow].Sizes) == 0 {
		return -1
	}
	return slices.Max([]int64{f.Now, f.Flows[flow].Finish})
}

// chosenByOrder puts all with Sizes in order, by Begins, then by place.
func chosenByOrder(f impl.Fairness) int64 {
	var order [][]int64
	for flow := range int64(len(f.Flows)) {
		if begin := beginsByWords(f, flow); begin >= 0 {
			order = append(order, []int64{begin, flow})
		}
	}
	if len(order) == 0 {
		return -1
	}
	slices.SortFunc(order, slices.Compare[[]int64])
	return order[0][1]
}

func servedByWords(f impl.Fairness) (impl.Fairness, int64, int64) {
	next, which := keptFair(f), chosenByOrder(f)
	if which < 0 {
		return next, -1, 0
	}
	gone := &next.Flows[which]
	size := gone.Sizes[0]
	next.Now = beginsByWords(f, which)
	gone.Finish = next.Now + size*unitPrice(gone.Weight)
	gone.Sizes = gone.Sizes[1:]
	if gone.Finish > mostFair {
		return keptFair(f), -1, 0
	}
	return next, which, size
}

func queuedByWords(f impl.Fairness, flow, size int64) (impl.Fairness, bool) {
	next := keptFair(f)
	if !within(flow, 0, int64(len(f.Flows))-1) || !within(size, 1, mostFairSize) || len(f.Flows[flow].Sizes) == mostSizes {
		return next, false
	}
	to := &next.Flows[flow]
	if len(to.Sizes) == 0 && to.Finish < f.Now {
		to.Finish = f.Now
	}
	to.Sizes = append(to.Sizes, size)
	return next, true
}

func beginsIs(t *testing.T, f impl.Fairness, flow, want int64) {
	t.Helper()
	if got := impl.Begins(f, flow); got != want {
		t.Fatalf("Begins(%v, %d) = %d, want %d", f, flow, got, want)
	}
}

func queuedIs(t *testing.T, f impl.Fairness, flow, size int64, want impl.Fairness, wantDone bool) {
	t.Helper()
	got, done := impl.Queued(f, flow, size)
	if !sameFair(got, want) || done != wantDone {
		t.Fatalf("Queued(%v, %d, %d) = %v, %v, want %v, %v", f, flow, size, got, done, want, wantDone)
	}
}

func chosenIs(t *testing.T, f impl.Fairness, want int64) {
	t.Helper()
	if got := impl.Chosen(f); got != want {
		t.Fatalf("Chosen(%v) = %d, want %d", f, got, want)
	}
}

func servedIs(t *testing.T, f, want impl.Fairness, wantWhich, wantSize int64) {
	t.Helper()
	got, which, size := impl.Served(f)
	if !sameFair(got, want) || which != wantWhich || size != wantSize {
		t.Fatalf("Served(%v) = %v, %d, %d, want %v, %d, %d", f, got, which, size, want, wantWhich, wantSize)
	}
}

// fairByWords relies on a right Fairness.
func fairByWords(t *testing.T, f impl.Fairness) {
	t.Helper()
	if !impl.FairOk(f) {
		t.Fatalf("%v is right", f)
	}
	for flow := range int64(len(f.Flows)) {
		beginsIs(t, f, flow, beginsByWords(f, flow))
	}
	chosenIs(t, f, chosenByOrder(f))
	next, which, size := servedByWords(f)
	servedIs(t, f, next, which, size)
}

// queuedIsAtEach asks for each Flow of a right Fairness.
func queuedIsAtEach(t *testing.T, f impl.Fairness, sizes ...int64) {
	t.Helper()
	for flow := range int64(len(f.Flows)) {
		for _, size := range sizes {
			next, done := queuedByWords(f, flow, size)
			queuedIs(t, f, flow, size, next, done)
		}
	}
}

func TestMaxFair(t *testing.T) {
	if impl.MaxFair != mostFair {
		t.Fatal(int64(impl.MaxFair))
	}
}

func TestFairOk(t *testing.T) {
	for _, f := range rightFairs() {
		if !impl.FairOk(f) || !rightFairByWords(f) {
			t.Fatalf("%v is right", f)
		}
	}
	for _, f := range wrongFairs() {
		if impl.FairOk(f) || rightFairByWords(f) {
			t.Fatalf("%v is wrong", f)
		}
	}
}

func TestFairOkAtEachSize(t *testing.T) {
	for n := range 70 {
		if got := impl.FairOk(evenFair(3, n, 2, 3, 3)); got != within(int64(n), 1, mostPayers) {
			t.Fatalf("FairOk of %d Flows = %v", n, got)
		}
		for _, f := range []impl.Fairness{fairOf(0, payer(1, 0, fairSizes(1, n)...)), fairOf(0, payer(1, 0), payer(1, 0, fairSizes(1, n)...), payer(1, 0, 1))} {
			if got := impl.FairOk(f); got != (n <= mostSizes) {
				t.Fatalf("FairOk of %d Sizes = %v", n, got)
			}
		}
	}
}

func TestFairOkAtEachNumber(t *testing.T) {
	for _, field := range fairFields() {
		for _, edge := range []int64{field.least, field.greatest} {
			for number := edge - 300; number <= edge+300; number++ {
				f := fairOf(6, payer(1, 7, 8), payer(2, 3, 4, 5))
				*field.of(&f, 1, 1) = number
				if got := impl.FairOk(f); got != within(number, field.least, field.greatest) {
					t.Fatalf("FairOk(%v) = %v", f, got)
				}
			}
		}
	}
}

// A wrong number is found at each place of a full Fairness.
func TestFairOkFindsEachWrongNumber(t *testing.T) {
	for _, field := range fairFields() {
		for flow := range mostPayers {
			for size := range mostSizes {
				for _, number := range []int64{field.least - 1, field.greatest + 1, math.MinInt64, math.MaxInt64} {
					f := evenFair(3, mostPayers, 3, 3, fairSizes(3, mostSizes)...)
					*field.of(&f, flow, size) = number
					if impl.FairOk(f) {
						t.Fatalf("%v is wrong", f)
					}
				}
			}
		}
	}
}

func TestBeginsByHand(t *testing.T) {
	for _, k := range []struct {
		f          impl.Fairness
		flow, want int64
	}{
		{fairOf(0, payer(1, 0, 1)), 0, 0},
		{fairOf(5, payer(1, 4, 1)), 0, 5},
		{fairOf(5, payer(1, 5, 1)), 0, 5},
		{fairOf(5, payer(1, 6, 1)), 0, 6},
		{fairOf(0, payer(10, mostFair, 2000)), 0, mostFair},
		{fairOf(mostFair, payer(10, 0, 2000)), 0, mostFair},
		{fairOf(mostFair, payer(10, mostFair, 2000)), 0, mostFair},
		// Neither Weight nor Sizes say when it begins, nor do other Flows.
		{fairOf(5, payer(1, 9, 2000, 2000), payer(10, 8, 1), payer(1, 7)), 0, 9},
		{fairOf(5, payer(1, 9, 2000, 2000), payer(10, 8, 1), payer(1, 7)), 1, 8},
		{fairOf(5, payer(1, 9, 2000, 2000), payer(10, 8, 1), payer(1, 7)), 2, -1},
		{fairOf(5, payer(1, 9)), 0, -1},
		{fairOf(5, payer(1, 9, 1)), 1, -1},
		{fairOf(5, payer(1, 9, 1)), -1, -1},
		{fairOf(5, payer(1, 9, 1)), math.MinInt64, -1},
		{fairOf(5, payer(1, 9, 1)), math.MaxInt64, -1},
		{fairOf(5, payer(1, 9, 1), payer(0, 0)), 0, -1},
		{fairOf(5, payer(1, 9, 1), payer(1, 0, 2001)), 0, -1},
		{fairOf(-1, payer(1, 9, 1)), 0, -1},
		{fairOf(mostFair+1, payer(1, 9, 1)), 0, -1},
		{fairOf(5, payer(1, mostFair+1, 1)), 0, -1},
		{impl.Fairness{}, 0, -1},
	} {
		beginsIs(t, k.f, k.flow, k.want)
	}
}

func TestQueuedByHand(t *testing.T) {
	f := fairOf(20, payer(1, 19), payer(2, 21), payer(3, 0, 7), payer(4, 20), payer(5, 9, fairSizes(1, mostSizes)...))
	for _, k := range []struct {
		flow, size int64
		want       impl.Flow
	}{
		{0, 1, payer(1, 20, 1)},
		{0, 2000, payer(1, 20, 2000)},
		{1, 5, payer(2, 21, 5)},
		// What has Sizes already keeps its Finish, also below Now.
		{2, 5, payer(3, 0, 7, 5)},
		{2, 7, payer(3, 0, 7, 7)},
		{3, 5, payer(4, 20, 5)},
	} {
		want := keptFair(f)
		want.Flows[k.flow] = k.want
		queuedIs(t, f, k.flow, k.size, want, true)
	}
	for _, k := range [][2]int64{{4, 1}, {5, 1}, {-1, 1}, {0, 0}, {0, -1}, {0, 2001}, {2, 0}, {2, 2001}, {4, 2001}, {-1, 0}, {5, 2001}} {
		queuedIs(t, f, k[0], k[1], f, false)
	}
	queuedIs(t, fairOf(mostFair, payer(1, 0)), 0, 1, fairOf(mostFair, payer(1, mostFair, 1)), true)
	queuedIs(t, fairOf(0, payer(1, mostFair)), 0, 1, fairOf(0, payer(1, mostFair, 1)), true)
	for _, wrong := range []impl.Fairness{{}, fairOf(-1, payer(1, 0)), fairOf(0, payer(0, 0)), fairOf(0, payer(11, 0)), fairOf(0, payer(1, -1)), fairOf(0, payer(1, 0), payer(1, 0, 0))} {
		queuedIs(t, wrong, 0, 1, impl.Fairness{}, false)
	}
}

func TestChosenByHand(t *testing.T) {
	for _, k := range []struct {
		f    impl.Fairness
		want int64
	}{
		{fairOf(0, payer(1, 0, 1)), 0},
		{fairOf(0, payer(1, 0)), -1},
		{fairOf(9, payer(1, 0), payer(2, 5), payer(3, 99)), -1},
		{fairOf(0, payer(1, 0), payer(1, 9, 1)), 1},
		{fairOf(0, payer(1, 3, 1), payer(1, 2, 1), payer(1, 4, 1)), 1},
		{fairOf(0, payer(1, 3, 1), payer(1, 2), payer(1, 4, 1)), 0},
		{fairOf(0, payer(1, 3), payer(1, 2), payer(1, mostFair, 1)), 2},
		// Of alike ones the first, and below Now all are alike.
		{fairOf(0, payer(1, 3, 1), payer(9, 3, 1)), 0},
		{fairOf(5, payer(1, 6, 1), payer(1, 4, 1), payer(1, 0, 1), payer(1, 5, 1)), 1},
		{fairOf(5, payer(1, 5, 2000), payer(10, 0, 1)), 0},
		{evenFair(0, mostPayers, 1, 0, 1), 0},
		{evenFair(mostFair, mostPayers, 10, mostFair, 2000), 0},
		{fairOf(0, payer(1, mostFair, 1), payer(1, mostFair-1, 1)), 1},
		{impl.Fairness{}, -1},
		{fairOf(0, payer(1, 0, 1), payer(0, 0, 1)), -1},
		{fairOf(-1, payer(1, 0, 1)), -1},
		{evenFair(0, 9, 1, 0, 1), -1},
	} {
		chosenIs(t, k.f, k.want)
	}
}

func TestServedByHand(t *testing.T) {
	for _, k := range []struct {
		f, want     impl.Fairness
		which, size int64
	}{
		{fairOf(0, payer(1, 0, 10)), fairOf(0, payer(1, 25200)), 0, 10},
		{fairOf(0, payer(7, 0, 1)), fairOf(0, payer(7, 360)), 0, 1},
		{fairOf(0, payer(10, 0, 2000, 3)), fairOf(0, payer(10, 504000, 3)), 0, 2000},
		{fairOf(5, payer(2, 3, 7, 8), payer(1, 6, 1)), fairOf(5, payer(2, 8825, 8), payer(1, 6, 1)), 0, 7},
		{fairOf(5, payer(2, 9, 7, 8), payer(1, 6, 1, 4, 4)), fairOf(6, payer(2, 9, 7, 8), payer(1, 2526, 4, 4)), 1, 1},
		{fairOf(5, payer(2, 1), payer(3, 80, 2)), fairOf(80, payer(2, 1), payer(3, 1760)), 1, 2},
		{fairOf(0, payer(1, 0), payer(1, 9)), fairOf(0, payer(1, 0), payer(1, 9)), -1, 0},
		// Up to MaxFair, and no further: no other one goes in its place.
		{fairOf(0, payer(1, mostFair-2520, 1)), fairOf(mostFair-2520, payer(1, mostFair)), 0, 1},
		{fairOf(0, payer(1, mostFair-2519, 1)), fairOf(0, payer(1, mostFair-2519, 1)), -1, 0},
		{fairOf(mostFair-2520, payer(1, 0, 1)), fairOf(mostFair-2520, payer(1, mostFair)), 0, 1},
		{fairOf(mostFair-2519, payer(1, 0, 1)), fairOf(mostFair-2519, payer(1, 0, 1)), -1, 0},
		{fairOf(0, payer(1, mostFair-2000, 1), payer(10, mostFair-1999, 1)), fairOf(0, payer(1, mostFair-2000, 1), payer(10, mostFair-1999, 1)), -1, 0},
		{fairOf(0, payer(10, mostFair-2000, 1), payer(1, mostFair-1999, 1)), fairOf(mostFair-2000, payer(10, mostFair-1748), payer(1, mostFair-1999, 1)), 0, 1},
		{fairOf(mostFair, payer(10, mostFair, 1)), fairOf(mostFair, payer(10, mostFair, 1)), -1, 0},
		{fairOf(0, payer(1, 0, 1), payer(1, 0, 2001)), impl.Fairness{}, -1, 0},
		{fairOf(0, payer(0, 0, 1)), impl.Fairness{}, -1, 0},
		{fairOf(mostFair+1, payer(1, 0, 1)), impl.Fairness{}, -1, 0},
		{fairOf(0), impl.Fairness{}, -1, 0},
	} {
		servedIs(t, k.f, k.want, k.which, k.size)
	}
}

func TestRightFairsByWords(t *testing.T) {
	for _, f := range rightFairs() {
		fairByWords(t, f)
		queuedIsAtEach(t, f, 1, 2, 1999, 2000, 0, 2001)
	}
}

func TestSmallFairsByWords(t *testing.T) {
	for _, f := range smallFairs() {
		fairByWords(t, f)
		queuedIsAtEach(t, f, 2)
	}
}

func TestDrawnFairsByWords(t *testing.T) {
	draw := &drawer{state: 13}
	for _, most := range []int64{2, 4, 5000, 1 << 30, mostFair + 1} {
		for range 400 {
			f := draw.fair(most)
			fairByWords(t, f)
			queuedIsAtEach(t, f, 1+draw.below(mostFairSize))
		}
	}
}

// Each Weight with each Size: nothing is rounded, so that Weight times what
// Finish goes up by is Size times 2520.
func TestServedAtEachWeightAndSize(t *testing.T) {
	for weight := int64(1); weight <= mostWeight; weight++ {
		for size := int64(1); size <= mostFairSize; size++ {
			for _, now := range []int64{0, 11} {
				got, which, gone := impl.Served(fairOf(now, payer(weight, 7, size)))
				begin := max(now, 7)
				if which != 0 || gone != size || got.Now != begin || (got.Flows[0].Finish-begin)*weight != size*2520 {
					t.Fatalf("Weight %d, Size %d: %v, %d, %d", weight, size, got, which, gone)
				}
			}
		}
	}
}

// Finish may be just MaxFair, whichever of Now and Finish it begins at.
func TestServedUpToMaxFair(t *testing.T) {
	for weight := int64(1); weight <= mostWeight; weight++ {
		for _, size := range []int64{1, 2, 7, 999, 1999, 2000} {
			last := mostFair - size*unitPrice(weight)
			for _, below := range []int64{0, last - 1, last} {
				done := payer(weight, mostFair, 5)
				servedIs(t, fairOf(below, payer(weight, last, size, 5)), fairOf(last, done), 0, size)
				servedIs(t, fairOf(last, payer(weight, below, size, 5)), fairOf(last, done), 0, size)
				servedIs(t, fairOf(last, done), fairOf(last, done), -1, 0)
				for _, more := range []int64{1, 2, mostFair - last} {
					for _, f := range []impl.Fairness{fairOf(below, payer(weight, last+more, size, 5)), fairOf(last+more, payer(weight, below, size, 5))} {
						servedIs(t, f, f, -1, 0)
						chosenIs(t, f, 0)
					}
				}
			}
		}
	}
}

// Of all with one Begins the first one with Sizes goes, whichever those are.
func TestAlikeBegins(t *testing.T) {
	for set := 1; set < 1<<mostPayers; set++ {
		f := fairOf(40)
		first := int64(-1)
		for flow := range int64(mostPayers) {
			x := payer(1+flow, 40-flow)
			if set>>flow&1 == 1 {
				x.Sizes = []int64{3 + flow}
				if first < 0 {
					first = flow
				}
			}
			f.Flows = append(f.Flows, x)
		}
		chosenIs(t, f, first)
		_, which, size := impl.Served(f)
		if which != first || size != 3+first {
			t.Fatalf("Served(%v) tells %d and %d", f, which, size)
		}
	}
}

// One Flow alone begins least: it is found at each place among any number.
func TestLeastAtEachPlace(t *testing.T) {
	for n := 1; n <= mostPayers; n++ {
		for place := range n {
			for _, by := range []int64{1, 2, 1 << 40} {
				f := evenFair(5, n, 2, 10+by, 2000, 1)
				f.Flows[place].Finish = 10
				chosenIs(t, f, int64(place))
				want := keptFair(f)
				want.Now = 10
				want.Flows[place] = payer(2, 10+2000*1260, 1)
				servedIs(t, f, want, int64(place), 2000)
			}
		}
	}
}

// book keeps what each has had for its Weight, and of each two that wait the
// least by which the one was ahead of the other since both do.
type book struct {
	had, greatest []int64
	least         map[[2]int]int64
}

func bookOf(f impl.Fairness) *book {
	b := &book{had: make([]int64, len(f.Flows)), greatest: make([]int64, len(f.Flows)), least: map[[2]int]int64{}}
	for flow, x := range f.Flows {
		for _, size := range x.Sizes {
			b.comes(f, int64(flow), size)
		}
	}
	return b
}

func (b *book) comes(f impl.Fairness, flow, size int64) {
	b.greatest[flow] = max(b.greatest[flow], size*unitPrice(f.Flows[flow].Weight))
}

// waits is told each time ahead of one that goes.
func (b *book) waits(f impl.Fairness) {
	for one, x := range f.Flows {
		for other, y := range f.Flows {
			key := [2]int{one, other}
			ahead := b.had[one] - b.had[other]
			if len(x.Sizes) == 0 || len(y.Sizes) == 0 {
				delete(b.least, key)
			} else if least, there := b.least[key]; !there || ahead < least {
				b.least[key] = ahead
			}
		}
	}
}

// goes is false where one has had more than it may, from any step on at which
// both waited.
func (b *book) goes(f impl.Fairness, which, size int64) bool {
	b.had[which] += size * unitPrice(f.Flows[which].Weight)
	for key, least := range b.least {
		one, other := key[0], key[1]
		if b.had[one]-b.had[other]-least > b.greatest[one]+b.greatest[other] {
			return false
		}
	}
	return true
}

// goesOn lets one go and holds all of it against the words.
func goesOn(t *testing.T, f impl.Fairness, b *book) (impl.Fairness, int64) {
	t.Helper()
	b.waits(f)
	next, which, size := impl.Served(f)
	want, wantWhich, wantSize := servedByWords(f)
	if !sameFair(next, want) || which != wantWhich || size != wantSize || next.Now < f.Now || !impl.FairOk(next) {
		t.Fatalf("Served(%v) = %v, %d, %d, want %v, %d, %d", f, next, which, size, want, wantWhich, wantSize)
	}
	chosenIs(t, f, which)
	if which < 0 {
		return next, which
	}
	beginsIs(t, f, which, next.Now)
	if !b.goes(f, which, size) {
		t.Fatalf("at %v: %d has more than its due: %v", f, which, b)
	}
	return next, which
}

// alwaysWait lets so many go; for each that goes another one comes.
func alwaysWait(t *testing.T, f impl.Fairness, steps int, size func(flow int64) int64) *book {
	t.Helper()
	b := bookOf(f)
	for range steps {
		next, which := goesOn(t, f, b)
		if which < 0 {
			t.Fatalf("Served(%v) lets none go", f)
		}
		fresh := size(which)
		b.comes(next, which, fresh)
		want := keptFair(next)
		want.Flows[which].Sizes = append(want.Flows[which].Sizes, fresh)
		if len(next.Flows[which].Sizes) == 0 {
			want.Flows[which].Finish = max(want.Flows[which].Finish, want.Now)
		}
		queuedIs(t, next, which, fresh, want, true)
		f, _ = impl.Queued(next, which, fresh)
	}
	return b
}

// startsOf have 1 to 8 Flows of unlike Weights that wait, with as many Sizes
// each, and a Finish that is at most one of these above Now.
func startsOf(now int64, count int) []impl.Fairness {
	var list []impl.Fairness
	for n := 1; n <= mostPayers; n++ {
		for _, shift := range []int64{0, 3, 7} {
			f := fairOf(now)
			for k := range int64(n) {
				weight := 1 + (k*3+shift)%mostWeight
				sizes := fairSizes(k*700+shift*90, count)
				above := []int64{0, -4, slices.Max(sizes) * unitPrice(weight), 1, -now}[(k+shift)%5]
				f.Flows = append(f.Flows, payer(weight, max(now+above, 0), sizes...))
			}
			list = append(list, f)
		}
	}
	return list
}

func TestEachHasItsDue(t *testing.T) {
	draw := &drawer{state: 1313}
	sizes := []func(flow int64) int64{
		func(flow int64) int64 { return 1 },
		func(flow int64) int64 { return 2000 },
		func(flow int64) int64 { return 1 + flow*249%2000 },
		func(flow int64) int64 { return 1 + draw.below(2000) },
		func(flow int64) int64 { return 1 + 1999*draw.below(2) },
	}
	for _, now := range []int64{0, 9, 1 << 40} {
		for _, count := range []int{1, 2, mostSizes - 1, mostSizes} {
			for _, f := range startsOf(now, count) {
				for _, size := range sizes {
					alwaysWait(t, f, 120, size)
				}
			}
		}
	}
}

func TestEachHasItsDueForLong(t *testing.T) {
	draw := &drawer{state: 130}
	for _, f := range startsOf(5, 3) {
		alwaysWait(t, f, 3000, func(flow int64) int64 { return 1 + draw.below(2000) })
	}
}

// Of each two Weights: who pays so many times as much has so many times as
// much, to one Size of each.
func TestSharesGoByWeight(t *testing.T) {
	for one := int64(1); one <= mostWeight; one++ {
		for other := int64(1); other <= mostWeight; other++ {
			for _, size := range []int64{1, 300, 2000} {
				b := alwaysWait(t, fairOf(0, payer(one, 0, size), payer(other, 0, size)), int(one+other)*20, func(int64) int64 { return size })
				if b.had[0] != b.had[1] || b.had[0] != 20*size*2520 {
					t.Fatalf("Weights %d and %d: %v", one, other, b)
				}
			}
		}
	}
}

// What comes and goes between takes nobody's due, and who had nothing waiting
// is owed nothing for that while.
func TestDrawnQueuedAndServed(t *testing.T) {
	draw := &drawer{state: 3131}
	for run := range int64(120) {
		f := fairOf(draw.below(5000))
		for range 1 + draw.below(mostPayers) {
			f.Flows = append(f.Flows, payer(1+draw.below(mostWeight), draw.below(f.Now+1)))
		}
		b := bookOf(f)
		for range 300 {
			// In some runs more comes than goes, so that rows are full.
			if draw.below(4) <= run%4 {
				flow, size := draw.below(int64(len(f.Flows))), 1+draw.below(mostFairSize)
				want, done := queuedByWords(f, flow, size)
				queuedIs(t, f, flow, size, want, done)
				f, _ = impl.Queued(f, flow, size)
				if done {
					b.comes(f, flow, size)
				}
			} else {
				f, _ = goesOn(t, f, b)
			}
			fairByWords(t, f)
		}
	}
}

// Up to 40 and no further; they go out in the order in which they came.
func TestQueuedUntilThereIsNoRoom(t *testing.T) {
	f := fairOf(100, payer(3, 10, 5), payer(7, 10), payer(1, mostFair/2))
	sizes := fairSizes(77, mostSizes)
	for k, size := range sizes {
		want := fairOf(100, payer(3, 10, 5), payer(7, 100, sizes[:k+1]...), payer(1, mostFair/2))
		queuedIs(t, f, 1, size, want, true)
		f, _ = impl.Queued(f, 1, size)
	}
	for range 3 {
		queuedIs(t, f, 1, 1, f, false)
		f, _ = impl.Queued(f, 1, 1)
	}
	// The others have room still.
	queuedIsAtEach(t, f, 9)
	var went []int64
	b := bookOf(f)
	for range mostSizes + 1 {
		next, which := goesOn(t, f, b)
		if which == 1 {
			went = append(went, f.Flows[1].Sizes[0])
		}
		f = next
	}
	if !slices.Equal(went, sizes) {
		t.Fatalf("%v went, %v came", went, sizes)
	}
	chosenIs(t, f, -1)
	servedIs(t, f, f, -1, 0)
}

// Finish is lifted to Now just where there are no Sizes and it is below Now.
func TestQueuedLiftsFinish(t *testing.T) {
	for _, now := range edgeTimes() {
		for _, finish := range append(edgeTimes(), now-1, now+1) {
			if !within(finish, 0, mostFair) {
				continue
			}
			for weight := int64(1); weight <= mostWeight; weight++ {
				others := payer(2, max(now-1, 0))
				queuedIs(t, fairOf(now, others, payer(weight, finish)), 1, 6, fairOf(now, others, payer(weight, max(now, finish), 6)), true)
				queuedIs(t, fairOf(now, others, payer(weight, finish, 4)), 1, 6, fairOf(now, others, payer(weight, finish, 4, 6)), true)
			}
		}
	}
}

func TestQueuedOfEachSize(t *testing.T) {
	f := fairOf(8, payer(1, 3), payer(2, 3, 4), payer(3, 9, fairSizes(1, mostSizes-1)...), payer(3, 9, fairSizes(1, mostSizes)...))
	for size := int64(-300); size <= mostFairSize+300; size++ {
		queuedIsAtEach(t, f, size)
	}
}

func TestWrongSizesToBeQueued(t *testing.T) {
	for _, f := range append(rightFairs(), unevenFair(9, 8)) {
		for flow := range int64(len(f.Flows)) {
			for _, size := range wrongAround(1, mostFairSize) {
				queuedIs(t, f, flow, size, f, false)
			}
		}
	}
}

func TestWrongFlowNumbers(t *testing.T) {
	for _, f := range append(rightFairs(), unevenFair(9, 8)) {
		for _, flow := range outside(len(f.Flows)) {
			beginsIs(t, f, flow, -1)
			for _, size := range []int64{1, 2000, 0, 2001, math.MinInt64, math.MaxInt64} {
				queuedIs(t, f, flow, size, f, false)
			}
		}
	}
}

func TestWrongFairs(t *testing.T) {
	places := []int64{0, 1, 7, 8, -1, math.MinInt64, math.MaxInt64}
	for _, f := range wrongFairs() {
		chosenIs(t, f, -1)
		servedIs(t, f, impl.Fairness{}, -1, 0)
		for _, flow := range places {
			beginsIs(t, f, flow, -1)
			for _, size := range []int64{1, 2000, 0, 2001, math.MinInt64, math.MaxInt64} {
				queuedIs(t, f, flow, size, impl.Fairness{}, false)
			}
		}
	}
}

// roomyFair is the same with spare room behind each list and behind all, with
// something written there.
func roomyFair(f impl.Fairness) impl.Fairness {
	flows := make([]impl.Flow, 0, len(f.Flows)+2)
	for _, x := range f.Flows {
		room := append(append([]int64{}, x.Sizes...), 901, 902, 903)
		flows = append(flows, payer(x.Weight, x.Finish, room[:len(x.Sizes)]...))
	}
	behind := append(flows, payer(3, 904, 905, 906), payer(4, 907, 908))
	return fairOf(f.Now, behind[:len(flows)]...)
}

// wholeFair is all of it, the spare room among it, as new memory.
func wholeFair(f impl.Fairness) impl.Fairness {
	var flows []impl.Flow
	for _, x := range f.Flows[:cap(f.Flows)] {
		flows = append(flows, payer(x.Weight, x.Finish, append([]int64{}, x.Sizes[:cap(x.Sizes)]...)...))
	}
	return fairOf(f.Now, flows...)
}

// spoilFair writes into all that belongs to a Fairness, spare room too.
func spoilFair(f impl.Fairness) {
	for k, x := range f.Flows[:cap(f.Flows)] {
		for s := range x.Sizes[:cap(x.Sizes)] {
			x.Sizes[:cap(x.Sizes)][s] = -77
		}
		f.Flows[:cap(f.Flows)][k] = payer(-78, -79)
	}
}

// inTwo tells whether any place, spare room too, is in two of the lists.
func inTwo[T any](lists ...[]T) bool {
	seen := map[*T]bool{}
	for _, list := range lists {
		for k := range list[:cap(list)] {
			place := &list[:cap(list)][k]
			if seen[place] {
				return true
			}
			seen[place] = true
		}
	}
	return false
}

func noFairMemoryTwice(t *testing.T, fairs ...impl.Fairness) {
	t.Helper()
	var flows [][]impl.Flow
	var sizes [][]int64
	for _, f := range fairs {
		flows = append(flows, f.Flows)
		for _, x := range f.Flows[:cap(f.Flows)] {
			sizes = append(sizes, x.Sizes)
		}
	}
	if inTwo(flows...) || inTwo(sizes...) {
		t.Fatalf("%v share memory", fairs)
	}
}

func TestFairArgumentsStay(t *testing.T) {
	for _, f := range slices.Concat(rightFairs(), wrongFairs()) {
		if len(f.Flows) > 300 || len(f.Flows) > 0 && len(f.Flows[len(f.Flows)/2].Sizes) > 300 {
			continue
		}
		f = roomyFair(f)
		kept, all := keptFair(f), wholeFair(f)
		for _, flow := range []int64{0, int64(len(f.Flows)) - 1, int64(len(f.Flows)), -1} {
			for _, size := range []int64{3, 0} {
				impl.FairOk(f)
				impl.Begins(f, flow)
				impl.Chosen(f)
				one, _ := impl.Queued(f, flow, size)
				other, _ := impl.Queued(f, flow, size)
				gone, _, _ := impl.Served(f)
				again, _, _ := impl.Served(f)
				noFairMemoryTwice(t, f, one, other, gone, again)
				oneKept, goneKept := keptFair(one), keptFair(gone)
				spoilFair(other)
				spoilFair(again)
				if !sameFair(one, oneKept) || !sameFair(gone, goneKept) {
					t.Fatalf("of %v: %v and %v have become %v and %v", kept, oneKept, goneKept, one, gone)
				}
				spoilFair(one)
				spoilFair(gone)
				if !sameFair(f, kept) || !sameFair(wholeFair(f), all) {
					t.Fatalf("%v has become %v", kept, f)
				}
			}
		}
	}
}

// A Fairness that is answered as it is owns its memory too.
func TestFairAsItIsIsNewMemory(t *testing.T) {
	full := evenFair(5, mostPayers, 2, 9, fairSizes(5, mostSizes)...)
	for _, k := range [][2]int64{{0, 1}, {7, 1}, {8, 1}, {-1, 1}, {0, 0}, {0, 2001}} {
		kept := keptFair(full)
		same, done := impl.Queued(full, k[0], k[1])
		noFairMemoryTwice(t, full, same)
		spoilFair(same)
		if done || !sameFair(full, kept) {
			t.Fatalf("%v has become %v", kept, full)
		}
	}
	for _, f := range []impl.Fairness{evenFair(5, mostPayers, 2, 9), evenFair(5, mostPayers, 2, mostFair, fairSizes(5, mostSizes)...)} {
		kept := keptFair(f)
		same, which, size := impl.Served(f)
		noFairMemoryTwice(t, f, same)
		if which != -1 || size != 0 || !sameFair(same, kept) {
			t.Fatalf("Served(%v) = %v, %d, %d", kept, same, which, size)
		}
		spoilFair(same)
		if !sameFair(f, kept) {
			t.Fatalf("%v has become %v", kept, f)
		}
	}
}

// Flows that come with one list of Sizes each have their own in the answer,
// and what goes or comes is in one of them alone.
func TestFairOfSharedSizes(t *testing.T) {
	room := []int64{3, 1, 5, 4}
	f := fairOf(1, payer(1, 9, room[:2]...), payer(2, 1, room[:2]...), payer(3, 8, room[1:4]...), payer(4, 0, room[:0]...))
	for flow := range int64(4) {
		want, _ := queuedByWords(f, flow, 6)
		queuedIs(t, f, flow, 6, want, true)
		more, _ := impl.Queued(f, flow, 6)
		noFairMemoryTwice(t, more, fairOf(0, payer(1, 0, room...)))
		spoilFair(more)
	}
	refused, _ := impl.Queued(f, 4, 6)
	noFairMemoryTwice(t, refused, fairOf(0, payer(1, 0, room...)))
	servedIs(t, f, fairOf(1, payer(1, 9, 3, 1), payer(2, 3781, 1), payer(3, 8, 1, 5, 4), payer(4, 0)), 1, 3)
	gone, _, _ := impl.Served(f)
	noFairMemoryTwice(t, gone, fairOf(0, payer(1, 0, room...)))
	spoilFair(gone)
	spoilFair(refused)
	if !slices.Equal(room, []int64{3, 1, 5, 4}) {
		t.Fatalf("the Sizes have become %v", room)
	}
}

// What came first is not changed by what is made of it, twice.
func TestFairsPartWays(t *testing.T) {
	f := fairOf(0, payer(1, 0, fairSizes(1, 9)...), payer(2, 0, fairSizes(2, 9)...), payer(3, 0))
	for range 6 {
		one, _, _ := impl.Served(f)
		other, _ := impl.Queued(f, 1, 4)
		third, _, _ := impl.Served(one)
		fourth, _ := impl.Queued(one, 2, 4)
		noFairMemoryTwice(t, f, one, other, third, fourth)
		kept := keptFair(one)
		spoilFair(other)
		spoilFair(third)
		spoilFair(fourth)
		if !sameFair(one, kept) {
			t.Fatalf("%v has become %v", kept, one)
		}
		f = one
	}
}
