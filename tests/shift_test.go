package tests

import (
	"slices"
	"testing"

	"loop.example/g00316/impl"
)

// timesByWords, and what follows, relies on a right gate.
func timesByWords(g impl.Gate) []int64 {
	list := []int64{treeTime(g)}
	for _, i := range slices.Concat(g.Rows.Lists...) {
		list = append(list, i.At)
	}
	slices.Sort(list)
	return slices.Compact(list)
}

func latestOf(g impl.Gate) int64 { return slices.Max(timesByWords(g)) }

func movedByWords(g impl.Gate, by int64) (impl.Gate, bool) {
	if !within(by, 0, mostTime) || latestOf(g) > mostTime-by {
		return impl.Gate{}, false
	}
	return withGate(g, func(g *impl.Gate) {
		for number := range g.Tree {
			g.Tree[number].Purse.At = by + g.Tree[number].Purse.At
		}
		for leaf := range g.Rows.Lists {
			for place := range g.Rows.Lists[leaf] {
				g.Rows.Lists[leaf][place].At = by + g.Rows.Lists[leaf][place].At
			}
		}
	}), true
}

func movedIs(t *testing.T, g impl.Gate, by int64, want impl.Gate, wantDone bool) {
	t.Helper()
	if got, done := impl.Moved(g, by); !sameGate(got, want) || done != wantDone {
		t.Fatalf("Moved(%+v, %d) = %+v, %v, want %+v, %v", g, by, got, done, want, wantDone)
	}
}

func timesIs(t *testing.T, g impl.Gate, want ...int64) {
	t.Helper()
	if got := impl.Times(g); !slices.Equal(got, want) {
		t.Fatalf("Times(%+v) = %v, want %v", g, got, want)
	}
}

// movedAsByWords is held against the words; what is answered is right.
func movedAsByWords(t *testing.T, g impl.Gate, by int64) (impl.Gate, bool) {
	t.Helper()
	next, done := movedByWords(g, by)
	movedIs(t, g, by, next, done)
	gateOkIs(t, next, done)
	return next, done
}

// notMoved is the zero Gate and false, by whatever.
func notMoved(t *testing.T, g impl.Gate, list ...int64) {
	t.Helper()
	for _, by := range list {
		movedIs(t, g, by, impl.Gate{}, false)
	}
}

// withTime has a Tree of this time; its Items stay.
func withTime(g impl.Gate, at int64) impl.Gate {
	return withGate(g, func(g *impl.Gate) {
		for number := range g.Tree {
			g.Tree[number].Purse.At = at
		}
	})
}

// movesOf are some of which a few are just right, and a few 1 too many.
func movesOf(g impl.Gate) []int64 {
	last := mostTime - latestOf(g)
	return []int64{0, 1, 2, 7, 5000, last / 2, last - 1, last, last + 1, last + 2, mostTime - 1, mostTime}
}

// earlyGates can all be moved: of 1, 2, 3 and 8 leaves over deep, wide and
// mixed trees, with and without Items.
func earlyGates() []impl.Gate {
	var list []impl.Gate
	for k, line := range gateLines() {
		for _, n := range []int{1, 2, 3, 8} {
			for shape := range 5 {
				kind := int64(k*3+n+shape) % purseKinds
				items := []int{0, 7, 25, min(40*n, 200)}[(k+n+shape)%4]
				list = append(list, someGate(n, shape, kind, line, []int64{0, 5000, 200000}[(n+shape)%3], items))
			}
		}
	}
	return list
}

func TestMovedByHand(t *testing.T) {
	tree := treeOf([]int64{-1, 0, 1}, purse(10, 50, 20, 70), purse(2, 40, 30, 70), purse(0, 40, 5, 70))
	g := gateOf(cellsLine(), tree, 1, 2)
	g.Routes, g.Rules = routesToAll(), rulesToAll()
	g.Fair = fairOf(500, payer(2, 700), payer(3, 600))
	g.Steers[1] = steer(20, 10, 300000)
	g = laden(laden(g, 0, item(4, 30, 50), item(2, 20, 71)), 1, item(3, 10, 0))
	g.Draw = 77
	want := withGate(g, func(g *impl.Gate) {
		g.Tree = treeOf([]int64{-1, 0, 1}, purse(10, 50, 20, 79), purse(2, 40, 30, 79), purse(0, 40, 5, 79))
		g.Rows.Lists = [][]impl.Item{{item(4, 30, 59), item(2, 20, 80)}, {item(3, 10, 9)}}
	})
	movedIs(t, g, 0, g, true)
	movedIs(t, g, 9, want, true)
	far := withGate(g, func(g *impl.Gate) {
		g.Tree = treeOf([]int64{-1, 0, 1}, purse(10, 50, 20, mostTime-1), purse(2, 40, 30, mostTime-1), purse(0, 40, 5, mostTime-1))
		g.Rows.Lists = [][]impl.Item{{item(4, 30, mostTime-21), item(2, 20, mostTime)}, {item(3, 10, mostTime-71)}}
	})
	movedIs(t, g, mostTime-71, far, true)
	movedIs(t, far, 0, far, true)
	notMoved(t, far, 1, 2, mostTime)
	notMoved(t, g, mostTime-70, mostTime, -1, mostTime+1)
}

func TestTimesByHand(t *testing.T) {
	g := withTime(goodGate(), 70)
	timesIs(t, g, 70)
	timesIs(t, laden(g, 0, item(1, 30, 70)), 70)
	timesIs(t, laden(g, 1, item(1, 30, 69)), 69, 70)
	timesIs(t, laden(g, 1, item(1, 30, 71)), 70, 71)
	timesIs(t, laden(laden(g, 0, item(1, 30, 69), item(2, 30, 69)), 1, item(3, 1, 69)), 69, 70)
	timesIs(t, laden(laden(g, 0, item(1, 30, 100), item(2, 30, 9), item(3, 30, 70)), 1, item(4, 1, 80), item(5, 1, 9), item(6, 1, 0)), 0, 9, 70, 80, 100)
	timesIs(t, laden(laden(g, 0, item(1, 30, mostTime)), 1, item(2, 30, 0), item(3, 30, mostTime)), 0, 70, mostTime)
	timesIs(t, withTime(g, 0), 0)
	timesIs(t, withTime(g, mostTime), mostTime)
	timesIs(t, laden(withTime(g, mostTime), 0, item(1, 30, mostTime-1)), mostTime-1, mostTime)
	timesIs(t, impl.Gate{})
}

// 200 Items that all came at times of their own, in no order, and again with
// each time twice.
func TestTimesOfManyItems(t *testing.T) {
	for _, twice := range []int64{1, 2} {
		g := gateOf(plain(), treeOf(starUps(9), purse(1, 9, 9, 1000)), leavesOf(8, 9, 0)...)
		g.Rows.Most = 200
		for k := range int64(200) {
			g = laden(g, int(k)%8, item(1+k, 30, 5+k*77%200/twice*7))
		}
		var want []int64
		for k := range 200 / twice {
			want = append(want, 5+7*k)
		}
		at, _ := slices.BinarySearch(want, 1000)
		timesIs(t, g, slices.Insert(want, at, 1000)...)
		// With the time of the Tree itself among them.
		g = withTime(g, 5+7*99)
		timesIs(t, g, timesByWords(g)...)
		if got := len(impl.Times(g)); got != int(200/twice) {
			t.Fatalf("%d times of 200 Items, %d at once", got, twice)
		}
	}
}

func TestTimesOfRightGates(t *testing.T) {
	counts := map[int]int{}
	for _, g := range rightGates() {
		times := timesByWords(g)
		timesIs(t, g, times...)
		counts[len(times)]++
	}
	if counts[1] < 50 || counts[6] < 50 {
		t.Fatalf("too few of a kind: %v", counts)
	}
}

func TestMovedOfRightGates(t *testing.T) {
	moved, stayed := 0, 0
	for _, g := range slices.Concat(rightGates(), earlyGates(), []impl.Gate{handGate(), bareGate(), looseGate()}) {
		for _, by := range movesOf(g) {
			next, done := movedAsByWords(t, g, by)
			if !done {
				stayed++
				continue
			}
			moved++
			// Rising, each once, as those it had.
			for k, at := range impl.Times(next) {
				if at != by+timesByWords(g)[k] {
					t.Fatalf("Times(%+v) = %v, of %v moved by %d", next, impl.Times(next), timesByWords(g), by)
				}
			}
		}
		notMoved(t, g, wrongTimes()...)
	}
	if moved < 5000 || stayed < 3000 {
		t.Fatalf("only %d moved, and %d stayed", moved, stayed)
	}
}

// All times but one are far from the last one: those of all Purses, or that of
// one Item, wherever it is.
func TestMovedJustToTheLastTime(t *testing.T) {
	just := func(g impl.Gate, by int64) {
		t.Helper()
		movedIs(t, g, by-1, firstOf(movedByWords(g, by-1)), true)
		movedIs(t, g, by, firstOf(movedByWords(g, by)), true)
		notMoved(t, g, by+1, by+2, 2*by+1, mostTime)
	}
	for _, n := range []int{1, 2, 8} {
		for _, room := range []int64{1, 2, 1000, mostTime / 2, mostTime - 101} {
			g := gateOf(plain(), treeOf(starUps(9), purse(1, 9, 9, 100)), leavesOf(n, 9, 0)...)
			g.Rows.Most = 200
			just(g, mostTime-100)
			for leaf := range n {
				for k := range int64(5) {
					g = laden(g, leaf, item(1+int64(leaf)*5+k, 30, 96+k))
				}
			}
			just(g, mostTime-100)
			just(withTime(g, mostTime-room), room)
			for leaf, list := range g.Rows.Lists {
				for place := range list {
					just(withGate(g, func(g *impl.Gate) { g.Rows.Lists[leaf][place].At = mostTime - room }), room)
				}
			}
		}
	}
	// From nought on by all there is.
	zero := withTime(goodGate(), 0)
	movedIs(t, zero, mostTime, withTime(zero, mostTime), true)
	movedIs(t, laden(zero, 1, item(1, 30, 0)), mostTime, laden(withTime(zero, mostTime), 1, item(1, 30, mostTime)), true)
	notMoved(t, laden(zero, 1, item(1, 30, 1)), mostTime)
	notMoved(t, withTime(zero, 1), mostTime)
	notMoved(t, laden(withTime(zero, 1), 1, item(1, 30, 0)), mostTime)
}

func firstOf[T, U any](first T, _ U) T { return first }

func TestMovedByWrongNumbers(t *testing.T) {
	for _, g := range slices.Concat(fewGates(), []impl.Gate{goodGate(), withTime(goodGate(), 0), withTime(goodGate(), mostTime)}) {
		notMoved(t, g, wrongTimes()...)
		// Such as would be right times again if a sum wrapped.
		notMoved(t, g, -treeTime(g)-1, -mostTime, -1<<63, 1<<63-1, 1<<63-1-treeTime(g), 1<<62, -1<<62, 1<<41, 1<<40+1)
	}
}

// Moved by a and then by b is moved by a plus b, where that can be, and
// nothing where it can't.
func TestMovedInTwo(t *testing.T) {
	both, neither := 0, 0
	for _, g := range earlyGates() {
		for _, a := range movesOf(g) {
			first, done := impl.Moved(g, a)
			if !done {
				continue
			}
			for _, b := range append(movesOf(g), movesOf(first)...) {
				next, is := impl.Moved(first, b)
				want, right := impl.Gate{}, false
				if b >= 0 && a+b <= mostTime {
					want, right = impl.Moved(g, a+b)
				}
				if is != right || !sameGate(next, want) {
					t.Fatalf("%+v, moved by %d and by %d: %+v, %v", g, a, b, next, is)
				}
				if is {
					both++
				} else {
					neither++
				}
			}
		}
	}
	if both < 5000 || neither < 5000 {
		t.Fatalf("only %d moved twice, and %d not", both, neither)
	}
}

// refusedShift is what the three tell of a gate that is not right.
func refusedShift(t *testing.T, g impl.Gate) {
	t.Helper()
	notMoved(t, g, append(wrongTimes(), 0, 1, 5000, mostTime)...)
	timesIs(t, g)
	waitsIs(t, g)
}

func TestShiftOfWrongGates(t *testing.T) {
	for _, g := range wrongGates() {
		refusedShift(t, g)
	}
	eachWrongPart(func(g impl.Gate) {
		t.Helper()
		refusedShift(t, g)
	})
	refusedShift(t, impl.Gate{})
	// Times that are none.
	for _, at := range wrongTimes() {
		refusedShift(t, withTime(goodGate(), at))
		refusedShift(t, laden(goodGate(), 1, item(1, 30, at)))
	}
}
