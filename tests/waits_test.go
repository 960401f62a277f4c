package tests

import (
	"math"
	"runtime"
	"slices"
	"sync"
	"testing"
	"time"

	"loop.example/g00316/impl"
)

// waitsByWords relies on a right gate.
func waitsByWords(g impl.Gate) []impl.Due {
	var list []impl.Due
	for leaf, items := range g.Rows.Lists {
		if len(items) == 0 {
			continue
		}
		if at := whenCanByWords(g.Tree, g.Leaves[leaf], onLineByWords(g.Line, items[0].Size)); at != -1 {
			list = append(list, due(at, int64(leaf)+1))
		}
	}
	return inDueOrder(list)
}

func waitsIs(t *testing.T, g impl.Gate, want ...impl.Due) {
	t.Helper()
	if got := impl.Waits(g); !slices.Equal(got, want) {
		t.Fatalf("Waits(%+v) = %v, want %v", g, got, want)
	}
}

// waitsAsByWords is held against the words, and against WhenCan itself.
func waitsAsByWords(t *testing.T, g impl.Gate) []impl.Due {
	t.Helper()
	want := waitsByWords(g)
	waitsIs(t, g, want...)
	for leaf, items := range g.Rows.Lists {
		at := int64(-1)
		if len(items) > 0 {
			at = impl.WhenCan(g.Tree, g.Leaves[leaf], impl.OnLine(g.Line, items[0].Size))
		}
		if there := slices.Contains(want, due(at, int64(leaf)+1)); there != (at != -1) {
			t.Fatalf("Waits(%+v) = %v, but leaf %d can at %d", g, want, leaf, at)
		}
	}
	return want
}

// goesJustThen asks that at the first of the times Later and then Out let one
// go, of a leaf of that time, and at none ahead of it.
func goesJustThen(t *testing.T, g impl.Gate) {
	t.Helper()
	waits, none := impl.Waits(g), int64(mostTime)
	if len(waits) > 0 {
		first := waits[0].Time
		_, _, leaf := outAt(t, g, first)
		if leaf < 0 || !slices.Contains(waits, due(first, leaf+1)) {
			t.Fatalf("Waits(%+v) = %v, but at %d leaf %d goes", g, waits, first, leaf)
		}
		none = first - 1
	}
	for _, now := range []int64{treeTime(g), treeTime(g) + 1, treeTime(g) + 2, (treeTime(g) + none) / 2, none - 1, none} {
		if !within(now, treeTime(g), none) {
			continue
		}
		if _, gone, leaf := outAt(t, g, now); leaf != -1 {
			t.Fatalf("Waits(%+v) = %v, but at %d %v goes from leaf %d", g, waits, now, gone, leaf)
		}
	}
}

func outAt(t *testing.T, g impl.Gate, now int64) (impl.Gate, impl.Item, int64) {
	t.Helper()
	next, done := impl.Later(g, now)
	if !done {
		t.Fatalf("Later(%+v, %d) is not done", g, now)
	}
	return impl.Out(next)
}

func TestWaitsByHand(t *testing.T) {
	tree := treeOf([]int64{-1, 0, 0, 1}, purse(10, 500, 20, 7), purse(2, 40, 30, 7), purse(0, 40, 5, 7), purse(5, 30, 0, 7))
	g := gateOf(plain(), tree, 1, 2, 3)
	waitsIs(t, g)
	// Number 1 has 30, number 0 only 20.
	one := laden(g, 0, item(1, 20, 7))
	waitsIs(t, one, due(7, 1))
	waitsIs(t, laden(g, 0, item(1, 21, 7)), due(8, 1))
	waitsIs(t, laden(g, 0, item(1, 33, 7)), due(9, 1))
	waitsIs(t, laden(g, 0, item(1, 40, 7)), due(12, 1))
	waitsIs(t, laden(g, 0, item(1, 41, 7)))
	// Only the first Item says.
	waitsIs(t, laden(g, 0, item(1, 40, 7), item(2, 1, 7)), due(12, 1))
	waitsIs(t, laden(g, 0, item(1, 41, 7), item(2, 1, 7)))
	waitsIs(t, laden(g, 0, item(1, 1, 7), item(2, 41, 7)), due(7, 1))
	// Number 2 gets nothing with time.
	waitsIs(t, laden(g, 1, item(1, 5, 7)), due(7, 2))
	waitsIs(t, laden(g, 1, item(1, 6, 7)))
	// When it came is not asked.
	waitsIs(t, laden(g, 2, item(1, 11, 0)), due(10, 3))
	waitsIs(t, laden(g, 2, item(1, 11, mostTime)), due(10, 3))
	// All at once: by time, then by number.
	waitsIs(t, laden(laden(one, 1, item(2, 5, 7)), 2, item(3, 15, 7)), due(7, 1), due(7, 2), due(10, 3))
	waitsIs(t, laden(laden(laden(g, 0, item(1, 36, 7)), 1, item(2, 5, 7)), 2, item(3, 15, 7)), due(7, 2), due(10, 1), due(10, 3))
	waitsIs(t, laden(laden(laden(g, 0, item(1, 40, 7)), 1, item(2, 6, 7)), 2, item(3, 1, 7)), due(8, 3), due(12, 1))
	waitsIs(t, laden(laden(laden(g, 0, item(1, 41, 7)), 1, item(2, 6, 7)), 2, item(3, 31, 7)))
	waitsIs(t, impl.Gate{})
}

// What the line makes of a Size is what is waited for.
func TestWaitsOnEachLine(t *testing.T) {
	for _, line := range gateLines() {
		g := gateOf(line, treeOf(lineUps(3), purse(1, 2000, 0, 40), purse(9, 2000, 0, 40)), 1)
		for size := int64(1); size <= 2000; size++ {
			takes := onLineByWords(line, size)
			if takes > 2000 {
				continue
			}
			waitsIs(t, laden(g, 0, item(1, size, 40)), due(40+takes, 1))
		}
	}
}

func TestWaitsOfRightGates(t *testing.T) {
	counts, kinds := map[int]int{}, map[string]int{}
	for _, g := range slices.Concat(rightGates(), earlyGates(), []impl.Gate{handGate(), bareGate(), looseGate()}) {
		waits := waitsAsByWords(t, g)
		counts[len(waits)]++
		goesJustThen(t, g)
		for leaf, items := range g.Rows.Lists {
			at := slices.IndexFunc(waits, func(d impl.Due) bool { return d.Id == int64(leaf)+1 })
			switch {
			case len(items) == 0:
				kinds["none there"]++
			case at < 0:
				kinds["never"]++
			case waits[at].Time == treeTime(g):
				kinds["at once"]++
			default:
				kinds["later"]++
			}
		}
	}
	for _, kind := range []string{"none there", "never", "at once", "later"} {
		if kinds[kind] < 200 {
			t.Fatalf("too few: %v", kinds)
		}
	}
	if counts[0] < 100 || counts[8] < 20 {
		t.Fatalf("too few: %v", counts)
	}
}

// At each time up to the first one nothing goes; then one does.
func TestWaitsTimeByTime(t *testing.T) {
	count := 0
	for k, ups := range upShapes(6) {
		for kind := range int64(purseKinds) {
			g := gateOf(cellsLine(), someTree(ups, kind, 50), leavesOf(3, 6, kind)...)
			for leaf := range 3 {
				g = laden(g, leaf, item(int64(leaf)+1, 1+int64(leaf*41+k*9)%90, 50))
			}
			waits := waitsAsByWords(t, g)
			if len(waits) == 0 {
				goesJustThen(t, g)
				continue
			}
			count++
			for now := int64(50); now <= waits[0].Time; now++ {
				if _, _, leaf := outAt(t, g, now); (leaf >= 0) != (now == waits[0].Time) {
					t.Fatalf("Waits(%+v) = %v, but at %d leaf %d goes", g, waits, now, leaf)
				}
			}
		}
	}
	if count < 15 {
		t.Fatalf("only %d", count)
	}
}

// When all that waits goes as soon as it can, each goes at the time that was
// told ahead of it.
func TestWaitsUntilAllAreGone(t *testing.T) {
	went := 0
	for _, g := range earlyGates() {
		for waits := impl.Waits(g); len(waits) > 0; waits = impl.Waits(g) {
			next, gone, leaf := outAt(t, g, waits[0].Time)
			if leaf < 0 || gone != g.Rows.Lists[leaf][0] {
				t.Fatalf("Waits(%+v) = %v, but leaf %d goes", g, waits, leaf)
			}
			goesJustThen(t, g)
			went, g = went+1, next
		}
		if _, _, leaf := outAt(t, g, mostTime); leaf != -1 {
			t.Fatalf("nothing waits in %+v, but leaf %d goes", g, leaf)
		}
	}
	if went < 500 {
		t.Fatalf("only %d went", went)
	}
}

// eightApart has eight leaves, each with a purse of its own that has 60 after
// just so many ticks, or has them never.
func eightApart(at int64, ticks ...int64) impl.Gate {
	g := gateOf(plain(), treeOf(starUps(9), purse(0, 9000, 9000, at)), leavesOf(8, 9, 0)...)
	for leaf, wait := range ticks {
		g.Tree[leaf+1].Purse = purse(1, 60, 60-wait, at)
		if wait < 0 {
			g.Tree[leaf+1].Purse = purse(1, 59, 59, at)
		}
		g = laden(g, leaf, item(1+int64(leaf), 60, 50))
	}
	return g
}

// Each set of leaves with Items, and of leaves that can never go.
func TestWaitsOfEachSet(t *testing.T) {
	for set := range 1 << mostLeaves {
		ticks := []int64{5, 9, 0, 5, 60, 0, 9, 1}
		empty, never := eightApart(50, ticks...), eightApart(50, ticks...)
		var want []impl.Due
		for leaf := range int64(mostLeaves) {
			if set>>leaf&1 == 1 {
				want = append(want, due(50+ticks[leaf], leaf+1))
				continue
			}
			empty.Rows.Lists[leaf], empty.Fair.Flows[leaf].Sizes = nil, nil
			never.Tree[leaf+1].Purse = purse(0, 9000, 59, 50)
		}
		want = inDueOrder(want)
		waitsIs(t, empty, want...)
		waitsIs(t, never, want...)
	}
}

// In order whatever the order of the leaves is; those of one time by number.
func TestWaitsInOrder(t *testing.T) {
	waitsIs(t, eightApart(50, 8, 7, 6, 5, 4, 3, 2, 1), due(51, 8), due(52, 7), due(53, 6), due(54, 5), due(55, 4), due(56, 3), due(57, 2), due(58, 1))
	waitsIs(t, eightApart(50, 1, 2, 3, 4, 5, 6, 7, 8), due(51, 1), due(52, 2), due(53, 3), due(54, 4), due(55, 5), due(56, 6), due(57, 7), due(58, 8))
	waitsIs(t, eightApart(50, 3, 3, 3, 3, 3, 3, 3, 3), duesUpTo(8, 53)...)
	waitsIs(t, eightApart(50, 0, 0, 0, 0, 0, 0, 0, 0), duesUpTo(8, 50)...)
	waitsIs(t, eightApart(50, -1, -1, -1, -1, -1, -1, -1, -1))
	waitsIs(t, eightApart(50, 9, 4, 9, 4, -1, 4, 9, 0), due(50, 8), due(54, 2), due(54, 4), due(54, 6), due(59, 1), due(59, 3), due(59, 7))
	draw := &drawer{state: 181818}
	for range 300 {
		ticks, want := []int64{}, []impl.Due{}
		for leaf := range int64(mostLeaves) {
			ticks = append(ticks, draw.below(6)-1)
			if ticks[leaf] >= 0 {
				want = append(want, due(50+ticks[leaf], leaf+1))
			}
		}
		waitsIs(t, eightApart(50, ticks...), inDueOrder(want)...)
	}
}

// duesUpTo are of each number up to it at one time.
func duesUpTo(most, at int64) []impl.Due {
	var list []impl.Due
	for id := range most {
		list = append(list, due(at, id+1))
	}
	return list
}

// Its number is that among the leaves, not that of its Node.
func TestWaitsTellTheLeaf(t *testing.T) {
	for n := 1; n <= mostLeaves; n++ {
		for kind := range int64(3) {
			g := gateOf(plain(), treeOf(starUps(12), purse(1, 90, 9, 70)), leavesOf(n, 12, kind)...)
			for leaf := range n {
				waitsIs(t, laden(g, leaf, item(1, 9, 70)), due(70, int64(leaf)+1))
				waitsIs(t, laden(g, leaf, item(999, 19, 70)), due(80, int64(leaf)+1))
			}
		}
	}
}

// A time of just MaxTime is told, one above it is not.
func TestWaitsUpToTheLastTime(t *testing.T) {
	for _, ticks := range []int64{0, 1, 2, 59, 60} {
		at := mostTime - ticks
		waitsIs(t, eightApart(at, ticks, -1, ticks), due(mostTime, 1), due(mostTime, 3))
		if ticks > 0 {
			waitsIs(t, eightApart(at, ticks-1, ticks), due(mostTime-1, 1), due(mostTime, 2))
		}
		if ticks < 60 {
			waitsIs(t, eightApart(at, ticks+1, ticks, ticks+1, ticks), due(mostTime, 2), due(mostTime, 4))
			waitsIs(t, eightApart(at, ticks+1, 60))
		}
		goesJustThen(t, eightApart(at, ticks))
	}
	waitsIs(t, withTime(laden(goodGate(), 1, item(1, 2000, 0)), mostTime), due(mostTime, 2))
	waitsIs(t, withTime(laden(goodGate(), 1, item(1, 2000, 0)), 0), due(0, 2))
}

// A first Item that no Purse on its path can ever hold is not told, whichever
// Purse that is; beside the path it may be any.
func TestWaitsForWhatNoPurseHolds(t *testing.T) {
	for _, ups := range upShapes(mostNodes) {
		for number := range int64(mostNodes) {
			for leaf := range int64(mostNodes) {
				g := gateOf(plain(), treeOf(ups, purse(3, 2000, 0, 70)), leaf)
				g = laden(g, 0, item(1, 60, 70))
				onPath := slices.Contains(pathByWords(g.Tree, leaf), number)
				for _, c := range []struct {
					p    impl.Purse
					when int64
				}{{purse(3, 59, 59, 70), -1}, {purse(3, 60, 0, 70), 90}, {purse(0, 2000, 59, 70), -1}, {purse(0, 60, 60, 70), 90}, {purse(1, 60, 0, 70), 130}} {
					g.Tree[number].Purse = c.p
					switch {
					case !onPath:
						waitsIs(t, g, due(90, 1))
					case c.when < 0:
						waitsIs(t, g)
					case number == leaf && len(pathByWords(g.Tree, leaf)) == 1 && c.p.Level == 60:
						waitsIs(t, g, due(70, 1))
					default:
						waitsIs(t, g, due(c.when, 1))
					}
				}
			}
		}
	}
}

// patiently waits until so many goroutines are left, as those that have told
// all may need a moment to be gone.
func patiently(t *testing.T, most int) {
	t.Helper()
	for range 2000 {
		if runtime.NumGoroutine() <= most {
			return
		}
		time.Sleep(time.Millisecond)
	}
	t.Fatalf("%d goroutines are left, not %d", runtime.NumGoroutine(), most)
}

// With one and with many processors, again and again, alone and at one time.
func TestWaitsManyTimesOver(t *testing.T) {
	gates := []impl.Gate{
		eightApart(50, 8, 7, 6, 5, 4, 3, 2, 1), eightApart(50, 3, 3, 3, 3, 3, 3, 3, 3), eightApart(50, 0, -1, 0, -1, 1, -1, 1, -1),
		eightApart(50, -1, -1, -1, -1, -1, -1, -1, -1), eightApart(mostTime, 1, 1, 1, 1, 1, 1, 1, 0), eightApart(50, 9), goodGate(), someGate(8, 4, 1, plain(), 5000, 25), {},
	}
	defer runtime.GOMAXPROCS(runtime.GOMAXPROCS(0))
	for _, processors := range []int{1, 2, 3, 8, 64} {
		runtime.GOMAXPROCS(processors)
		there := runtime.NumGoroutine()
		for _, g := range gates {
			want := []impl.Due{}
			if impl.GateOk(g) {
				want = waitsByWords(g)
			}
			for range 300 {
				waitsIs(t, g, want...)
			}
			var all sync.WaitGroup
			answers := make([][]impl.Due, 50)
			for k := range answers {
				all.Go(func() { answers[k] = impl.Waits(g) })
			}
			all.Wait()
			for _, got := range answers {
				if !slices.Equal(got, want) {
					t.Fatalf("Waits(%+v) = %v, want %v", g, got, want)
				}
			}
		}
		patiently(t, there)
	}
}

// When it has answered nothing reads of the gate any more: it may be written
// into at once, by whoever has it.
func TestWaitsLeaveTheGateAlone(t *testing.T) {
	there := runtime.NumGoroutine()
	for round := range int64(500) {
		g := eightApart(50, round%7-1, 3, 3, -1, 3, 3, 3, round%5)
		want := waitsByWords(g)
		got := impl.Waits(g)
		spoilGate(g)
		if !slices.Equal(got, want) {
			t.Fatalf("Waits = %v, want %v", got, want)
		}
		spoil(got, due(-1, math.MinInt64))
	}
	patiently(t, there)
}
