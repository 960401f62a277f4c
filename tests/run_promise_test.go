package tests

import (
	"slices"
	"testing"

	"loop.example/g00316/impl"
)

// longestTick is how many ticks later a drawn Act is at most.
const longestTick = 100000

// later is what was told, so much later.
func later(told []impl.Done, by int64) []impl.Done {
	var list []impl.Done
	for _, d := range told {
		list = append(list, doneOf(d.Kind, d.Code, d.Id, d.Time+by))
	}
	return list
}

// saved is what is read of the image, and the gate that it was, by the words.
func saved(t *testing.T, g impl.Gate) impl.Gate {
	t.Helper()
	s := impl.Image(g)
	back, done := impl.FromImage(s)
	if !done || s == "" || !sameGate(back, g) || s != imageByWords(g) {
		t.Fatalf("%q of %+v is read as %+v, %v", s, g, back, done)
	}
	return back
}

// wholeRun is a run in one piece.
type wholeRun struct {
	from impl.Gate
	list []impl.Act
	last impl.Gate
	told []impl.Done
}

func wholeOf(g impl.Gate, list []impl.Act) wholeRun {
	last, told := impl.Run(g, list)
	return wholeRun{from: g, list: list, last: last, told: told}
}

// goesOnAt asks that what goes on with this gate, behind so many Acts, tells
// what the whole run tells, and comes to the same gate, so much later.
func (r wholeRun) goesOnAt(t *testing.T, cut int, g impl.Gate, by int64) {
	t.Helper()
	want, _ := movedByWords(r.last, by)
	got, told := impl.Run(g, r.list[cut:])
	if !slices.Equal(told, later(r.told[cut:], by)) || !sameGate(got, want) {
		t.Fatalf("cut at %d, %d later: %+v, not %+v; %+v, not %+v", cut, by, told, later(r.told[cut:], by), got, want)
	}
}

// cutAt asks for the same of the run that is cut there, as it is and saved.
func (r wholeRun) cutAt(t *testing.T, cut int) impl.Gate {
	t.Helper()
	mid, told := impl.Run(r.from, r.list[:cut])
	if !slices.Equal(told, r.told[:cut]) {
		t.Fatalf("cut at %d: %+v, not %+v", cut, told, r.told[:cut])
	}
	r.goesOnAt(t, cut, mid, 0)
	back := saved(t, mid)
	r.goesOnAt(t, cut, back, 0)
	return back
}

// laterAt asks for the same, so much later, of what was moved there: as it is,
// and saved ahead of that and behind it.
func (r wholeRun) laterAt(t *testing.T, cut int, mid impl.Gate, by int64) {
	t.Helper()
	moved, done := impl.Moved(mid, by)
	if !done {
		t.Fatalf("Moved(%+v, %d) is not done", mid, by)
	}
	r.goesOnAt(t, cut, moved, by)
	r.goesOnAt(t, cut, saved(t, moved), by)
}

// savedAt asks for the same of the run with AcSave as one Act more.
func (r wholeRun) savedAt(t *testing.T, cuts ...int) {
	t.Helper()
	list, want := r.list, r.told
	// From behind, so that the places ahead stay.
	for _, cut := range slices.Backward(cuts) {
		at := treeTime(r.from)
		if cut > 0 {
			at = r.told[cut-1].Time
		}
		list = slices.Concat(list[:cut], []impl.Act{saveAct()}, list[cut:])
		want = slices.Concat(want[:cut], []impl.Done{doneOf(5, 0, 0, at)}, want[cut:])
	}
	runIs(t, r.from, list, r.last, want)
}

// The promise, at each place of drawn runs.
func TestSavedAndGoneOnWithAtAnyPlace(t *testing.T) {
	draw := &drawer{state: 1919}
	const count = 14
	kinds := map[[2]int64]int{}
	for k, g := range earlyGates() {
		r := wholeOf(g, draw.acts(count))
		room := mostTime - latestOf(g) - count*longestTick
		var all []int
		for cut := range count + 1 {
			all = append(all, cut)
			mid := r.cutAt(t, cut)
			r.savedAt(t, cut)
			for _, by := range []int64{1, []int64{0, 7, 1 << 32, 1 << 20, room - 1}[(k+cut)%5], room} {
				r.laterAt(t, cut, mid, by)
			}
		}
		r.savedAt(t, all...)
		for _, d := range r.told {
			kinds[[2]int64{d.Kind, min(d.Code, 9)}]++
		}
	}
	for _, is := range [][2]int64{{1, 0}, {1, 9}, {2, -1}, {2, 0}, {2, 1}, {3, 0}, {3, -1}, {4, 0}, {4, -1}, {5, 0}, {6, -1}} {
		if kinds[is] < 10 {
			t.Fatalf("too few of %v: %v", is, kinds)
		}
	}
}

// The promise, of every one of the first Acts of small gates, in any order.
func TestSavedAtEachPlaceOfAllShortRuns(t *testing.T) {
	acts := []impl.Act{saveAct(), {Kind: 6}}
	for _, s := range stepsOfAllKinds() {
		acts = append(acts, s.asAct())
	}
	for _, leaves := range [][]int64{{2}, {0, 1, 2}} {
		g, _ := impl.NewGate(cellsLine(), treeOf([]int64{-1, 0, 1}, purse(9, 120, 60, 5), purse(7, 110, 55, 5)), leaves)
		g, _ = impl.Ruled(g, []impl.Route{{}}, rulesToAll())
		g, _ = impl.In(g, textTo(0, 101, 3))
		for _, list := range smallListsOf(acts, 3) {
			r := wholeOf(g, list)
			for cut := range len(list) + 1 {
				mid := r.cutAt(t, cut)
				r.savedAt(t, cut)
				r.laterAt(t, cut, mid, 3)
				r.laterAt(t, cut, mid, mostTime-5-4*3)
			}
		}
	}
}

// The promise, of runs of as many Acts as there may be.
func TestSavedOnALongRun(t *testing.T) {
	draw := &drawer{state: 1920}
	for n := 1; n <= mostLeaves; n++ {
		g := gateOf(gateLines()[n%6], treeOf(upShapes(mostNodes)[n%5], purse(70, 3000, 500, 9)), leavesOf(n, mostNodes, int64(n))...)
		g.Routes, g.Rules, g.Rows.Most = routesToAll(), rulesToAll(), 60
		r := wholeOf(g, draw.acts(mostActs))
		for _, cut := range []int{0, 1, 50, 99, 100, 150, 198, 199, mostActs} {
			r.laterAt(t, cut, r.cutAt(t, cut), 1<<33)
		}
		// With one Act more there is one too many.
		runIs(t, g, append([]impl.Act{saveAct()}, r.list...), impl.Gate{}, nil)
		wholeOf(g, r.list[:mostActs-1]).savedAt(t, 120)
		wholeOf(g, r.list[:mostActs/2]).savedAt(t, rangeTo(mostActs/2)...)
	}
}

func rangeTo(n int) []int {
	var list []int
	for k := range n {
		list = append(list, k)
	}
	return list
}

// What was moved ahead of all tells the same so much later, and what is moved
// again on the way all of it later.
func TestMovedOnTheWayOfARun(t *testing.T) {
	draw := &drawer{state: 1921}
	for _, g := range earlyGates() {
		const count = 20
		r := wholeOf(g, draw.acts(count))
		room := mostTime - latestOf(g) - count*longestTick
		mid, all := g, int64(0)
		for cut, a := range r.list {
			if draw.below(3) == 0 {
				by := []int64{0, 1, draw.below(1000), (room - all) / 2}[draw.below(4)]
				moved, done := impl.Moved(saved(t, mid), by)
				if !done {
					t.Fatalf("Moved(%+v, %d) is not done", mid, by)
				}
				mid, all = moved, all+by
				r.goesOnAt(t, cut, mid, all)
			}
			next, done := impl.Did(mid, a)
			if want := later(r.told[cut:cut+1], all)[0]; done != want {
				t.Fatalf("Act %d, %d later: %+v, not %+v", cut, all, done, want)
			}
			mid = next
		}
		if want, _ := movedByWords(r.last, all); !sameGate(mid, want) {
			t.Fatalf("%d later: %+v, not %+v", all, mid, want)
		}
	}
}

// Near the last time there is no time to go on to: that alone is another.
func TestRunUpToTheLastTime(t *testing.T) {
	s := textTo(0, 0, 0)
	g := withGate(withTime(goodGate(), 0), func(g *impl.Gate) { g.Tree[0].Purse.Level = 22 })
	list := []impl.Act{comeAct(s), goAct(), tickAct(1), goAct(), tickAct(1), saveAct()}
	tells := func(by int64, codes ...int64) {
		t.Helper()
		moved, _ := impl.Moved(g, by)
		_, told := runAsByWords(t, moved, list)
		for k, code := range codes {
			if told[k].Code != code {
				t.Fatalf("%d later Act %d tells %+v, not %d", by, k, told[k], code)
			}
		}
	}
	tells(0, 0, -1, 0, 0, 0, 0)
	tells(mostTime-2, 0, -1, 0, 0, 0, 0)
	tells(mostTime-1, 0, -1, 0, 0, -1, 0)
	tells(mostTime, 0, -1, -1, -1, -1, 0)
}

// What is asked of a saved gate beside the run is the same too.
func TestSavedGatesTellTheSame(t *testing.T) {
	draw := &drawer{state: 1922}
	for k, g := range earlyGates() {
		if k%2 > 0 {
			continue
		}
		mid, _ := impl.Run(g, draw.acts(25))
		back, done := impl.Did(mid, saveAct())
		if done != doneOf(5, 0, 0, treeTime(mid)) || impl.Image(back) != impl.Image(mid) ||
			!slices.Equal(impl.Times(back), impl.Times(mid)) || !slices.Equal(impl.Waits(back), impl.Waits(mid)) {
			t.Fatalf("of %+v: %+v, %+v", mid, back, done)
		}
		for _, a := range actsOfAllKinds(mid) {
			next, done := impl.Did(mid, a)
			didIs(t, back, a, next, done)
		}
	}
}
