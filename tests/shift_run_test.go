package tests

import (
	"slices"
	"testing"

	"loop.example/g00316/impl"
)

// step is one thing that is done with a gate; wait is from its time on.
type step struct {
	kind   int64
	text   string
	wait   int64
	routes []impl.Route
	rules  []impl.Rule
}

// answered is what is told of a step beside the gate.
type answered struct {
	code int64
	gone impl.Item
	done bool
}

func (s step) on(g impl.Gate) (impl.Gate, answered) {
	var next impl.Gate
	var is answered
	switch s.kind {
	case 0:
		next, is.code = impl.In(g, s.text)
	case 1:
		next, is.gone, is.code = impl.Out(g)
	case 2:
		next, is.done = impl.Later(g, treeTime(g)+s.wait)
	default:
		next, is.done = impl.Ruled(g, s.routes, s.rules)
	}
	return next, is
}

func stepsOfAllKinds() []step {
	return []step{
		{kind: 0, text: textTo(0, 100, 0)}, {kind: 0, text: textTo(0, 101, 9)}, {kind: 0, text: textTo(0, 100, 0)[:9]},
		{kind: 1}, {kind: 2, wait: 4}, {kind: 2, wait: -1}, {kind: 3, routes: routesToAll()}, {kind: 3, routes: []impl.Route{{Bits: 33}}},
	}
}

// both does the step with the gate and with the one that was moved, and asks
// for the same, so much later.
func both(t *testing.T, g, moved impl.Gate, by int64, s step) (impl.Gate, impl.Gate) {
	t.Helper()
	next, is := s.on(g)
	nextMoved, isMoved := s.on(moved)
	if is.gone != (impl.Item{}) {
		is.gone.At += by
	}
	want, _ := movedByWords(next, by)
	if is != isMoved || !sameGate(nextMoved, want) {
		t.Fatalf("%+v, of %+v: %+v; moved by %d: %+v; %+v, not %+v", s, g, is, by, isMoved, nextMoved, want)
	}
	gateOkIs(t, nextMoved, true)
	movedIs(t, next, by, nextMoved, true)
	sameWaits(t, next, nextMoved, by)
	return next, nextMoved
}

// sameWaits asks for the same Dues, so much later: all but those that would
// come above MaxTime, of which none is told.
func sameWaits(t *testing.T, g, moved impl.Gate, by int64) {
	t.Helper()
	var want []impl.Due
	for _, d := range impl.Waits(g) {
		if d.Time+by <= mostTime {
			want = append(want, due(d.Time+by, d.Id))
		}
	}
	waitsIs(t, moved, want...)
}

func (d *drawer) step() step {
	switch k := d.below(12); {
	case k < 5:
		return step{kind: 0, text: d.someText(k)}
	case k < 9:
		return step{kind: 1}
	case k < 11:
		return step{kind: 2, wait: []int64{0, 1, d.below(9), d.below(300), -1 - d.below(9), d.below(100000)}[d.below(6)]}
	}
	return step{
		kind:   3,
		routes: [][]impl.Route{routesToAll(), {{Hop: d.below(100)}}, {{Net: 1 << 31, Bits: 1, Hop: d.below(100)}}, {{Bits: 33}}, nil}[d.below(5)],
		rules:  [][]impl.Rule{rulesToAll(), nil, d.rules(20, 5), {openRule(1000)}}[d.below(4)],
	}
}

// The promise: moved, it does the same so much later, whatever is done again
// and again in any order, and moved once more on the way.
func TestMovedItDoesTheSameSoMuchLater(t *testing.T) {
	draw := &drawer{state: 1818}
	const steps, longest = 40, 100000
	codes, gone, waited := map[int64]int{}, 0, 0
	for k, g := range earlyGates() {
		// The last of them may come just to the last time.
		for _, by := range []int64{0, 1, 999, 1 << 32, mostTime - latestOf(g) - steps*longest} {
			moved, all := firstOf(movedByWords(g, by)), by
			h := g
			for range steps {
				s := draw.step()
				count := len(slices.Concat(h.Rows.Lists...))
				if s.kind == 0 {
					_, code := impl.In(h, s.text)
					codes[code]++
				}
				h, moved = both(t, h, moved, all, s)
				if s.kind == 1 && len(slices.Concat(h.Rows.Lists...)) < count {
					gone++
				}
				if len(impl.Waits(h)) > 1 {
					waited++
				}
				if more := draw.below(5); k%3 == 0 && more > 2 && latestOf(moved)+more <= mostTime-steps*longest {
					moved, all = firstOf(impl.Moved(moved, more)), all+more
				}
			}
		}
	}
	for _, code := range []int64{0, impl.ErShort, impl.ErMore, impl.GtSum, impl.GtWay, impl.GtSteer, impl.GtFull} {
		if codes[code] < 20 {
			t.Fatalf("too few with code %d: %v", code, codes)
		}
	}
	if gone < 1000 || waited < 1000 {
		t.Fatalf("only %d went, %d times more than one waited", gone, waited)
	}
}

// Every one of the first steps of small gates, in any order.
func TestMovedAllFirstSteps(t *testing.T) {
	var walk func(g, moved impl.Gate, by int64, left int)
	walk = func(g, moved impl.Gate, by int64, left int) {
		if left == 0 {
			return
		}
		for _, s := range stepsOfAllKinds() {
			next, nextMoved := both(t, g, moved, by, s)
			walk(next, nextMoved, by, left-1)
		}
	}
	for _, leaves := range [][]int64{{2}, {0, 1, 2}} {
		g, _ := impl.NewGate(cellsLine(), treeOf([]int64{-1, 0, 1}, purse(9, 120, 60, 5), purse(7, 110, 55, 5)), leaves)
		g, _ = impl.Ruled(g, []impl.Route{{}}, rulesToAll())
		for _, by := range []int64{0, 7, mostTime - 5 - 4*4} {
			walk(g, firstOf(movedByWords(g, by)), by, 4)
		}
	}
}

// What can be done up to the last time can be done, so much ahead of it, with
// the one that was not moved, and what can't be done with the one that was
// moved would be above it.
func TestMovedNearTheLastTime(t *testing.T) {
	for _, g := range earlyGates() {
		by := mostTime - latestOf(g)
		moved, _ := impl.Moved(g, by)
		for _, now := range []int64{treeTime(g), (treeTime(g) + latestOf(g)) / 2, latestOf(g)} {
			next, done := impl.Later(g, now)
			later, doneMoved := impl.Later(moved, now+by)
			if done != doneMoved || !sameGate(later, firstOf(movedByWords(next, by))) {
				t.Fatalf("Later(%+v, %d) = %+v, %v", moved, now+by, later, doneMoved)
			}
			sameWaits(t, next, later, by)
		}
		laterIs(t, moved, mostTime+1, moved, false)
		sameWaits(t, g, moved, by)
		next, gone := untilNone(t, g)
		nextMoved, goneMoved := untilNone(t, moved)
		for k := range gone {
			gone[k].At += by
		}
		if !slices.Equal(gone, goneMoved) || !sameGate(nextMoved, firstOf(movedByWords(next, by))) {
			t.Fatalf("of %+v, moved by %d, %v go, not %v", g, by, goneMoved, gone)
		}
	}
}
