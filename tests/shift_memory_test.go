package tests

import (
	"slices"
	"testing"

	"loop.example/g00316/impl"
)

// shiftStays asks twice of each function: nothing that is answered shares
// memory with anything else, or changes it when it is written into.
func shiftStays(t *testing.T, g impl.Gate, by int64) {
	t.Helper()
	all := wholeGate(g)
	moved, done := impl.Moved(g, by)
	again, _ := impl.Moved(g, by)
	times, otherTimes := impl.Times(g), impl.Times(g)
	waits, otherWaits := impl.Waits(g), impl.Waits(g)
	noGateMemoryTwice(t, moved, again, g, impl.Gate{Leaves: times}, impl.Gate{Leaves: otherTimes})
	if inTwo(waits, otherWaits) {
		t.Fatalf("Waits(%+v) shares memory", g)
	}
	kept, keptTimes, keptWaits := keptGate(moved), slices.Clone(times), slices.Clone(waits)
	spoilGate(again)
	spoil(otherTimes, -1)
	spoil(otherWaits, due(-1, -1))
	if !sameGate(moved, kept) || !slices.Equal(times, keptTimes) || !slices.Equal(waits, keptWaits) {
		t.Fatalf("%+v, %v and %v have become %+v, %v and %v", kept, keptTimes, keptWaits, moved, times, waits)
	}
	spoilGate(moved)
	spoil(times, -1)
	spoil(waits, due(-1, -1))
	if !sameGate(wholeGate(g), all) {
		t.Fatalf("%+v has become %+v", all, wholeGate(g))
	}
	// Nothing is kept from call to call either.
	movedIs(t, g, by, kept, done)
	timesIs(t, g, keptTimes...)
	waitsIs(t, g, keptWaits...)
}

func TestShiftArgumentsStay(t *testing.T) {
	for _, g := range slices.Concat(fewGates(), earlyGates()) {
		for _, by := range []int64{0, 1, mostTime - latestOf(g), mostTime - latestOf(g) + 1, -1} {
			shiftStays(t, roomyGate(g), by)
		}
	}
	for _, g := range wrongGates() {
		shiftStays(t, roomyGate(g), 0)
		shiftStays(t, roomyGate(g), 5)
	}
}

func TestMovedListByList(t *testing.T) {
	for _, g := range []impl.Gate{someGate(8, 4, 1, plain(), 5000, 25), someGate(1, 0, 0, cellsLine(), 0, 7), someGate(2, 1, 2, plain(), 200000, 40)} {
		g = roomyGate(g)
		all := wholeGate(g)
		eachListAlone(t, func() impl.Gate { return firstOf(impl.Moved(g, 9)) })
		if !sameGate(wholeGate(g), all) {
			t.Fatalf("%+v has become %+v", all, wholeGate(g))
		}
	}
}

// Lists that lie in one another, and gates of one Tree, each have their own
// memory when they were moved, and each time is later once.
func TestMovedOfSharedLists(t *testing.T) {
	numbers := []int64{1, 2, 5, 6}
	room := []impl.Item{item(1, 1, 50), item(2, 2, 51), item(3, 1, 52), item(4, 2, 53), item(5, 9, 54)}
	g := inOneRoom(numbers, room)
	other := g
	other.Draw = 99
	keptRoom, keptNumbers, kept := slices.Clone(room), slices.Clone(numbers), keptGate(g)
	moved, done := impl.Moved(g, 8)
	want := [][]impl.Item{{item(1, 1, 58), item(2, 2, 59)}, {item(3, 1, 60), item(4, 2, 61)}}
	if !done || !slices.EqualFunc(moved.Rows.Lists, want, slices.Equal[[]impl.Item]) {
		t.Fatalf("Moved(%+v, 8) = %+v", g, moved)
	}
	movedOther, _ := impl.Moved(other, 8)
	noGateMemoryTwice(t, moved, movedOther, impl.Gate{Leaves: numbers, Rows: rowsOf(1, room), Tree: g.Tree})
	spoilGate(moved)
	if !slices.Equal(room, keptRoom) || !slices.Equal(numbers, keptNumbers) || !sameGate(g, kept) {
		t.Fatalf("%v, %v and %+v have become %v, %v and %+v", keptRoom, keptNumbers, kept, room, numbers, g)
	}
	movedIs(t, other, 8, movedOther, true)
}

// What was moved and what was not go different ways.
func TestMovedGatesPartWays(t *testing.T) {
	g := someGate(8, 4, 1, plain(), 5000, 25)
	g.Rows.Most = 200
	for step := range int64(20) {
		kept := keptGate(g)
		moved, _ := movedAsByWords(t, g, 3)
		next, _ := inAsByWords(t, moved, textTo(wayTo(step%4), 100+step, 4))
		next, _, _ = outAsByWords(t, next)
		noGateMemoryTwice(t, g, moved, next)
		spoilGate(moved)
		if !sameGate(g, kept) {
			t.Fatalf("%+v has become %+v", kept, g)
		}
		g = next
	}
}
