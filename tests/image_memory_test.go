package tests

import (
	"slices"
	"strings"
	"testing"

	"loop.example/g00316/impl"
)

// gateLists writes into one list of a gate after another, spare room too.
func gateLists(g impl.Gate) []func() {
	list := []func(){
		func() { spoil(g.Routes, impl.Route{Net: -1}) },
		func() { spoil(g.Rules, impl.Rule{Id: -2}) },
		func() { spoil(g.Tree, impl.Node{Up: -3}) },
		func() { spoil(g.Leaves, -4) },
		func() { spoil(g.Steers, steer(-5, -5, -5)) },
	}
	for leaf := range g.Rows.Lists {
		items, sizes := g.Rows.Lists[leaf], g.Fair.Flows[leaf].Sizes
		list = append(list, func() { spoil(items, item(-6, -6, -6)) }, func() { spoil(sizes, -7) })
	}
	return append(list, func() { spoil(g.Rows.Lists, nil) }, func() { spoil(g.Fair.Flows, payer(-8, -8)) })
}

// partsOf are the lists of a gate, each as a text of its own.
func partsOf(g impl.Gate) []string {
	list := []string{}
	for _, part := range []impl.Gate{{Routes: g.Routes}, {Rules: g.Rules}, {Tree: g.Tree}, {Leaves: g.Leaves}} {
		list = append(list, aheadByWords(part))
	}
	var steers []int64
	for _, s := range g.Steers {
		steers = append(steers, s.Target, s.Old, s.Prob)
	}
	list = append(list, textLine(steers...))
	for leaf, items := range g.Rows.Lists {
		list = append(list, aheadByWords(impl.Gate{Rows: rowsOf(1, items)}), textLine(g.Fair.Flows[leaf].Sizes...))
	}
	return list
}

// eachListAlone writes into one list after another of what is made: all others
// of it stay, and so does what was made ahead.
func eachListAlone(t *testing.T, made func() impl.Gate) {
	t.Helper()
	other := made()
	keptOther, parts := keptGate(other), partsOf(other)
	for k := range gateLists(other) {
		g := made()
		kept := g
		kept.Rows.Lists, kept.Fair.Flows = slices.Clone(g.Rows.Lists), slices.Clone(g.Fair.Flows)
		gateLists(g)[k]()
		for at, part := range partsOf(kept) {
			if at != k && part != parts[at] {
				t.Fatalf("list %d was written into, list %d has become %q, not %q", k, at, part, parts[at])
			}
		}
		if !sameGate(other, keptOther) {
			t.Fatalf("list %d was written into: %+v has become %+v", k, keptOther, other)
		}
	}
}

func TestImageArgumentsStay(t *testing.T) {
	gates := slices.Concat(fewGates(), []impl.Gate{handGate(), bareGate(), looseGate()})
	for _, g := range wrongGates() {
		gates = append(gates, g)
	}
	for _, x := range gates {
		g := roomyGate(x)
		all := wholeGate(g)
		s := impl.Image(g)
		kept := strings.Clone(s)
		if !sameGate(wholeGate(g), all) {
			t.Fatalf("%+v has become %+v", all, wholeGate(g))
		}
		// It goes by the gate alone, whatever was asked ahead or lies behind.
		imageIs(t, g, s)
		imageIs(t, keptGate(x), s)
		spoilGate(g)
		if s != kept {
			t.Fatalf("%q has become %q", kept, s)
		}
	}
}

// Lists that lie in one another, and one Tree for two gates.
func TestImageOfSharedLists(t *testing.T) {
	numbers, room := []int64{1, 2, 5, 6}, []impl.Item{item(1, 1, 50), item(2, 2, 50), item(3, 1, 50), item(4, 2, 50), item(5, 9, 50)}
	g := inOneRoom(numbers, room)
	back := heldAsImage(t, g)
	noGateMemoryTwice(t, back, impl.Gate{Leaves: numbers, Rows: rowsOf(1, room)})
	spoilGate(back)
	if !slices.Equal(numbers, []int64{1, 2, 5, 6}) || !slices.Equal(room, []impl.Item{item(1, 1, 50), item(2, 2, 50), item(3, 1, 50), item(4, 2, 50), item(5, 9, 50)}) {
		t.Fatalf("%v, %v", numbers, room)
	}
	other := g
	other.Draw = 99
	imageIs(t, other, imageByWords(other))
	imageIs(t, g, imageByWords(g))
}

// What is read owns its memory: nothing of it lies in another answer, nor any
// list of it in another list of it.
func TestFromImageIsNewMemory(t *testing.T) {
	for _, s := range richImages() {
		first, _ := impl.FromImage(s)
		again, _ := impl.FromImage(s)
		kept := keptGate(first)
		noGateMemoryTwice(t, first, again)
		spoilGate(again)
		if !sameGate(first, kept) {
			t.Fatalf("%+v has become %+v", kept, first)
		}
		// Nothing is kept from call to call either.
		fromImageIs(t, s, kept, true)
		spoilGate(first)
		fromImageIs(t, s, kept, true)
		imageIs(t, kept, s)
	}
}

func TestFromImageListByList(t *testing.T) {
	for _, s := range richImages() {
		eachListAlone(t, func() impl.Gate { return firstOf(impl.FromImage(s)) })
	}
}

// The gate that is written down and the one that is read go different ways.
func TestReadGatesPartWays(t *testing.T) {
	g := someGate(8, 4, 1, plain(), 5000, 25)
	g.Rows.Most = 200
	for step := range int64(20) {
		kept := keptGate(g)
		back := heldAsImage(t, g)
		noGateMemoryTwice(t, g, back)
		gateStays(t, back, textTo(wayTo(step%4), 100+step, 4), treeTime(g)+step%3, routesToAll(), rulesToAll())
		next, _ := inAsByWords(t, back, textTo(wayTo(step%4), 100+step, 4))
		spoilGate(back)
		if !sameGate(g, kept) {
			t.Fatalf("%+v has become %+v", kept, g)
		}
		g = laterAsByWords(t, next, treeTime(next)+step%2)
	}
}

// A text that is not read brings nothing, twice.
func TestFromImageOfWrongTextsKeepsNothing(t *testing.T) {
	for _, s := range richImages() {
		first, _ := impl.FromImage(s)
		kept := keptGate(first)
		for _, wrong := range []string{s[:len(s)-1], s[1:], s + s, s + "\n", withCheck(s), "", aheadOf(s)} {
			noImage(t, wrong)
			noImage(t, wrong)
			fromImageIs(t, s, kept, true)
		}
		if !sameGate(first, kept) {
			t.Fatalf("%+v has become %+v", kept, first)
		}
	}
}
