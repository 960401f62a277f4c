package tests

import (
	"slices"
	"testing"

	"loop.example/g00316/impl"
)

// withRoom has spare room behind it, with these written there.
func withRoom[T any](list []T, behind ...T) []T {
	room := make([]T, 0, len(list)+len(behind))
	return append(append(room, list...), behind...)[:len(list)]
}

// whole is all of a list, the spare room among it, as new memory.
func whole[T any](list []T) []T { return append([]T{}, list[:cap(list)]...) }

func spoil[T any](list []T, by T) {
	for k := range list[:cap(list)] {
		list[:cap(list)][k] = by
	}
}

// roomyGate is the same with spare room behind each list.
func roomyGate(g impl.Gate) impl.Gate {
	g.Routes = withRoom(g.Routes, impl.Route{Net: 3 << 30, Bits: 4, Hop: 55}, impl.Route{Hop: 56})
	g.Rules = withRoom(g.Rules, openRule(901), openRule(902))
	g.Tree = roomyTree(g.Tree)
	g.Leaves = withRoom(g.Leaves, 903, 904)
	g.Rows = roomy(g.Rows)
	g.Steers = withRoom(g.Steers, steer(905, 906, 907), steer(908, 909, 910))
	g.Fair = roomyFair(g.Fair)
	return g
}

// wholeGate is all of it as new memory, each spare room among it.
func wholeGate(g impl.Gate) impl.Gate {
	g.Routes, g.Rules = whole(g.Routes), whole(g.Rules)
	g.Tree, g.Leaves, g.Steers = whole(g.Tree), whole(g.Leaves), whole(g.Steers)
	g.Rows.Lists = wholeRoom(g.Rows)
	g.Fair = wholeFair(g.Fair)
	return g
}

func spoilGate(g impl.Gate) {
	spoil(g.Routes, impl.Route{Net: -71, Bits: -72, Hop: -73})
	spoil(g.Rules, impl.Rule{Id: -74, Proto: -75})
	spoilTree(g.Tree)
	spoil(g.Leaves, -76)
	spoilRows(g.Rows)
	spoil(g.Steers, steer(-77, -78, -79))
	spoilFair(g.Fair)
}

// noGateMemoryTwice asks of all lists of all gates together.
func noGateMemoryTwice(t *testing.T, gates ...impl.Gate) {
	t.Helper()
	var routes [][]impl.Route
	var rules [][]impl.Rule
	var trees [][]impl.Node
	var numbers [][]int64
	var steers [][]impl.Steer
	var rows []impl.Rows
	var fairs []impl.Fairness
	for _, g := range gates {
		routes, rules, trees = append(routes, g.Routes), append(rules, g.Rules), append(trees, g.Tree)
		numbers, steers = append(numbers, g.Leaves), append(steers, g.Steers)
		for _, x := range g.Fair.Flows[:cap(g.Fair.Flows)] {
			numbers = append(numbers, x.Sizes)
		}
		rows, fairs = append(rows, g.Rows), append(fairs, g.Fair)
	}
	if inTwo(routes...) || inTwo(rules...) || inTwo(trees...) || inTwo(numbers...) || inTwo(steers...) {
		t.Fatalf("%+v share memory", gates)
	}
	eachOwnMemory(t, rows...)
	noFairMemoryTwice(t, fairs...)
}

// allMade are what all functions make of a gate, whatever it is.
func allMade(g impl.Gate, s string, now int64, routes []impl.Route, rules []impl.Rule) []impl.Gate {
	in, _ := impl.In(g, s)
	out, _, _ := impl.Out(g)
	later, _ := impl.Later(g, now)
	ruled, _ := impl.Ruled(g, routes, rules)
	fresh, _ := impl.NewGate(g.Line, g.Tree, g.Leaves)
	return []impl.Gate{in, out, later, ruled, fresh}
}

// gateStays asks twice of each function: nothing that is answered shares
// memory with anything else, or changes it when it is written into.
func gateStays(t *testing.T, g impl.Gate, s string, now int64, routes []impl.Route, rules []impl.Rule) {
	t.Helper()
	all, allRoutes, allRules := wholeGate(g), whole(routes), whole(rules)
	ok := impl.GateOk(g)
	made, again := allMade(g, s, now, routes, rules), allMade(g, s, now, routes, rules)
	given := impl.Gate{Routes: routes, Rules: rules}
	noGateMemoryTwice(t, slices.Concat(made, again, []impl.Gate{g, given})...)
	var kept []impl.Gate
	for k := range made {
		kept = append(kept, keptGate(made[k]))
	}
	for k := range again {
		spoilGate(again[k])
		for other := range made {
			if !sameGate(made[other], kept[other]) {
				t.Fatalf("%+v has become %+v", kept[other], made[other])
			}
		}
	}
	for k := range made {
		spoilGate(made[k])
		for other := k + 1; other < len(made); other++ {
			if !sameGate(made[other], kept[other]) {
				t.Fatalf("%+v has become %+v", kept[other], made[other])
			}
		}
	}
	if !sameGate(wholeGate(g), all) || !slices.Equal(whole(routes), allRoutes) || !slices.Equal(whole(rules), allRules) {
		t.Fatalf("%+v, %v and %v have become %+v, %v and %v", all, allRoutes, allRules, g, routes, rules)
	}
	// Nothing is kept from call to call either.
	gateOkIs(t, g, ok)
	for k, x := range allMade(g, s, now, routes, rules) {
		if !sameGate(x, kept[k]) {
			t.Fatalf("of %+v: %+v, then %+v", g, kept[k], x)
		}
	}
}

func TestGateArgumentsStay(t *testing.T) {
	draw := &drawer{state: 1600}
	for k, g := range rightGates() {
		if k%3 > 0 {
			continue
		}
		routes, rules := withRoom(routesToAll(), impl.Route{Hop: 77}), withRoom(rulesToAll(), openRule(77))
		gateStays(t, roomyGate(g), draw.someText(0), treeTime(g)+draw.below(200), routes, rules)
	}
	for _, g := range wrongGates() {
		gateStays(t, roomyGate(g), textTo(0, 0, 5), 100, withRoom(routesToAll()), rulesToAll())
	}
}

// Each code of In, and all that leaves a gate as it is, answers new memory.
func TestGateAsItIsIsNewMemory(t *testing.T) {
	for _, x := range troubles() {
		g, s := troubled(x)
		gateStays(t, roomyGate(g), s, treeTime(g)-1, []impl.Route{{Hop: 100}}, rulesToAll())
		gateStays(t, roomyGate(g), s, mostTime+1, routesToAll(), []impl.Rule{{}})
		gateStays(t, roomyGate(g), s, treeTime(g), nil, nil)
	}
	// Nothing goes: what can't be paid, and what can't be Served.
	for _, change := range []func(g *impl.Gate){
		func(g *impl.Gate) { g.Tree[0].Purse.Level = 0 },
		func(g *impl.Gate) { g.Fair.Now = mostFair },
		func(g *impl.Gate) { g.Tree[1].Purse.Level, g.Tree[2].Purse.Level = 29, 29 },
	} {
		g := laden(laden(goodGate(), 0, item(1, 30, 70)), 1, item(2, 30, 70))
		g = roomyGate(withGate(g, change))
		outIs(t, g, keptGate(g), impl.Item{}, -1)
		gateStays(t, g, textTo(0, 0, 1), 70, withRoom(g.Routes), withRoom(g.Rules))
	}
	// With what it has already.
	g := roomyGate(someGate(8, 4, 1, plain(), 5000, 25))
	ruledIs(t, g, g.Routes, g.Rules, keptGate(g), true)
	ruled, _ := impl.Ruled(g, g.Routes, g.Rules)
	noGateMemoryTwice(t, g, ruled)
}

// One Tree and one list of Leaves, given to two gates, are no common ground.
func TestGatesOfOneTree(t *testing.T) {
	for n := 1; n <= mostLeaves; n++ {
		tree := roomyTree(treeOf(upShapes(mostNodes)[4], purse(5, 3000, 2000, 50)))
		leaves := withRoom(leavesOf(n, mostNodes, 0), 903, 904)
		allTree, allLeaves := whole(tree), whole(leaves)
		one, _ := impl.NewGate(plain(), tree, leaves)
		other, _ := impl.NewGate(plain(), tree, leaves)
		noGateMemoryTwice(t, one, other, impl.Gate{Tree: tree, Leaves: leaves})
		kept := keptGate(other)
		// What is done with the one is not seen in the other.
		routes := routesToAll()
		one = ruledAsByWords(t, one, routes, rulesToAll())
		for dport := range int64(24) {
			one, _ = inAsByWords(t, one, textTo(0, 96+dport, 3))
		}
		one, _ = untilNone(t, laterAsByWords(t, one, 60))
		spoilGate(one)
		if !sameGate(other, kept) || !sameGate(kept, gateOf(plain(), allTree[:mostNodes], allLeaves[:n]...)) {
			t.Fatalf("%+v has become %+v", kept, other)
		}
		// Nor is it where gates come with one Tree and one list of Leaves.
		first := ruledAsByWords(t, gateOf(plain(), tree, leaves...), routes, nil)
		first.Tree, first.Leaves = tree, leaves
		second := gateOf(cellsLine(), tree, leaves...)
		second.Leaves, second.Routes = leaves, first.Routes
		for _, g := range []impl.Gate{first, second} {
			keptFirst, keptSecond := keptGate(first), keptGate(second)
			for _, x := range allMade(g, textTo(0, 0, 1), 55, routes, nil) {
				noGateMemoryTwice(t, x, first)
				noGateMemoryTwice(t, x, second)
				spoilGate(x)
			}
			if !sameGate(first, keptFirst) || !sameGate(second, keptSecond) {
				t.Fatalf("%+v and %+v have become %+v and %+v", keptFirst, keptSecond, first, second)
			}
		}
		if !slices.Equal(whole(tree), allTree) || !slices.Equal(whole(leaves), allLeaves) || !slices.Equal(routes, routesToAll()) {
			t.Fatalf("%v and %v have become %v and %v", allTree, allLeaves, whole(tree), whole(leaves))
		}
	}
}

// inOneRoom has Leaves and Sizes that are one list, and Lists that lie in one.
func inOneRoom(numbers []int64, room []impl.Item) impl.Gate {
	g := gateOf(plain(), treeOf(starUps(3), purse(5, 3000, 2000, 50)), 1, 2)
	g.Routes, g.Rules, g.Next = routesToAll(), rulesToAll(), 6
	g.Leaves = numbers[:2]
	g.Rows.Lists = [][]impl.Item{room[:2], room[2:4]}
	g.Fair.Flows[0].Sizes, g.Fair.Flows[1].Sizes = numbers[:2], numbers[:2]
	return g
}

// Such lists each have their own memory in the answer.
func TestGateOfSharedLists(t *testing.T) {
	numbers := []int64{1, 2, 5, 6}
	room := []impl.Item{item(1, 1, 50), item(2, 2, 50), item(3, 1, 50), item(4, 2, 50), item(5, 9, 50)}
	g := inOneRoom(numbers, room)
	gateOkIs(t, g, true)
	keptRoom, keptNumbers := slices.Clone(room), slices.Clone(numbers)
	for _, s := range []string{textTo(0, 100, 2), textTo(0, 101, 2), textTo(0, 0, 0)[:9]} {
		inAsByWords(t, g, s)
		outAsByWords(t, g)
		laterAsByWords(t, g, 53)
		ruledAsByWords(t, g, nil, nil)
		for _, x := range allMade(g, s, 53, nil, nil) {
			noGateMemoryTwice(t, x, impl.Gate{Leaves: numbers, Rows: rowsOf(1, room)})
			spoilGate(x)
		}
		if !slices.Equal(room, keptRoom) || !slices.Equal(numbers, keptNumbers) {
			t.Fatalf("%v and %v have become %v and %v", keptRoom, keptNumbers, room, numbers)
		}
	}
}

// What came first is not changed by what is made of it, twice.
func TestGatesPartWays(t *testing.T) {
	g := someGate(8, 4, 1, plain(), 5000, 25)
	g.Rows.Most = 200
	for step := range int64(20) {
		made := allMade(g, textTo(wayTo(step%4), 100+step, 4), treeTime(g)+step%3, routesToAll(), rulesToAll())
		next := allMade(made[step%3], textTo(wayTo(step%4), 101+step, 4), treeTime(g)+step, routesToAll(), nil)
		noGateMemoryTwice(t, slices.Concat(made, next, []impl.Gate{g})...)
		kept, keptFirst := keptGate(made[step%3]), keptGate(g)
		for k, x := range append(next, made...) {
			if k != len(next)+int(step%3) {
				spoilGate(x)
			}
		}
		if !sameGate(made[step%3], kept) || !sameGate(g, keptFirst) {
			t.Fatalf("%+v and %+v have become %+v and %+v", keptFirst, kept, g, made[step%3])
		}
		g = made[step%3]
	}
}
