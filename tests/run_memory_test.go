package tests

import (
	"slices"
	"testing"

	"loop.example/g00316/impl"
)

func sameAct(a, b impl.Act) bool {
	return a.Kind == b.Kind && a.Text == b.Text && a.N == b.N && slices.Equal(a.Routes, b.Routes) && slices.Equal(a.Rules, b.Rules)
}

// roomyActs have spare room behind each list, and behind themselves.
func roomyActs(list []impl.Act) []impl.Act {
	list = withRoom(list, impl.Act{Kind: 5, N: 9}, impl.Act{Kind: 1, Text: "behind"})
	for k := range list {
		list[k].Routes = withRoom(list[k].Routes, impl.Route{Hop: 51}, impl.Route{Hop: 52})
		list[k].Rules = withRoom(list[k].Rules, openRule(951), openRule(952))
	}
	return list
}

// wholeActs is all of them as new memory, each spare room among it.
func wholeActs(list []impl.Act) []impl.Act {
	all := whole(list)
	for k := range all {
		all[k].Routes, all[k].Rules = whole(all[k].Routes), whole(all[k].Rules)
	}
	return all
}

// listsOf are the lists of Acts, as gates that have nothing else.
func listsOf(list []impl.Act) []impl.Gate {
	var gates []impl.Gate
	for _, a := range list {
		gates = append(gates, impl.Gate{Routes: a.Routes, Rules: a.Rules})
	}
	return gates
}

// runStays asks twice of Did and of Run: nothing that is answered shares
// memory with anything else, or changes it when it is written into.
func runStays(t *testing.T, g impl.Gate, list []impl.Act) {
	t.Helper()
	g, list = roomyGate(g), roomyActs(list)
	all, allActs := wholeGate(g), wholeActs(list)
	last, told := impl.Run(g, list)
	again, toldAgain := impl.Run(g, list)
	made := []impl.Gate{last, again}
	for _, a := range list {
		first, _ := impl.Did(g, a)
		second, _ := impl.Did(g, a)
		made = append(made, first, second)
	}
	noGateMemoryTwice(t, slices.Concat(made, listsOf(list), []impl.Gate{g})...)
	if inTwo(told, toldAgain) {
		t.Fatalf("Run(%+v, %+v) shares memory", g, list)
	}
	var kept []impl.Gate
	for _, x := range made {
		kept = append(kept, keptGate(x))
	}
	keptTold := slices.Clone(told)
	spoil(toldAgain, doneOf(-1, -2, -3, -4))
	for k := range made {
		if k%2 == 1 {
			spoilGate(made[k])
		}
	}
	for k := range made {
		if k%2 == 0 && !sameGate(made[k], kept[k]) {
			t.Fatalf("%+v has become %+v", kept[k], made[k])
		}
	}
	if !slices.Equal(told, keptTold) {
		t.Fatalf("%+v has become %+v", keptTold, told)
	}
	spoil(told, doneOf(-1, -2, -3, -4))
	for k := range made {
		spoilGate(made[k])
	}
	if !sameGate(wholeGate(g), all) || !slices.EqualFunc(wholeActs(list), allActs, sameAct) {
		t.Fatalf("%+v and %+v have become %+v and %+v", all, allActs, wholeGate(g), wholeActs(list))
	}
	// Nothing is kept from call to call either.
	runIs(t, g, list, kept[0], keptTold)
	for k, a := range list {
		if next, _ := impl.Did(g, a); !sameGate(next, kept[2+2*k]) {
			t.Fatalf("Did(%+v, %+v) = %+v, then %+v", g, a, kept[2+2*k], next)
		}
	}
}

func TestRunArgumentsStay(t *testing.T) {
	draw := &drawer{state: 1930}
	for _, g := range slices.Concat(fewGates(), []impl.Gate{goodGate(), handGate(), bareGate()}) {
		runStays(t, g, actsOfAllKinds(g))
		runStays(t, g, draw.acts(10))
		runStays(t, g, []impl.Act{ruleAct(routesToAll(), rulesToAll()), comeAct(textTo(0, 100, 4)), goAct()})
	}
	for _, g := range wrongGates() {
		runStays(t, g, []impl.Act{comeAct(textTo(0, 0, 0)), ruleAct(routesToAll(), rulesToAll()), {}})
	}
}

// Of each Kind alone, and of none: also what is as it is, is new memory.
func TestRunOfFewIsNewMemory(t *testing.T) {
	for _, g := range []impl.Gate{someGate(8, 4, 1, plain(), 5000, 25), someGate(1, 0, 0, cellsLine(), 0, 7), goodGate()} {
		runStays(t, g, nil)
		for _, a := range actsOfAllKinds(g) {
			runStays(t, g, []impl.Act{a})
			runStays(t, g, []impl.Act{a, a})
		}
		runStays(t, g, make([]impl.Act, mostActs+1))
	}
	// With what it has already.
	g := roomyGate(someGate(2, 1, 2, plain(), 5000, 7))
	ruled, _ := impl.Did(g, ruleAct(g.Routes, g.Rules))
	last, _ := impl.Run(g, []impl.Act{ruleAct(g.Routes, g.Rules)})
	noGateMemoryTwice(t, g, ruled, last)
	if !sameGate(ruled, g) || !sameGate(last, g) {
		t.Fatalf("%+v, %+v", ruled, last)
	}
}

func TestRunListByList(t *testing.T) {
	g := roomyGate(someGate(8, 4, 1, plain(), 5000, 25))
	list := roomyActs([]impl.Act{ruleAct(routesToAll(), rulesToAll()), comeAct(textTo(0, 100, 4)), goAct(), saveAct(), tickAct(2), {}})
	all, allActs := wholeGate(g), wholeActs(list)
	eachListAlone(t, func() impl.Gate { return firstOf(impl.Run(g, list)) })
	eachListAlone(t, func() impl.Gate { return firstOf(impl.Run(g, nil)) })
	for _, a := range list {
		eachListAlone(t, func() impl.Gate { return firstOf(impl.Did(g, a)) })
	}
	if !sameGate(wholeGate(g), all) || !slices.EqualFunc(wholeActs(list), allActs, sameAct) {
		t.Fatalf("%+v and %+v have become %+v and %+v", all, allActs, wholeGate(g), wholeActs(list))
	}
}

// One list of Routes and of Rules for many Acts, and lists that lie in one
// another, are no common ground.
func TestRunOfSharedLists(t *testing.T) {
	numbers := []int64{1, 2, 5, 6}
	room := []impl.Item{item(1, 1, 50), item(2, 2, 50), item(3, 1, 50), item(4, 2, 50), item(5, 9, 50)}
	g := inOneRoom(numbers, room)
	routes, rules := withRoom(routesToAll(), impl.Route{Hop: 51}), withRoom(rulesToAll(), openRule(951))
	keptRoom, keptNumbers, kept := slices.Clone(room), slices.Clone(numbers), keptGate(g)
	allRoutes, allRules := whole(routes), whole(rules)
	list := []impl.Act{ruleAct(routes, rules), comeAct(textTo(0, 100, 2)), ruleAct(routes, rules), goAct(), saveAct(), tickAct(1), ruleAct(routes, rules[:3])}
	want, _ := runAsByWords(t, g, list)
	last, told := impl.Run(g, list)
	again, _ := impl.Run(g, list)
	noGateMemoryTwice(t, last, again, impl.Gate{Leaves: numbers, Rows: rowsOf(1, room), Tree: g.Tree}, impl.Gate{Routes: routes, Rules: rules})
	spoilGate(last)
	spoil(told, impl.Done{})
	if !sameGate(again, want) || !slices.Equal(room, keptRoom) || !slices.Equal(numbers, keptNumbers) || !sameGate(g, kept) ||
		!slices.Equal(whole(routes), allRoutes) || !slices.Equal(whole(rules), allRules) {
		t.Fatalf("%+v, %v, %v, %v and %v have become others", kept, room, numbers, routes, rules)
	}
	runAsByWords(t, g, list)
}

// What was run and what was not go different ways.
func TestRunsPartWays(t *testing.T) {
	draw := &drawer{state: 1931}
	g := someGate(8, 4, 1, plain(), 5000, 25)
	g.Rows.Most = 200
	for range 20 {
		kept, list := keptGate(g), draw.acts(6)
		next, _ := runAsByWords(t, g, list)
		spare, _ := impl.Run(g, list)
		spoilGate(spare)
		made, _ := impl.Run(g, list)
		noGateMemoryTwice(t, g, made, spare)
		if !sameGate(g, kept) || !sameGate(made, next) {
			t.Fatalf("%+v has become %+v; %+v, not %+v", kept, g, made, next)
		}
		g = made
	}
}

func TestGoneAndSentArgumentsStay(t *testing.T) {
	list := withRoom([]impl.Done{doneOf(2, 0, 5, 9), doneOf(1, 0, 6, 9), doneOf(2, -1, 0, 9), doneOf(2, 3, 6, 10)}, doneOf(2, 0, 9, 9))
	sizes := withRoom([]impl.Item{item(6, -5, 0), item(5, mostSize+9, 0), item(6, 8, 0)}, item(9, 70, 0))
	allList, allSizes := whole(list), whole(sizes)
	first, again := impl.Gone(list), impl.Gone(list)
	if inTwo(first, again) {
		t.Fatal("Gone shares memory")
	}
	spoil(again, -1)
	if !slices.Equal(first, []int64{5, 6}) {
		t.Fatal(first)
	}
	sentIs(t, list, sizes, mostSize)
	spoil(first, -1)
	sentIs(t, list, sizes, mostSize)
	goneIs(t, list, 5, 6)
	if !slices.Equal(whole(list), allList) || !slices.Equal(whole(sizes), allSizes) {
		t.Fatalf("%v and %v have become %v and %v", allList, allSizes, whole(list), whole(sizes))
	}
	// It goes by the lists alone, whatever lies behind them.
	spoil(list[len(list):cap(list)][:1], doneOf(2, 0, 5, 9))
	goneIs(t, list, 5, 6)
}
