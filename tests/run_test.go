package tests

import (
	"math"
	"slices"
	"strings"
	"testing"

	"loop.example/g00316/impl"
)

const mostActs = 200

func comeAct(s string) impl.Act { return impl.Act{Kind: 1, Text: s} }

func goAct() impl.Act { return impl.Act{Kind: 2} }

func tickAct(n int64) impl.Act { return impl.Act{Kind: 3, N: n} }

func ruleAct(routes []impl.Route, rules []impl.Rule) impl.Act {
	return impl.Act{Kind: 4, Routes: routes, Rules: rules}
}

func saveAct() impl.Act { return impl.Act{Kind: 5} }

func doneOf(kind, code, id, at int64) impl.Done {
	return impl.Done{Kind: kind, Code: code, Id: id, Time: at}
}

// didByWords relies on a right gate.
func didByWords(g impl.Gate, a impl.Act) (impl.Gate, impl.Done) {
	next, code, id := keptGate(g), int64(-1), int64(0)
	switch a.Kind {
	case 1:
		if next, code = inByWords(g, a.Text); code == 0 {
			id = next.Next - 1
		}
	case 2:
		var gone impl.Item
		next, gone, code = outByWords(g)
		id = gone.Id
	case 3:
		if within(a.N, 0, mostTime-treeTime(g)) {
			next, _ = laterByWords(g, treeTime(g)+a.N)
			code = 0
		}
	case 4:
		if rightRoutesByText(a.Routes) && rightRulesByText(a.Rules) {
			next, _ = ruledByWords(g, a.Routes, a.Rules)
			code = 0
		}
	case 5:
		if back, done := readByWords(imageByWords(g)); done {
			next, code = back, 0
		}
	}
	return next, doneOf(a.Kind, code, id, treeTime(next))
}

// didAsTold is what the functions of the chapters ahead tell of the same gate.
func didAsTold(g impl.Gate, a impl.Act) (impl.Gate, impl.Done) {
	next, code, id, done := g, int64(-1), int64(0), false
	switch a.Kind {
	case impl.AcIn:
		next, code = impl.In(g, a.Text)
		if code == 0 {
			id = g.Next
		}
		return next, doneOf(a.Kind, code, id, treeTime(next))
	case impl.AcOut:
		var gone impl.Item
		next, gone, code = impl.Out(g)
		return next, doneOf(a.Kind, code, gone.Id, treeTime(next))
	case impl.AcLater:
		next, done = impl.Later(g, min(max(a.N, -1), mostTime+1)+treeTime(g))
	case impl.AcRule:
		next, done = impl.Ruled(g, a.Routes, a.Rules)
	case impl.AcSave:
		next, done = impl.FromImage(impl.Image(g))
	}
	if done {
		code = 0
	}
	return next, doneOf(a.Kind, code, 0, treeTime(next))
}

func didIs(t *testing.T, g impl.Gate, a impl.Act, want impl.Gate, wantDone impl.Done) {
	t.Helper()
	got, done := impl.Did(g, a)
	if !sameGate(got, want) || done != wantDone {
		t.Fatalf("Did(%+v, %+v) = %+v, %+v, want %+v, %+v", g, a, got, done, want, wantDone)
	}
}

// didAsByWords is held against the words and against the functions; what is
// answered is right.
func didAsByWords(t *testing.T, g impl.Gate, a impl.Act) (impl.Gate, impl.Done) {
	t.Helper()
	next, done := didByWords(g, a)
	didIs(t, g, a, next, done)
	told, doneAsTold := didAsTold(g, a)
	didIs(t, g, a, told, doneAsTold)
	gateOkIs(t, next, true)
	return next, done
}

func runIs(t *testing.T, g impl.Gate, list []impl.Act, want impl.Gate, wantTold []impl.Done) {
	t.Helper()
	got, told := impl.Run(g, list)
	if !sameGate(got, want) || !slices.Equal(told, wantTold) {
		t.Fatalf("Run(%+v, %+v) = %+v, %+v, want %+v, %+v", g, list, got, told, want, wantTold)
	}
}

// oneByOne is what Did tells of one Act after another.
func oneByOne(g impl.Gate, list []impl.Act) (impl.Gate, []impl.Done) {
	var told []impl.Done
	for _, a := range list {
		next, done := impl.Did(g, a)
		g, told = next, append(told, done)
	}
	return g, told
}

// runAsByWords is held against the words, and against Did.
func runAsByWords(t *testing.T, g impl.Gate, list []impl.Act) (impl.Gate, []impl.Done) {
	t.Helper()
	next, want := g, []impl.Done{}
	for _, a := range list {
		var done impl.Done
		next, done = didByWords(next, a)
		want = append(want, done)
	}
	runIs(t, g, list, next, want)
	last, told := oneByOne(g, list)
	runIs(t, g, list, last, told)
	gateOkIs(t, next, true)
	return next, want
}

// asAct is the same step as an Act.
func (s step) asAct() impl.Act {
	return impl.Act{Kind: s.kind + 1, Text: s.text, N: s.wait, Routes: s.routes, Rules: s.rules}
}

// act is of any Kind, and now and then of none.
func (d *drawer) act() impl.Act {
	switch d.below(14) {
	case 0:
		return saveAct()
	case 1:
		return impl.Act{Kind: []int64{0, 6, -1, 7, 5 << 32}[d.below(5)], N: d.below(9), Text: textTo(0, 0, 0), Routes: routesToAll()}
	}
	return d.step().asAct()
}

func (d *drawer) acts(n int) []impl.Act {
	var list []impl.Act
	for range n {
		list = append(list, d.act())
	}
	return list
}

// actsOfAllKinds are some of each Kind that do something, and some that don't.
func actsOfAllKinds(g impl.Gate) []impl.Act {
	list := []impl.Act{
		comeAct(textTo(0, 100, 0)), comeAct(textTo(wayTo(1), 101, 9)), comeAct(textTo(wayTo(3), 115, 1500)),
		comeAct(""), comeAct(textTo(0, 100, 0)[:9]), comeAct(textTo(0, 100, 3) + "a"), comeAct("what is this?"),
		goAct(), saveAct(),
		ruleAct(nil, nil), ruleAct(routesToAll(), rulesToAll()), ruleAct(fullRoutes(), numbered(openRule(1), 1, 40)),
		ruleAct([]impl.Route{{Bits: 33}}, nil), ruleAct(nil, []impl.Rule{{}}), ruleAct([]impl.Route{{Hop: 100}}, []impl.Rule{openRule(1000)}),
		{}, {Kind: 6}, {Kind: -1},
	}
	left := mostTime - treeTime(g)
	for _, n := range []int64{0, 1, 7, 5000, left - 1, left, left + 1, -1} {
		list = append(list, tickAct(n))
	}
	return list
}

func TestActKinds(t *testing.T) {
	if impl.AcIn != 1 || impl.AcOut != 2 || impl.AcLater != 3 || impl.AcRule != 4 || impl.AcSave != 5 {
		t.Fatal("the Kinds are others")
	}
}

// runGate has two leaves, and nobody leads to them.
func runGate() impl.Gate {
	return gateOf(cellsLine(), treeOf([]int64{-1, 0, 0}, purse(10, 500, 60, 7), purse(20, 300, 100, 7), purse(1, 300, 106, 7)), 1, 2)
}

func TestDidByHand(t *testing.T) {
	g, s := runGate(), textTo(5, 85, 18)
	didIs(t, g, comeAct(s), g, doneOf(1, impl.GtWay, 0, 7))
	didIs(t, g, goAct(), g, doneOf(2, -1, 0, 7))
	routes, rules := []impl.Route{{Hop: 3}}, []impl.Rule{{Id: 1, Proto: -1, Low: 80, High: 90, Class: 5}}
	ruled := withGate(g, func(g *impl.Gate) { g.Routes, g.Rules = routes, rules })
	didIs(t, g, ruleAct(routes, rules), ruled, doneOf(4, 0, 0, 7))
	// 41 bytes and 8 go in two cells; 30 and 5 lead to leaf 1.
	g = ruled
	g.Next, g.Fair.Now = 31, 500
	in := withGate(laden(g, 1, item(31, 41, 7)), func(g *impl.Gate) { g.Draw, g.Fair.Flows[1].Finish = 39022, 500 })
	didIs(t, g, comeAct(s), in, doneOf(1, 0, 31, 7))
	didIs(t, in, comeAct(s[:9]), in, doneOf(1, impl.ErShort, 0, 7))
	didIs(t, in, saveAct(), in, doneOf(5, 0, 0, 7))
	didIs(t, in, ruleAct(nil, []impl.Rule{{}}), in, doneOf(4, -1, 0, 7))
	didIs(t, in, tickAct(-1), in, doneOf(3, -1, 0, 7))
	didIs(t, in, tickAct(0), in, doneOf(3, 0, 0, 7))
	didIs(t, in, impl.Act{Kind: 6}, in, doneOf(6, -1, 0, 7))
	// Number 0 has 106 four ticks more, and no less.
	didIs(t, in, goAct(), in, doneOf(2, -1, 0, 7))
	later := withGate(in, func(g *impl.Gate) {
		g.Tree = treeOf([]int64{-1, 0, 0}, purse(10, 500, 110, 12), purse(20, 300, 200, 12), purse(1, 300, 111, 12))
	})
	didIs(t, in, tickAct(5), later, doneOf(3, 0, 0, 12))
	out := withGate(later, func(g *impl.Gate) {
		g.Tree[0].Purse.Level, g.Tree[2].Purse.Level = 4, 5
		g.Rows.Lists[1], g.Fair.Flows[1] = nil, payer(1, 500+106*2520)
		g.Steers[1].Old = 5
	})
	didIs(t, later, goAct(), out, doneOf(2, 1, 31, 12))
	didIs(t, out, goAct(), out, doneOf(2, -1, 0, 12))
	runIs(t, g, []impl.Act{comeAct(s), goAct(), tickAct(5), {Kind: 9}, saveAct(), goAct(), goAct()}, out, []impl.Done{
		doneOf(1, 0, 31, 7), doneOf(2, -1, 0, 7), doneOf(3, 0, 0, 12), doneOf(9, -1, 0, 12), doneOf(5, 0, 0, 12), doneOf(2, 1, 31, 12), doneOf(2, -1, 0, 12),
	})
}

func TestDidOfRightGates(t *testing.T) {
	codes := map[[2]int64]int{}
	for k, g := range slices.Concat(rightGates(), []impl.Gate{handGate(), bareGate(), looseGate()}) {
		acts := actsOfAllKinds(g)
		for at, a := range acts {
			// All Acts of each third gate, and of the others some.
			if (at+k)%3 > 0 && k%3 > 0 {
				continue
			}
			_, done := didAsByWords(t, g, a)
			codes[[2]int64{done.Kind, min(done.Code, 20)}]++
		}
	}
	for _, is := range [][2]int64{
		{1, 0}, {1, impl.ErShort}, {1, impl.ErMore}, {1, impl.ErKind}, {1, impl.GtSteer}, {1, impl.GtFull},
		{2, -1}, {2, 0}, {3, 0}, {3, -1}, {4, 0}, {4, -1}, {5, 0}, {0, -1}, {6, -1}, {-1, -1},
	} {
		if codes[is] < 20 {
			t.Fatalf("too few of %v: %v", is, codes)
		}
	}
}

// Each code of In is told, and where it is 0 the Id that Next was.
func TestDidTellsEachCodeOfIn(t *testing.T) {
	for _, x := range troubles() {
		g, s := troubled(x)
		next, done := didAsByWords(t, g, comeAct(s))
		if done != doneOf(1, x.code, 0, 70) || next.Next != g.Next {
			t.Fatalf("%s: %+v", x.name, done)
		}
		runIs(t, g, []impl.Act{comeAct(s)}, next, []impl.Done{done})
	}
	for _, id := range []int64{1, 2, 9, 1 << 16, mostId - 2, mostId - 1} {
		g := goodGate()
		g.Next = id
		next, _ := inByWords(g, textTo(0, 0, 0))
		didIs(t, g, comeAct(textTo(0, 0, 0)), next, doneOf(1, 0, id, 70))
	}
}

// Each leaf is told, and the Id of what went, whichever that is.
func TestDidTellsEachLeafOfOut(t *testing.T) {
	for n := range mostLeaves {
		for _, id := range []int64{1, 2, 77, mostId - 1} {
			g := gateOf(plain(), treeOf(starUps(12), purse(1, 90, 60, 9)), leavesOf(mostLeaves, 12, id)...)
			g = laden(g, n, item(id, 50, 3), item(3, 1, 3))
			next, _, _ := outByWords(g)
			didIs(t, g, goAct(), next, doneOf(2, int64(n), id, 9))
		}
	}
	// None may go: nobody is there, none can pay, or Finish would be too much.
	for _, g := range []impl.Gate{
		goodGate(),
		withGate(laden(goodGate(), 1, item(5, 30, 70)), func(g *impl.Gate) { g.Tree[0].Purse.Level = 29 }),
		withGate(laden(goodGate(), 1, item(5, 30, 70)), func(g *impl.Gate) { g.Tree[2].Purse.Level = 0 }),
		withGate(laden(goodGate(), 1, item(5, 30, 70)), func(g *impl.Gate) { g.Fair.Now = mostFair }),
	} {
		didIs(t, g, goAct(), g, doneOf(2, -1, 0, 70))
		didAsByWords(t, g, goAct())
	}
}

// N ticks from the time of the Tree on, up to just MaxTime.
func TestDidLaterAtEdges(t *testing.T) {
	for _, at := range []int64{0, 1, 70, 5000, mostTime / 2, mostTime - 1, mostTime} {
		g := laden(withTime(runGate(), at), 1, item(1, 30, 9), item(2, 40, mostTime))
		left := mostTime - at
		for _, n := range []int64{0, 1, 2, 7, left / 2, left - 1, left} {
			if !within(n, 0, left) {
				continue
			}
			next := laterAsByWords(t, g, at+n)
			didIs(t, g, tickAct(n), next, doneOf(3, 0, 0, at+n))
		}
		for _, n := range append(wrongTimes(), left+1, left+2, -at, -at-1, -at-mostTime, mostTime+1-at, math.MaxInt64-at, math.MaxInt64-at+1, math.MinInt64-at+1, 1<<62, 1<<63-1-mostTime) {
			if !within(n, 0, left) {
				didIs(t, g, tickAct(n), g, doneOf(3, -1, 0, at))
			}
		}
	}
	// Nothing is filled twice on the way.
	g := runGate()
	for n := range int64(60) {
		next, _ := runAsByWords(t, g, []impl.Act{tickAct(n), tickAct(0), tickAct(60 - n)})
		if all, _ := impl.Did(g, tickAct(60)); !sameGate(next, all) {
			t.Fatalf("%d ticks and %d more: %+v, not %+v", n, 60-n, next, all)
		}
	}
}

// Of another Kind nothing is done, whatever else stands in the Act.
func TestDidOfOtherKinds(t *testing.T) {
	kinds := []int64{0, 6, 7, 8, -1, -2, -3, -4, -5, -6, 10, 257, 1 << 8, 1<<8 + 1, 1<<32 + 1, 1<<32 + 2, 1<<62 + 3, math.MinInt64, math.MinInt64 + 1, math.MinInt64 + 5, math.MaxInt64, math.MaxInt64 - 1}
	for _, g := range slices.Concat(fewGates(), []impl.Gate{goodGate(), handGate(), looseGate()}) {
		for _, kind := range kinds {
			for _, a := range []impl.Act{{}, {Text: textTo(0, 0, 0)}, {N: 5}, {N: math.MaxInt64, Routes: routesToAll(), Rules: rulesToAll()}} {
				a.Kind = kind
				didIs(t, g, a, g, doneOf(kind, -1, 0, treeTime(g)))
			}
		}
		runIs(t, g, []impl.Act{{}, {Kind: 6}, {Kind: math.MinInt64}}, g, []impl.Done{doneOf(0, -1, 0, treeTime(g)), doneOf(6, -1, 0, treeTime(g)), doneOf(math.MinInt64, -1, 0, treeTime(g))})
	}
}

// What an Act's Kind does not ask for is not looked at.
func TestDidLooksAtNothingElse(t *testing.T) {
	full := func(a impl.Act, kept ...string) impl.Act {
		all := impl.Act{Kind: a.Kind, Text: "what is this?", N: math.MinInt64, Routes: []impl.Route{{Bits: 33}}, Rules: []impl.Rule{{Id: -1}}}
		for _, name := range kept {
			switch name {
			case "Text":
				all.Text = a.Text
			case "N":
				all.N = a.N
			case "lists":
				all.Routes, all.Rules = a.Routes, a.Rules
			}
		}
		return all
	}
	for _, g := range fewGates() {
		for _, c := range []struct {
			act  impl.Act
			kept string
		}{
			{comeAct(textTo(wayTo(1), 103, 7)), "Text"}, {goAct(), ""}, {tickAct(min(9, mostTime-treeTime(g))), "N"},
			{ruleAct(routesToAll(), nil), "lists"}, {ruleAct(nil, []impl.Rule{{}}), "lists"}, {saveAct(), ""},
		} {
			next, done := didAsByWords(t, g, c.act)
			didIs(t, g, full(c.act, c.kept), next, done)
		}
	}
}

func TestDidRuleOfLists(t *testing.T) {
	gates, right, wrong := fewGates(), rightRuleLists(), wrongRuleLists()
	for k, routes := range rightLists() {
		g := gates[k%len(gates)]
		rules := right[k%len(right)]
		didIs(t, g, ruleAct(routes, rules), withGate(g, func(g *impl.Gate) { g.Routes, g.Rules = routes, rules }), doneOf(4, 0, 0, treeTime(g)))
		didIs(t, g, ruleAct(routes, wrong[k%len(wrong)]), g, doneOf(4, -1, 0, treeTime(g)))
	}
	for k, routes := range wrongLists() {
		g := gates[k%len(gates)]
		didIs(t, g, ruleAct(routes, right[k%len(right)]), g, doneOf(4, -1, 0, treeTime(g)))
		didIs(t, g, ruleAct(routes, nil), g, doneOf(4, -1, 0, treeTime(g)))
	}
	for k, rules := range wrong {
		g := gates[k%len(gates)]
		didIs(t, g, ruleAct(routesToAll(), rules), g, doneOf(4, -1, 0, treeTime(g)))
	}
}

// What is saved is the gate, in all its parts, at all its edges.
func TestDidSave(t *testing.T) {
	for _, g := range slices.Concat(rightGates(), earlyGates(), []impl.Gate{handGate(), bareGate(), looseGate(), refit(looseGate())}) {
		didIs(t, g, saveAct(), g, doneOf(5, 0, 0, treeTime(g)))
	}
	for _, x := range looseNumbers() {
		for _, n := range []int64{x.least, x.greatest} {
			g := refit(withGate(looseGate(), func(g *impl.Gate) { x.set(g, n) }))
			didIs(t, g, saveAct(), g, doneOf(5, 0, 0, treeTime(g)))
		}
	}
}

// refusedRun is what Did and Run tell of a gate that is not right.
func refusedRun(t *testing.T, g impl.Gate) {
	t.Helper()
	acts := []impl.Act{comeAct(textTo(0, 0, 0)), comeAct(""), goAct(), tickAct(0), tickAct(5), ruleAct(nil, nil), ruleAct(routesToAll(), rulesToAll()), saveAct(), {}, {Kind: 6, N: 1}}
	for _, a := range acts {
		didIs(t, g, a, impl.Gate{}, impl.Done{})
		runIs(t, g, []impl.Act{a}, impl.Gate{}, nil)
	}
	runIs(t, g, acts, impl.Gate{}, nil)
	runIs(t, g, nil, impl.Gate{}, nil)
	runIs(t, g, []impl.Act{}, impl.Gate{}, nil)
}

func TestRunOfWrongGates(t *testing.T) {
	for _, g := range wrongGates() {
		refusedRun(t, g)
		runIs(t, g, make([]impl.Act, mostActs), impl.Gate{}, nil)
		runIs(t, g, make([]impl.Act, mostActs+1), impl.Gate{}, nil)
	}
	refusedRun(t, impl.Gate{})
	count := 0
	eachWrongPart(func(g impl.Gate) {
		t.Helper()
		if count++; count%3 == 0 {
			refusedRun(t, g)
			return
		}
		didIs(t, g, goAct(), impl.Gate{}, impl.Done{})
		runIs(t, g, []impl.Act{tickAct(1), saveAct()}, impl.Gate{}, nil)
	})
}

func TestRunByHand(t *testing.T) {
	g := goodGate()
	runIs(t, g, nil, g, nil)
	runIs(t, g, []impl.Act{}, g, nil)
	runIs(t, g, []impl.Act{{}}, g, []impl.Done{doneOf(0, -1, 0, 70)})
	s := textTo(9, 9, 4)
	// Two come, the first of them goes, and with it what it pays.
	next, told := impl.Run(g, []impl.Act{comeAct(s), comeAct(s), goAct(), tickAct(3), comeAct(s), goAct(), goAct(), goAct()})
	if !slices.Equal(told, []impl.Done{
		doneOf(1, 0, 1, 70), doneOf(1, 0, 2, 70), doneOf(2, 0, 1, 70), doneOf(3, 0, 0, 73),
		doneOf(1, 0, 3, 73), doneOf(2, 0, 2, 73), doneOf(2, 0, 3, 73), doneOf(2, -1, 0, 73),
	}) {
		t.Fatal(told)
	}
	if next.Next != 4 || len(next.Rows.Lists[0]) != 0 || next.Tree[0].Purse.Level != 9000-3*27+30-3 || treeTime(next) != 73 {
		t.Fatalf("%+v", next)
	}
	// The rules that are set on the way lead who comes behind them.
	none := ruleAct(nil, nil)
	one := ruleAct([]impl.Route{{Hop: 1}}, []impl.Rule{{Id: 1, Proto: -1, High: 65535, Class: 1}})
	_, told = impl.Run(g, []impl.Act{none, comeAct(s), one, comeAct(s), goAct()})
	if !slices.Equal(told, []impl.Done{doneOf(4, 0, 0, 70), doneOf(1, impl.GtWay, 0, 70), doneOf(4, 0, 0, 70), doneOf(1, 0, 1, 70), doneOf(2, 1, 1, 70)}) {
		t.Fatal(told)
	}
}

// 0, 1, 199, 200 and 201 Acts, of each Kind.
func TestRunAtEachCount(t *testing.T) {
	g := laden(goodGate(), 0, someItems(1, 20)...)
	for _, a := range []impl.Act{comeAct(textTo(0, 0, 0)), goAct(), tickAct(1), tickAct(-1), ruleAct(routesToAll(), nil), saveAct(), {Kind: 6}} {
		for _, n := range []int{0, 1, 2, 198, 199, mostActs} {
			_, told := runAsByWords(t, g, slices.Repeat([]impl.Act{a}, n))
			if len(told) != n {
				t.Fatalf("%d Acts, %d told", n, len(told))
			}
		}
		for _, n := range []int{mostActs + 1, mostActs + 2, 2 * mostActs, 256, 512, 65536} {
			runIs(t, g, slices.Repeat([]impl.Act{a}, n), impl.Gate{}, nil)
		}
	}
	draw := &drawer{state: 1900}
	for _, n := range []int{0, 1, 2, 199, mostActs} {
		runAsByWords(t, g, draw.acts(n))
	}
	runIs(t, g, draw.acts(mostActs+1), impl.Gate{}, nil)
}

func TestRunOfRightGates(t *testing.T) {
	draw := &drawer{state: 1901}
	kinds, leaves := map[int64]int{}, map[int64]int{}
	for k, g := range rightGates() {
		// Of these kinds of purses many have room for all Items.
		if kind := k % purseKinds; kind != 1 && kind != 7 && k%5 > 0 {
			continue
		}
		_, told := runAsByWords(t, g, draw.acts(30))
		for _, d := range told {
			if d.Code != -1 {
				kinds[d.Kind]++
			}
			if d.Kind == impl.AcOut {
				leaves[d.Code]++
			}
		}
	}
	for kind := int64(impl.AcIn); kind <= impl.AcSave; kind++ {
		if kinds[kind] < 100 {
			t.Fatalf("too few of Kind %d: %v", kind, kinds)
		}
	}
	if leaves[-1] < 100 || leaves[0] < 100 || leaves[1] < 100 || leaves[2] < 20 {
		t.Fatalf("too few of a leaf: %v", leaves)
	}
}

// A run of as many Acts as there may be, over gates of each count of leaves.
func TestRunOfLongLists(t *testing.T) {
	draw := &drawer{state: 1902}
	for n := 1; n <= mostLeaves; n++ {
		g := gateOf(gateLines()[n%6], treeOf(upShapes(mostNodes)[n%5], purse(70, 3000, 500, 9)), leavesOf(n, mostNodes, int64(n))...)
		g.Routes, g.Rules, g.Rows.Most = routesToAll(), rulesToAll(), 60
		runAsByWords(t, g, draw.acts(mostActs))
	}
}

// The same again and again, each time alike.
func TestRunManyTimesOver(t *testing.T) {
	draw := &drawer{state: 1903}
	for _, g := range fewGates()[:6] {
		list := draw.acts(20)
		first, told := impl.Run(g, list)
		for range 50 {
			runIs(t, g, list, first, told)
		}
		for _, a := range actsOfAllKinds(g) {
			next, done := impl.Did(g, a)
			for range 20 {
				didIs(t, g, a, next, done)
			}
		}
	}
}

func TestRunFromManyGoroutines(t *testing.T) {
	draw := &drawer{state: 1904}
	g, list := someGate(8, 4, 1, plain(), 5000, 25), draw.acts(40)
	first, told := impl.Run(g, list)
	wrong := make(chan bool)
	for range 16 {
		go func() {
			next, is := impl.Run(g, list)
			wrong <- !sameGate(next, first) || !slices.Equal(is, told)
		}()
	}
	for range 16 {
		if <-wrong {
			t.Fatalf("another answer of %+v", list)
		}
	}
}

// A long text, and long lists, are told as the others are.
func TestDidOfLongTexts(t *testing.T) {
	g := goodGate()
	for _, s := range []string{strings.Repeat("\x00", 100000), strings.Repeat("\x01", 200001), sizedText(mostText) + strings.Repeat("a", 1<<17), sizedText(mostText)} {
		didAsByWords(t, g, comeAct(s))
	}
	didIs(t, g, ruleAct(make([]impl.Route, 1<<16+1), nil), g, doneOf(4, -1, 0, 70))
	didIs(t, g, ruleAct(nil, make([]impl.Rule, 1<<16+1)), g, doneOf(4, -1, 0, 70))
}
