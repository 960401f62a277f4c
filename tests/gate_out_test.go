package tests

import (
	"math"
	"slices"
	"testing"

	"loop.example/g00316/impl"
)

func TestOutByHand(t *testing.T) {
	tree := treeOf([]int64{-1, 0, 0, 1}, purse(10, 100, 90, 50), purse(5, 80, 70, 50), purse(0, 60, 60, 50), purse(3, 40, 40, 50))
	g := gateOf(impl.Line{Kind: 1, Extra: 2}, tree, 2, 3)
	g.Fair = fairOf(500, payer(2, 700), payer(3, 600))
	g.Steers[1] = steer(20, 10, 300000)
	g = laden(laden(g, 0, item(4, 30, 50)), 1, item(2, 20, 9), item(3, 10, 50))

	// Leaf 1 begins at 600: 22 are paid in Nodes 3, 1 and 0; it was there for 41.
	want := withGate(g, func(g *impl.Gate) {
		g.Tree = treeOf([]int64{-1, 0, 0, 1}, purse(10, 100, 68, 50), purse(5, 80, 48, 50), purse(0, 60, 60, 50), purse(3, 40, 18, 50))
		g.Rows.Lists[1] = []impl.Item{item(3, 10, 50)}
		g.Fair = fairOf(600, payer(2, 700, 32), payer(3, 600+22*840, 12))
		g.Steers[1] = steer(20, 41, 300000+42+620)
	})
	outIs(t, g, want, item(2, 20, 9), 1)
	// Leaf 0 begins at 700: 32 are paid in Nodes 2 and 0.
	g, want = want, withGate(want, func(g *impl.Gate) {
		g.Tree[0].Purse.Level, g.Tree[2].Purse.Level = 36, 28
		g.Rows.Lists[0] = nil
		g.Fair = fairOf(700, payer(2, 700+32*1260), payer(3, 19080, 12))
	})
	outIs(t, g, want, item(4, 30, 50), 0)
	// The last one; nobody waited any more.
	g, want = want, withGate(want, func(g *impl.Gate) {
		g.Tree[0].Purse.Level, g.Tree[1].Purse.Level, g.Tree[3].Purse.Level = 24, 36, 6
		g.Rows.Lists[1] = nil
		g.Fair = fairOf(19080, payer(2, 41020), payer(3, 19080+12*840))
		g.Steers[1] = steer(20, 0, 300662-40-820)
	})
	outIs(t, g, want, item(3, 10, 50), 1)
	outIs(t, want, want, impl.Item{}, -1)
	outIs(t, goodGate(), goodGate(), impl.Item{}, -1)
	outIs(t, impl.Gate{}, impl.Gate{}, impl.Item{}, -2)
}

// Whoever Can goes, though another one would begin ahead of it.
func TestOutPassesOverWhatCant(t *testing.T) {
	g := goodGate()
	g.Tree[1].Purse.Level = 29
	g.Fair = fairOf(5, payer(1, 6), payer(1, 9000))
	g = laden(laden(g, 0, item(1, 30, 70), item(3, 1, 70)), 1, item(2, 40, 70))
	want := withGate(g, func(g *impl.Gate) {
		g.Tree[0].Purse.Level, g.Tree[2].Purse.Level = 8960, 8960
		g.Rows.Lists[1], g.Fair.Flows[1] = nil, payer(1, 9000+40*2520)
		g.Fair.Now = 9000
	})
	outIs(t, g, want, item(2, 40, 70), 1)
	// The first Item says, not one behind it that is less.
	outIs(t, want, want, impl.Item{}, -1)
	g = laterAsByWords(t, want, 71)
	_, gone, leaf := outAsByWords(t, g)
	if gone != item(1, 30, 70) || leaf != 0 {
		t.Fatalf("%v goes from leaf %d", gone, leaf)
	}
}

// eightWait has eight leaves under number 0, each with two Items of one Size.
func eightWait() impl.Gate {
	g := gateOf(plain(), treeOf(starUps(9), purse(0, 9000, 9000, 50)), leavesOf(8, 9, 0)...)
	g.Fair.Now = 40
	for leaf := range 8 {
		g = laden(g, leaf, item(1+int64(leaf), 60, 50), item(100+int64(leaf), 61, 50))
	}
	return g
}

// goesFirst asks which leaf the next Item comes from.
func goesFirst(t *testing.T, g impl.Gate, want int64) {
	t.Helper()
	_, gone, leaf := outAsByWords(t, g)
	if leaf != want || want >= 0 && gone != g.Rows.Lists[want][0] {
		t.Fatalf("Out(%+v): %v goes from leaf %d, want %d", g, gone, leaf, want)
	}
}

// Of those that Can the one whose Begins is least goes, of alike ones the
// first, whichever those are.
func TestOutOfEachSetThatCan(t *testing.T) {
	for set := range 1 << mostLeaves {
		alike, falls, pairs := eightWait(), eightWait(), eightWait()
		first, last, least := int64(-1), int64(-1), int64(-1)
		for leaf := range int64(mostLeaves) {
			falls.Fair.Flows[leaf].Finish = 100 - leaf
			pairs.Fair.Flows[leaf].Finish = 100 + (leaf+4)%mostLeaves/2
			alike.Fair.Flows[leaf].Finish = 5 * leaf
			if set>>leaf&1 == 0 {
				for _, g := range []impl.Gate{alike, falls, pairs} {
					g.Tree[1+leaf].Purse.Level = 59
				}
				continue
			}
			if first < 0 {
				first = leaf
			}
			last = leaf
			if least < 0 || pairs.Fair.Flows[leaf].Finish < pairs.Fair.Flows[least].Finish {
				least = leaf
			}
		}
		goesFirst(t, alike, first)
		goesFirst(t, falls, last)
		goesFirst(t, pairs, least)
	}
}

// Leaves without Items are passed over too, whatever their Finish is.
func TestOutOfEachSetWithItems(t *testing.T) {
	for set := range 1 << mostLeaves {
		g, want := eightWait(), int64(-1)
		for leaf := range int64(mostLeaves) {
			g.Fair.Flows[leaf].Finish = 30 + leaf
			if set>>leaf&1 == 0 {
				g.Rows.Lists[leaf], g.Fair.Flows[leaf].Sizes = nil, nil
			} else if want < 0 {
				want = leaf
			}
		}
		goesFirst(t, g, want)
	}
}

// Of n leaves the one alone whose Begins is least, at each place.
func TestLeastLeafAtEachPlace(t *testing.T) {
	for n := 1; n <= mostLeaves; n++ {
		for place := range n {
			for _, by := range []int64{1, 2, 1 << 40} {
				g := gateOf(cellsLine(), treeOf(lineUps(12), purse(0, 9000, 9000, 50)), leavesOf(n, 12, int64(place))...)
				for leaf := range n {
					g.Fair.Flows[leaf].Finish = 60 + by
					g = laden(g, leaf, item(1+int64(leaf), 900, 50))
				}
				g.Fair.Now, g.Fair.Flows[place].Finish = 7, 60
				goesFirst(t, g, int64(place))
				g.Fair.Now = 60 + by
				goesFirst(t, g, 0)
			}
		}
	}
}

// Each Node on the path, and none beside it, may keep an Item back; what has
// just so much lets it go and is empty then.
func TestOutAtEachLevel(t *testing.T) {
	line := impl.Line{Kind: 3, Extra: 3}
	for _, ups := range upShapes(mostNodes) {
		for leaf := range int64(mostNodes) {
			g := laden(gateOf(line, treeOf(ups, purse(0, 400, 0, 50)), leaf), 0, item(1, 200, 50))
			takes := g.Fair.Flows[0].Sizes[0]
			for k := range g.Tree {
				g.Tree[k].Purse.Level = takes
			}
			path := pathByWords(g.Tree, leaf)
			want := withGate(g, func(g *impl.Gate) {
				for _, number := range path {
					g.Tree[number].Purse.Level = 0
				}
				g.Rows.Lists[0], g.Fair.Flows[0] = nil, payer(1, takes*2520)
			})
			outIs(t, g, want, item(1, 200, 50), 0)
			for number := range int64(mostNodes) {
				for _, less := range []int64{1, takes} {
					short := withGate(g, func(g *impl.Gate) { g.Tree[number].Purse.Level = takes - less })
					if slices.Contains(path, number) {
						outIs(t, short, short, impl.Item{}, -1)
					} else {
						outIs(t, short, withGate(want, func(g *impl.Gate) { g.Tree[number].Purse.Level = takes - less }), item(1, 200, 50), 0)
					}
				}
			}
		}
	}
}

// What is paid is what the line takes, of 1 and of 2000 too.
func TestOutPaysWhatTheLineTakes(t *testing.T) {
	for _, c := range []struct {
		line        impl.Line
		size, takes int64
	}{
		{plain(), 1, 1}, {plain(), 2, 2}, {plain(), 1999, 1999}, {plain(), 2000, 2000},
		{impl.Line{Kind: 1, Extra: 100, Least: 2000}, 1, 2000}, {impl.Line{Kind: 3, Least: 1969}, 1969, 2000},
		{impl.Line{Kind: 3}, 1, 2}, {cellsLine(), 1, 53}, {cellsLine(), 1752, 1961},
	} {
		for weight := int64(1); weight <= mostWeight; weight++ {
			g := gateOf(c.line, treeOf(lineUps(3), purse(0, mostSize, mostSize, 50)), 0, 1)
			g.Fair.Flows[1].Weight = weight
			g = laden(g, 1, item(7, c.size, 50))
			want := withGate(g, func(g *impl.Gate) {
				g.Tree[0].Purse.Level, g.Tree[1].Purse.Level = mostSize-c.takes, mostSize-c.takes
				g.Rows.Lists[1], g.Fair.Flows[1] = nil, payer(weight, c.takes*unitPrice(weight))
			})
			outIs(t, g, want, item(7, c.size, 50), 1)
		}
	}
}

// How long it was there stirs the Steer of its leaf, and no other one.
func TestOutStirs(t *testing.T) {
	for _, c := range []struct{ at, now, delay int64 }{
		{0, 0, 0}, {50, 50, 0}, {mostTime, mostTime, 0}, {49, 50, 1}, {30, 50, 20}, {29, 50, 21}, {0, 50, 50},
		{0, 99999, 99999}, {0, 100000, 100000}, {0, 100001, 100000}, {7, 100006, 99999}, {7, 100007, 100000}, {7, 100008, 100000},
		{0, 1 << 32, 100000}, {5, 1<<32 + 6, 100000}, {0, mostTime, 100000}, {mostTime - 100000, mostTime, 100000}, {mostTime - 99999, mostTime, 99999},
		// It came at a time that is not there yet.
		{51, 50, 0}, {mostTime, 50, 0}, {mostTime, 0, 0}, {1, 0, 0}, {100050, 50, 0}, {200050, 50, 0},
	} {
		for _, s := range []impl.Steer{steer(20, 0, 0), steer(20, 0, 500), steer(1, 100000, mostProb), steer(1000, 3, 262144), steer(20, 21, 104857), steer(mostTarget, mostDelay, 1)} {
			g := gateOf(plain(), treeOf(starUps(3), purse(5, 70, 70, c.now)), 0, 1, 2)
			g.Steers = []impl.Steer{s, s, s}
			g = laden(g, 1, item(3, 60, c.at))
			next, gone, leaf := outAsByWords(t, g)
			want := []impl.Steer{s, stirredByBig(s, c.delay), s}
			if gone != item(3, 60, c.at) || leaf != 1 || !slices.Equal(next.Steers, want) {
				t.Fatalf("there from %d to %d: %v, leaf %d, %v, want %v", c.at, c.now, gone, leaf, next.Steers, want)
			}
		}
	}
}

// Finish of just MaxFair can be; 1 more can't, and nothing is done, though
// another leaf could go.
func TestOutWhereServedCantBe(t *testing.T) {
	for weight := int64(1); weight <= mostWeight; weight++ {
		for _, size := range []int64{1, 40, 2000} {
			last := mostFair - size*unitPrice(weight)
			for _, byNow := range []bool{false, true} {
				made := func(begin int64) impl.Gate {
					g := gateOf(plain(), treeOf(starUps(3), purse(0, 4000, 4000, 50)), 1, 2)
					g.Fair = fairOf(begin, payer(weight, 0), payer(mostWeight, begin))
					if !byNow {
						g.Fair = fairOf(0, payer(weight, begin), payer(mostWeight, begin+1))
					}
					return laden(laden(g, 0, item(1, size, 50)), 1, item(2, 1, 50))
				}
				g := made(last)
				want := withGate(g, func(g *impl.Gate) {
					g.Tree[0].Purse.Level, g.Tree[1].Purse.Level = 4000-size, 4000-size
					g.Rows.Lists[0] = nil
					g.Fair.Now, g.Fair.Flows[0] = last, payer(weight, mostFair)
				})
				outIs(t, g, want, item(1, size, 50), 0)
				g = made(last + 1)
				outIs(t, g, g, impl.Item{}, -1)
				// The other one goes where it is the first that Can, and its Finish is right.
				g.Tree[1].Purse.Level = 0
				if _, _, leaf := outAsByWords(t, g); (leaf == 1) != (size*unitPrice(weight) > 253) {
					t.Fatalf("Out(%+v): leaf %d goes", g, leaf)
				}
			}
		}
	}
}

// untilNone lets all go that Can, each against the words.
func untilNone(t *testing.T, g impl.Gate) (impl.Gate, []impl.Item) {
	t.Helper()
	var all []impl.Item
	for {
		next, gone, leaf := outAsByWords(t, g)
		if leaf == -1 {
			return next, all
		}
		if !slices.Equal(next.Routes, g.Routes) || !slices.Equal(next.Rules, g.Rules) || next.Next != g.Next || next.Draw != g.Draw {
			t.Fatalf("Out(%+v) = %+v", g, next)
		}
		for number, x := range next.Tree {
			less := g.Tree[number].Purse.Level - x.Purse.Level
			if onPath := slices.Contains(pathByWords(g.Tree, g.Leaves[leaf]), int64(number)); onPath != (less != 0) {
				t.Fatalf("Out(%+v): number %d pays %d for leaf %d", g, number, less, leaf)
			}
		}
		all, g = append(all, gone), next
	}
}

func TestOutOfRightGates(t *testing.T) {
	count := 0
	for _, g := range rightGates() {
		_, all := untilNone(t, g)
		count += len(all)
	}
	if count < 1000 {
		t.Fatalf("only %d went", count)
	}
}

func TestInOfRightGates(t *testing.T) {
	codes := map[int64]int{}
	for k, g := range rightGates() {
		for way := range int64(4) {
			_, code := inAsByWords(t, g, textTo(wayTo(way)+int64(k), 96+int64(k)*7%24, k%1400))
			codes[code]++
		}
	}
	for _, code := range []int64{0, impl.GtSteer, impl.GtFull} {
		if codes[code] < 50 {
			t.Fatalf("too few with code %d: %v", code, codes)
		}
	}
}

func TestLaterByHand(t *testing.T) {
	tree := treeOf([]int64{-1, 0, 0}, purse(10, 50, 20, 4), purse(2, 40, 30, 4), purse(0, 40, 5, 4))
	g := laden(gateOf(plain(), tree, 1, 2), 1, item(1, 30, 4))
	g.Next, g.Draw, g.Fair.Now = 9, 77, 12
	filled := func(now int64, levels ...int64) impl.Gate {
		return withGate(g, func(g *impl.Gate) {
			for k := range g.Tree {
				g.Tree[k].Purse.Level, g.Tree[k].Purse.At = levels[k], now
			}
		})
	}
	laterIs(t, g, 4, g, true)
	laterIs(t, g, 5, filled(5, 30, 32, 5), true)
	laterIs(t, g, 9, filled(9, 50, 40, 5), true)
	laterIs(t, g, mostTime-1, filled(mostTime-1, 50, 40, 5), true)
	laterIs(t, g, mostTime, filled(mostTime, 50, 40, 5), true)
	for _, now := range []int64{3, 0, -1, -4, mostTime + 1, 1 << 41, math.MinInt64, math.MaxInt64} {
		laterIs(t, g, now, g, false)
	}
	last := filled(mostTime, 1, 2, 3)
	laterIs(t, last, mostTime, last, true)
	laterIs(t, last, mostTime-1, last, false)
	laterIs(t, last, mostTime+1, last, false)
	laterIs(t, filled(0, 1, 2, 3), 0, filled(0, 1, 2, 3), true)
	laterIs(t, filled(0, 1, 2, 3), -1, filled(0, 1, 2, 3), false)
	laterIs(t, impl.Gate{}, 0, impl.Gate{}, false)
}

func TestLaterOfRightGates(t *testing.T) {
	for _, g := range rightGates() {
		at := treeTime(g)
		for _, now := range timesFrom(at) {
			next := laterAsByWords(t, g, now)
			if treeTime(next) != now {
				t.Fatalf("Later(%+v, %d) = %+v", g, now, next)
			}
		}
		for _, now := range append(wrongTimes(), at-1, at-2, 0, at/2) {
			if now != at {
				laterIs(t, g, now, g, false)
			}
		}
	}
}

func TestRuledByHand(t *testing.T) {
	good := laden(goodGate(), 1, item(1, 30, 70))
	good.Rules = []impl.Rule{openRule(7)}
	for _, routes := range [][]impl.Route{nil, {}, {{}}, {{Hop: 99}}, routesToAll(), fullRoutes()} {
		for _, rules := range [][]impl.Rule{nil, {}, {openRule(1)}, rulesToAll(), numbered(openRule(1), 960, 40)} {
			ruledIs(t, good, routes, rules, withGate(good, func(g *impl.Gate) { g.Routes, g.Rules = routes, rules }), true)
			gateOkIs(t, ruledAsByWords(t, good, routes, rules), true)
		}
	}
	tooMany := append(fullRoutes(), impl.Route{Net: mostAddr, Bits: 32})
	for _, routes := range [][]impl.Route{tooMany, {{Hop: 100}}, {{Bits: 33}}, {{Net: 1}}, {{Hop: 1}, {Hop: 2}}, {{Net: 1 << 31, Bits: 1}, {}}} {
		ruledIs(t, good, routes, nil, good, false)
		ruledIs(t, good, routes, good.Rules, good, false)
		ruledIs(t, good, routes, []impl.Rule{{}}, good, false)
	}
	for _, rules := range [][]impl.Rule{numbered(openRule(1), 1, 41), {{}}, {{Id: 1000}}, {openRule(2), openRule(1)}, {openRule(2), openRule(2)}} {
		ruledIs(t, good, nil, rules, good, false)
		ruledIs(t, good, good.Routes, rules, good, false)
	}
	ruledIs(t, impl.Gate{}, nil, nil, impl.Gate{}, false)
}

func TestRuledOfWrongLists(t *testing.T) {
	good, wrongRules := someGate(3, 2, 0, plain(), 5000, 7), wrongRuleLists()
	for k, routes := range wrongLists() {
		ruledIs(t, good, routes, rulesToAll(), good, false)
		ruledIs(t, good, routes, wrongRules[k%len(wrongRules)], good, false)
	}
	for _, rules := range wrongRules {
		ruledIs(t, good, routesToAll(), rules, good, false)
	}
}

func TestRuledOfRightLists(t *testing.T) {
	gates, rules := fewGates(), rightRuleLists()
	for k, routes := range rightLists() {
		g := gates[k%len(gates)]
		ruledAsByWords(t, g, routes, rules[k%len(rules)])
		ruledAsByWords(t, g, nil, rules[k%len(rules)])
		ruledAsByWords(t, g, routes, nil)
	}
	for k, list := range rules {
		ruledAsByWords(t, gates[k%len(gates)], routesToAll(), list)
	}
}

// guests keep what is in, leaf by leaf in order, and what has gone out.
type guests struct {
	in   [][]impl.Item
	came map[int64]impl.Item
	gone map[int64]bool
}

func guestsOf(g impl.Gate) *guests {
	l := &guests{in: keptRows(g.Rows).Lists, came: map[int64]impl.Item{}, gone: map[int64]bool{}}
	for _, i := range slices.Concat(l.in...) {
		l.came[i.Id] = i
	}
	return l
}

// agrees asks whether the gate has just what is in.
func (l *guests) agrees(t *testing.T, g impl.Gate) {
	t.Helper()
	gateOkIs(t, g, true)
	if !slices.EqualFunc(g.Rows.Lists, l.in, slices.Equal[[]impl.Item]) {
		t.Fatalf("in is %v, not %v", g.Rows.Lists, l.in)
	}
}

// comes lets a text in, and keeps the Item where one is made of it.
func (l *guests) comes(t *testing.T, g impl.Gate, s string) impl.Gate {
	t.Helper()
	next, code := inAsByWords(t, g, s)
	if code == 0 {
		f, _ := readByBinary(s)
		leaf := leafByWords(g, f)
		fresh := item(g.Next, int64(len(s)), treeTime(g))
		if _, there := l.came[fresh.Id]; there {
			t.Fatalf("Id %d comes twice", fresh.Id)
		}
		l.came[fresh.Id], l.in[leaf] = fresh, append(l.in[leaf], fresh)
	}
	l.agrees(t, next)
	return next
}

// goes lets one out; it must be the first of its leaf, as it came.
func (l *guests) goes(t *testing.T, g impl.Gate) (impl.Gate, bool) {
	t.Helper()
	next, i, leaf := outAsByWords(t, g)
	if leaf >= 0 {
		if len(l.in[leaf]) == 0 || l.in[leaf][0] != i || l.came[i.Id] != i || l.gone[i.Id] {
			t.Fatalf("Out(%+v) lets %v go, of %v", g, i, l.in)
		}
		l.gone[i.Id], l.in[leaf] = true, l.in[leaf][1:]
	}
	l.agrees(t, next)
	return next, leaf >= 0
}

// someText is right more often than not.
func (d *drawer) someText(k int64) string {
	body := []int64{0, d.below(40), d.below(400), d.below(1501), 1500}[d.below(5)]
	s := textTo(wayTo(d.below(4))+d.below(1<<20), 96+d.below(24), int(body))
	switch d.below(12) {
	case 0:
		return s[:d.below(int64(len(s)))]
	case 1:
		return s + "\x00"
	case 2:
		at := d.below(int64(len(s)))
		return s[:at] + string([]byte{byte(d.below(256))}) + s[at+1:]
	}
	return s
}

// oneAct does any of the four, and keeps the book.
func (d *drawer) oneAct(t *testing.T, g impl.Gate, l *guests, busy int64) impl.Gate {
	t.Helper()
	switch k := d.below(12); {
	case k < busy:
		return l.comes(t, g, d.someText(k))
	case k < 9:
		next, _ := l.goes(t, g)
		return next
	case k < 11:
		now := treeTime(g) + []int64{0, 1, d.below(9), d.below(300), -1 - d.below(9)}[d.below(5)]
		if d.below(40) == 0 {
			now = mostTime
		}
		next := laterAsByWords(t, g, now)
		l.agrees(t, next)
		return next
	}
	routes := [][]impl.Route{routesToAll(), {{Hop: d.below(100)}}, {{Net: 1 << 31, Bits: 1, Hop: d.below(100)}}, {{Bits: 33}}, nil}[d.below(5)]
	next := ruledAsByWords(t, g, routes, [][]impl.Rule{rulesToAll(), nil, d.rules(20, 5), {openRule(1000)}}[d.below(4)])
	l.agrees(t, next)
	return next
}

// The promise: whatever is done, in any order, the gate stays right, and what
// is in comes out once, in order in its leaf, as it came.
func TestWhatIsInComesOutOnce(t *testing.T) {
	draw := &drawer{state: 1616}
	came, gone := 0, 0
	for k, g := range rightGates() {
		// Of these kinds of purses many have room for all Items.
		if kind := k % purseKinds; kind != 1 && kind != 7 && k%5 > 0 {
			continue
		}
		l := guestsOf(g)
		for range 40 {
			g = draw.oneAct(t, g, l, 3+int64(k)/8%4)
		}
		came, gone = came+len(l.came), gone+len(l.gone)
		for _, i := range slices.Concat(l.in...) {
			if l.gone[i.Id] || l.came[i.Id] != i {
				t.Fatalf("%v is in, of %v", i, l.came)
			}
		}
		if left := len(slices.Concat(l.in...)); left+len(l.gone) != len(l.came) {
			t.Fatalf("%d came, %d went, %d are in", len(l.came), len(l.gone), left)
		}
	}
	if came < 4000 || gone < 1000 {
		t.Fatalf("only %d came and %d went", came, gone)
	}
}

// Where each purse has enough with time all that came goes, and none is lost.
func TestAllThatCameGoes(t *testing.T) {
	draw := &drawer{state: 161616}
	for n := 1; n <= mostLeaves; n++ {
		for _, ups := range upShapes(mostNodes) {
			g := gateOf(gateLines()[n%6], treeOf(ups, purse(70, 2500, 100, 9)), leavesOf(n, mostNodes, int64(n))...)
			g.Routes, g.Rules, g.Rows.Most = routesToAll(), rulesToAll(), 30
			l := guestsOf(g)
			for range 60 {
				g = l.comes(t, g, draw.someText(0))
				if draw.below(3) == 0 {
					g, _ = l.goes(t, g)
				}
			}
			if len(l.came) < 20 {
				t.Fatalf("only %d came", len(l.came))
			}
			for went := true; went || len(slices.Concat(l.in...)) > 0; {
				if !went {
					g = laterAsByWords(t, g, treeTime(g)+1)
				}
				g, went = l.goes(t, g)
			}
			if len(l.gone) != len(l.came) {
				t.Fatalf("%d came, %d went", len(l.came), len(l.gone))
			}
		}
	}
}

// Every one of the first steps of small gates, in any order.
func TestAllStepsOfSmallGates(t *testing.T) {
	frames := []impl.Frame{{DPort: 100}, {DPort: 101, Body: "nine more"}}
	var walk func(g impl.Gate, waits [][]int64, steps int)
	walk = func(g impl.Gate, waits [][]int64, steps int) {
		if steps == 0 {
			return
		}
		for _, f := range frames {
			next, code := inAsByWords(t, g, textOf(f))
			to := keptWaits(waits)
			if code == 0 {
				leaf := leafByWords(g, f)
				to[leaf] = append(to[leaf], g.Next)
			}
			inOrder(t, next, to)
			walk(next, to, steps-1)
		}
		next, gone, leaf := outAsByWords(t, g)
		to := keptWaits(waits)
		if leaf >= 0 {
			if to[leaf][0] != gone.Id {
				t.Fatalf("%v goes, of %v", gone, waits)
			}
			to[leaf] = to[leaf][1:]
			inOrder(t, next, to)
			walk(next, to, steps-1)
		}
		next = laterAsByWords(t, g, treeTime(g)+4)
		inOrder(t, next, waits)
		walk(next, waits, steps-1)
		rules := rulesToAll()
		if len(g.Rules) > 0 {
			rules = nil
		}
		next = ruledAsByWords(t, g, g.Routes, rules)
		inOrder(t, next, waits)
		walk(next, waits, steps-1)
	}
	for _, leaves := range [][]int64{{0}, {2}, {1, 2}, {0, 1, 2}} {
		for k, line := range []impl.Line{plain(), cellsLine()} {
			g := gateOf(line, treeOf([]int64{-1, 0, int64(k)}, purse(9, 120, 60, 5), purse(7, 110, 55, 5)), leaves...)
			g.Routes, g.Rules, g.Rows.Most = []impl.Route{{}}, rulesToAll(), 3
			g.Steers[0].Prob = 20000
			walk(g, make([][]int64, len(leaves)), 6)
		}
	}
}

func keptWaits(waits [][]int64) [][]int64 {
	kept := make([][]int64, len(waits))
	for k, ids := range waits {
		kept[k] = append([]int64{}, ids...)
	}
	return kept
}

// inOrder asks for the Ids of each leaf.
func inOrder(t *testing.T, g impl.Gate, waits [][]int64) {
	t.Helper()
	if !slices.EqualFunc(g.Rows.Lists, waits, func(list []impl.Item, ids []int64) bool {
		return slices.EqualFunc(list, ids, func(i impl.Item, id int64) bool { return i.Id == id })
	}) {
		t.Fatalf("in is %v, not %v", g.Rows.Lists, waits)
	}
}

// A wrong Gate stays the zero Gate, whatever is asked of it after.
func TestTheZeroGateStays(t *testing.T) {
	g, code := impl.In(impl.Gate{}, textTo(0, 0, 0))
	h, _, leaf := impl.Out(g)
	l, later := impl.Later(h, 0)
	r, ruled := impl.Ruled(l, routesToAll(), rulesToAll())
	if code != -1 || leaf != -2 || later || ruled || !sameGate(r, impl.Gate{}) {
		t.Fatalf("%d, %d, %v, %v, %+v", code, leaf, later, ruled, r)
	}
	refusedGate(t, r)
}
