package tests

import (
	"math"
	"slices"
	"strings"
	"sync"
	"testing"

	"loop.example/g00316/impl"
)

const (
	mostLeaves = 8
	mostDraw   = 1<<20 - 1
	// How many bytes a frame has at least, and at most.
	leastText = 23
	mostText  = 1529
)

var takenOnce = sync.OnceValue(countedKinds)

// onLineByWords relies on a right line and a right n.
func onLineByWords(l impl.Line, n int64) int64 {
	return takenOnce()[l.Kind][max(n+l.Extra, l.Least)]
}

func rightLineByFields(l impl.Line) bool {
	return !slices.ContainsFunc(lineFields(), func(field lineField) bool {
		return !within(*field.of(&l), field.least, field.greatest)
	})
}

func rightSteerByFields(s impl.Steer) bool {
	return !slices.ContainsFunc(steerFields(), func(field steerField) bool {
		return !within(*field.of(&s), field.least, field.greatest)
	})
}

func rightLeavesByWords(leaves []int64, nodes int) bool {
	for k, leaf := range leaves {
		if !within(leaf, 0, int64(nodes)-1) || k > 0 && leaf <= leaves[k-1] {
			return false
		}
	}
	return 1 <= len(leaves) && len(leaves) <= 8
}

func rightGateByWords(g impl.Gate) bool {
	if !rightLineByFields(g.Line) || !rightRoutesByText(g.Routes) || !rightRulesByText(g.Rules) ||
		!rightTreeByWords(g.Tree) || !rightRowsByPairs(g.Rows) || !rightFairByWords(g.Fair) ||
		!rightLeavesByWords(g.Leaves, len(g.Tree)) || !within(g.Next, 1, mostId) || !within(g.Draw, 0, mostDraw) {
		return false
	}
	n := len(g.Leaves)
	if len(g.Rows.Lists) != n || len(g.Steers) != n || len(g.Fair.Flows) != n {
		return false
	}
	for leaf, list := range g.Rows.Lists {
		if !rightSteerByFields(g.Steers[leaf]) || len(g.Fair.Flows[leaf].Sizes) != len(list) {
			return false
		}
		for k, i := range list {
			if i.Id >= g.Next || g.Fair.Flows[leaf].Sizes[k] != onLineByWords(g.Line, i.Size) {
				return false
			}
		}
	}
	return true
}

func keptGate(g impl.Gate) impl.Gate {
	g.Routes = append([]impl.Route{}, g.Routes...)
	g.Rules = append([]impl.Rule{}, g.Rules...)
	g.Tree = append([]impl.Node{}, g.Tree...)
	g.Leaves = append([]int64{}, g.Leaves...)
	g.Rows = keptRows(g.Rows)
	g.Steers = append([]impl.Steer{}, g.Steers...)
	g.Fair = keptFair(g.Fair)
	return g
}

func sameGate(a, b impl.Gate) bool {
	return a.Line == b.Line && slices.Equal(a.Routes, b.Routes) && slices.Equal(a.Rules, b.Rules) &&
		slices.Equal(a.Tree, b.Tree) && slices.Equal(a.Leaves, b.Leaves) && sameRows(a.Rows, b.Rows) &&
		slices.Equal(a.Steers, b.Steers) && sameFair(a.Fair, b.Fair) && a.Next == b.Next && a.Draw == b.Draw
}

// treeTime, and what follows, relies on a right gate.
func treeTime(g impl.Gate) int64 { return g.Tree[0].Purse.At }

func leafByWords(g impl.Gate, f impl.Frame) int64 {
	return (10*hopBySearch(g.Routes, f.Dst) + classBySearch(g.Rules, f)) % int64(len(g.Leaves))
}

func drawByWords(draw int64) int64 { return (draw*25173 + 13849) % (1 << 20) }

func hasRoom(g impl.Gate, leaf int64) bool {
	return g.Next < mostId && int64(len(slices.Concat(g.Rows.Lists...))) < g.Rows.Most && len(g.Fair.Flows[leaf].Sizes) < 40
}

func inByWords(g impl.Gate, s string) (impl.Gate, int64) {
	next := keptGate(g)
	f, code := readByBinary(s)
	if code != 0 {
		return next, code
	}
	if f.Sum != sumOfByBinary(f) {
		return next, 10
	}
	if hopBySearch(g.Routes, f.Dst) == -1 {
		return next, 11
	}
	size := onLineByWords(g.Line, int64(len(s)))
	if size > 2000 || size < 1 {
		return next, 12
	}
	leaf := leafByWords(g, f)
	next.Draw = drawByWords(g.Draw)
	if g.Draw < g.Steers[leaf].Prob {
		return next, 13
	}
	if !hasRoom(g, leaf) {
		return next, 14
	}
	next.Rows.Lists[leaf] = append(next.Rows.Lists[leaf], item(g.Next, int64(len(s)), treeTime(g)))
	next.Fair, _ = queuedByWords(g.Fair, leaf, size)
	next.Next++
	return next, 0
}

// dueByWords puts all that Can in order, by Begins, then by number.
func dueByWords(g impl.Gate) [][]int64 {
	var order [][]int64
	for leaf, list := range g.Rows.Lists {
		if len(list) > 0 && canByWords(g.Tree, g.Leaves[leaf], onLineByWords(g.Line, list[0].Size)) {
			order = append(order, []int64{beginsByWords(g.Fair, int64(leaf)), int64(leaf)})
		}
	}
	slices.SortFunc(order, slices.Compare[[]int64])
	return order
}

func outByWords(g impl.Gate) (impl.Gate, impl.Item, int64) {
	order := dueByWords(g)
	if len(order) == 0 {
		return keptGate(g), impl.Item{}, -1
	}
	next, begin, leaf := keptGate(g), order[0][0], order[0][1]
	gone := g.Rows.Lists[leaf][0]
	size := onLineByWords(g.Line, gone.Size)
	flow := &next.Fair.Flows[leaf]
	flow.Finish = begin + size*unitPrice(flow.Weight)
	if flow.Finish > mostFair {
		return keptGate(g), impl.Item{}, -1
	}
	flow.Sizes = flow.Sizes[1:]
	next.Fair.Now = begin
	next.Rows.Lists[leaf] = next.Rows.Lists[leaf][1:]
	next.Tree, _ = paidByWords(g.Tree, g.Leaves[leaf], size)
	next.Steers[leaf] = stirredByBig(g.Steers[leaf], stayByWords(gone, treeTime(g)))
	return next, gone, leaf
}

func stayByWords(i impl.Item, now int64) int64 {
	switch {
	case now <= i.At:
		return 0
	case now >= i.At+100000:
		return 100000
	}
	return now - i.At
}

func laterByWords(g impl.Gate, now int64) (impl.Gate, bool) {
	next := keptGate(g)
	next.Tree = treeFilledByWords(g.Tree, now)
	return next, within(now, treeTime(g), mostTime)
}

func ruledByWords(g impl.Gate, routes []impl.Route, rules []impl.Rule) (impl.Gate, bool) {
	next := keptGate(g)
	if !rightRoutesByText(routes) || !rightRulesByText(rules) {
		return next, false
	}
	next.Routes, next.Rules = slices.Clone(routes), slices.Clone(rules)
	return next, true
}

func gateOkIs(t *testing.T, g impl.Gate, want bool) {
	t.Helper()
	if got := impl.GateOk(g); got != want {
		t.Fatalf("GateOk(%+v) = %v", g, got)
	}
}

func newGateIs(t *testing.T, line impl.Line, tree []impl.Node, leaves []int64, want impl.Gate, wantDone bool) {
	t.Helper()
	got, done := impl.NewGate(line, tree, leaves)
	if !sameGate(got, want) || done != wantDone {
		t.Fatalf("NewGate(%+v, %v, %v) = %+v, %v, want %+v, %v", line, tree, leaves, got, done, want, wantDone)
	}
}

func inIs(t *testing.T, g impl.Gate, s string, want impl.Gate, wantCode int64) {
	t.Helper()
	got, code := impl.In(g, s)
	if !sameGate(got, want) || code != wantCode {
		t.Fatalf("In(%+v, %.60q) = %+v, %d, want %+v, %d", g, s, got, code, want, wantCode)
	}
}

func outIs(t *testing.T, g, want impl.Gate, wantItem impl.Item, wantLeaf int64) {
	t.Helper()
	got, i, leaf := impl.Out(g)
	if !sameGate(got, want) || i != wantItem || leaf != wantLeaf {
		t.Fatalf("Out(%+v) = %+v, %v, %d, want %+v, %v, %d", g, got, i, leaf, want, wantItem, wantLeaf)
	}
}

func laterIs(t *testing.T, g impl.Gate, now int64, want impl.Gate, wantDone bool) {
	t.Helper()
	if got, done := impl.Later(g, now); !sameGate(got, want) || done != wantDone {
		t.Fatalf("Later(%+v, %d) = %+v, %v, want %+v, %v", g, now, got, done, want, wantDone)
	}
}

func ruledIs(t *testing.T, g impl.Gate, routes []impl.Route, rules []impl.Rule, want impl.Gate, wantDone bool) {
	t.Helper()
	if got, done := impl.Ruled(g, routes, rules); !sameGate(got, want) || done != wantDone {
		t.Fatalf("Ruled(%+v, %v, %v) = %+v, %v, want %+v, %v", g, routes, rules, got, done, want, wantDone)
	}
}

// Each of the four is held against the words, and what is answered is right.
func inAsByWords(t *testing.T, g impl.Gate, s string) (impl.Gate, int64) {
	t.Helper()
	next, code := inByWords(g, s)
	inIs(t, g, s, next, code)
	gateOkIs(t, next, true)
	return next, code
}

func outAsByWords(t *testing.T, g impl.Gate) (impl.Gate, impl.Item, int64) {
	t.Helper()
	next, gone, leaf := outByWords(g)
	outIs(t, g, next, gone, leaf)
	gateOkIs(t, next, true)
	return next, gone, leaf
}

func laterAsByWords(t *testing.T, g impl.Gate, now int64) impl.Gate {
	t.Helper()
	next, done := laterByWords(g, now)
	laterIs(t, g, now, next, done)
	gateOkIs(t, next, true)
	return next
}

func ruledAsByWords(t *testing.T, g impl.Gate, routes []impl.Route, rules []impl.Rule) impl.Gate {
	t.Helper()
	next, done := ruledByWords(g, routes, rules)
	ruledIs(t, g, routes, rules, next, done)
	gateOkIs(t, next, true)
	return next
}

// refusedGate is what all tell of a gate that is not right, whatever else they
// are given.
func refusedGate(t *testing.T, g impl.Gate) {
	t.Helper()
	gateOkIs(t, g, false)
	for _, s := range []string{textTo(0, 0, 0), "", textTo(1<<31, 103, 9)[:20]} {
		inIs(t, g, s, impl.Gate{}, -1)
	}
	outIs(t, g, impl.Gate{}, impl.Item{}, -2)
	for _, now := range []int64{0, 5000, mostTime, -1, mostTime + 1, math.MinInt64, math.MaxInt64} {
		laterIs(t, g, now, impl.Gate{}, false)
	}
	ruledIs(t, g, nil, nil, impl.Gate{}, false)
	ruledIs(t, g, routesToAll(), rulesToAll(), impl.Gate{}, false)
	ruledIs(t, g, []impl.Route{{Bits: 33}}, []impl.Rule{{}}, impl.Gate{}, false)
}

func plain() impl.Line { return impl.Line{Kind: 1} }

func cellsLine() impl.Line { return impl.Line{Kind: 2, Extra: 8} }

// gateLines are such on which all frames have a right size, some of them just
// the greatest that there may be.
func gateLines() []impl.Line {
	return []impl.Line{
		plain(), {Kind: 1, Extra: 100, Least: 2000}, {Kind: 2, Extra: 8, Least: 64}, {Kind: 2, Extra: 100, Least: 1776},
		{Kind: 3, Extra: 3}, {Kind: 3, Least: 1969},
	}
}

// gateOf has no Items, Routes and Rules.
func gateOf(line impl.Line, tree []impl.Node, leaves ...int64) impl.Gate {
	g := impl.Gate{Line: line, Tree: tree, Leaves: leaves, Rows: rowsOf(100, make([][]impl.Item, len(leaves))...), Next: 1, Draw: 1}
	for range leaves {
		g.Steers = append(g.Steers, steer(20, 0, 0))
		g.Fair.Flows = append(g.Fair.Flows, payer(1, 0))
	}
	return g
}

// laden has these Items too; Next is above them.
func laden(g impl.Gate, leaf int, items ...impl.Item) impl.Gate {
	next := keptGate(g)
	for _, i := range items {
		next.Rows.Lists[leaf] = append(next.Rows.Lists[leaf], i)
		flow := &next.Fair.Flows[leaf]
		flow.Sizes = append(flow.Sizes, onLineByWords(g.Line, i.Size))
		next.Next = max(next.Next, i.Id+1)
	}
	return next
}

// withGate is a copy that was changed.
func withGate(g impl.Gate, change func(g *impl.Gate)) impl.Gate {
	next := keptGate(g)
	change(&next)
	return next
}

// routesToAll have four Hops; wayTo tells an address for each.
func routesToAll() []impl.Route {
	return []impl.Route{{Hop: 0}, {Net: 1 << 30, Bits: 2, Hop: 1}, {Net: 1 << 31, Bits: 1, Hop: 13}, {Net: 3 << 30, Bits: 2, Hop: 99}}
}

func wayTo(k int64) int64 { return k << 30 }

// rulesToAll have each Class, by a DPort from 100 on.
func rulesToAll() []impl.Rule {
	var list []impl.Rule
	for class := range int64(16) {
		list = append(list, impl.Rule{Id: 1 + class, Prio: 5, Proto: -1, Low: 100 + class, High: 100 + class, Class: class})
	}
	return list
}

// textOf has the right Sum.
func textOf(f impl.Frame) string { return showByBinary(withSum(f, sumOfByBinary(f))) }

func textTo(dst, dport int64, body int) string {
	return textOf(impl.Frame{To: 7, Dst: dst, DPort: dport, Body: strings.Repeat("a", body)})
}

// sizedText is of so many bytes, from leastText to mostText.
func sizedText(size int64) string {
	f := impl.Frame{Dst: 9, DPort: 3}
	if size > leastText+1500 {
		f.Tags, size = []int64{1, 2}, size-6
	}
	f.Body = strings.Repeat("\x03", int(size)-leastText)
	return textOf(f)
}

// leavesOf are n of so many Nodes: the last ones, the first ones, or apart.
func leavesOf(n, nodes int, kind int64) []int64 {
	var leaves []int64
	for k := range n {
		leaves = append(leaves, int64([]int{nodes - n + k, k, k * nodes / n}[kind%3]))
	}
	return leaves
}

// someGate is right, and has something in all its parts: Items that came
// ahead, behind and far ahead of its time, unlike Weights and Steers, and
// Finish below, at and above Now.
func someGate(n int, shape int, kind int64, line impl.Line, at int64, items int) impl.Gate {
	nodes := min(n+int(kind)%4, mostNodes)
	g := gateOf(line, someTree(upShapes(nodes)[shape], kind, at), leavesOf(n, nodes, kind)...)
	g.Routes, g.Rules = routesToAll(), rulesToAll()
	g.Rows.Most = min(200, max(1, int64(items)+kind%3))
	g.Fair.Now = 5000 * kind
	for k := range int64(n) {
		g.Steers[k] = steer(1+k*140, k*k*1500, []int64{0, 1, 30000, mostProb / 2, mostProb}[(k+kind)%5])
		g.Fair.Flows[k] = payer(1+(k*7+kind)%mostWeight, max(0, g.Fair.Now+[]int64{-700, 0, 7, 5000, -1}[(k+kind)%5]))
	}
	for k := range int64(items) {
		came := at + []int64{0, -1, -19, -100000, -100001, 3, -7}[k%7]
		g = laden(g, int(k)%n, item(1+2*k, 1+(k*37+kind)%1500, min(max(came, 0), mostTime)))
	}
	g.Draw = (kind*123457 + at) % (1 << 20)
	return g
}

func rightGates() []impl.Gate {
	var list []impl.Gate
	for k, line := range gateLines() {
		for _, n := range []int{1, 2, 3, 8} {
			for shape := range 5 {
				for kind := range int64(purseKinds) {
					at := []int64{0, 5000, 200000, mostTime - 1, mostTime}[(k+n+shape+int(kind))%5]
					items := []int{0, 1, 7, 25, min(40*n, 200)}[(k*2+shape+int(kind)*3)%5]
					list = append(list, someGate(n, shape, kind, line, at, items))
				}
			}
		}
	}
	return list
}

// fewGates are some of each count of leaves.
func fewGates() []impl.Gate {
	var list []impl.Gate
	for k, g := range rightGates() {
		if k%37 == 0 {
			list = append(list, g)
		}
	}
	return list
}

// goodGate has two leaves, all purses full, and a Route for all.
func goodGate() impl.Gate {
	g := gateOf(plain(), treeOf(starUps(3), purse(10, 9000, 9000, 70)), 1, 2)
	g.Routes = []impl.Route{{Hop: 4}}
	return g
}

func TestGateCodes(t *testing.T) {
	if impl.GtSum != 10 || impl.GtWay != 11 || impl.GtBig != 12 || impl.GtSteer != 13 || impl.GtFull != 14 {
		t.Fatal("the codes are others")
	}
}

func TestGateOkOfRightGates(t *testing.T) {
	leaves := map[int]int{}
	for _, g := range rightGates() {
		if !rightGateByWords(g) {
			t.Fatalf("%+v is right", g)
		}
		gateOkIs(t, g, true)
		leaves[len(g.Leaves)]++
	}
	if len(leaves) != 4 || leaves[1] < 50 || leaves[8] < 50 {
		t.Fatalf("too few gates: %v", leaves)
	}
}

// Each edge that is met exactly.
func TestGateOkAtEdges(t *testing.T) {
	good := goodGate()
	for _, change := range []func(g *impl.Gate){
		func(g *impl.Gate) {},
		func(g *impl.Gate) { g.Routes = nil },
		func(g *impl.Gate) { g.Routes, g.Rules = fullRoutes(), numbered(openRule(1), 1, 40) },
		func(g *impl.Gate) { g.Next = 1 },
		func(g *impl.Gate) { g.Next = mostId },
		func(g *impl.Gate) { g.Draw = 0 },
		func(g *impl.Gate) { g.Draw = mostDraw },
		func(g *impl.Gate) { g.Rows.Most = 1 },
		func(g *impl.Gate) { g.Rows.Most = 200 },
		func(g *impl.Gate) { g.Leaves = []int64{0, 1} },
		func(g *impl.Gate) { g.Leaves = []int64{0, 2} },
		func(g *impl.Gate) { g.Leaves = []int64{1, 2} },
		func(g *impl.Gate) { g.Steers[1] = steer(mostTarget, mostDelay, mostProb) },
		func(g *impl.Gate) { g.Fair.Now, g.Fair.Flows[0] = mostFair, payer(mostWeight, mostFair) },
		func(g *impl.Gate) { *g = laden(*g, 1, item(1, 1, 0)) },
		func(g *impl.Gate) { *g = laden(*g, 1, item(1, 2000, mostTime)) },
		func(g *impl.Gate) { *g = laden(*g, 0, item(mostId-1, 5, 70)) },
		func(g *impl.Gate) { *g = laden(*g, 0, item(mostId-1, 5, 71), item(1, 5, 69)) },
		func(g *impl.Gate) { *g = laden(*g, 0, item(7, 5, 71)); g.Next = 8 },
		func(g *impl.Gate) { *g = laden(*g, 0, item(7, 5, 71)); g.Next = mostId },
		// What is not in order in one leaf may well be: only Next is above all.
		func(g *impl.Gate) { *g = laden(*g, 1, item(9, 5, 71), item(3, 5, 9), item(4, 5, 72)) },
	} {
		gateOkIs(t, withGate(good, change), true)
	}
	cells := gateOf(impl.Line{Kind: 2, Extra: 8}, treeOf(lineUps(12), purse(1, 1, 0, 3)), 11)
	// 41 to 88 take two cells: any of these Sizes is right with 106.
	for size := int64(38); size <= 91; size++ {
		g := laden(cells, 0, item(1, 50, 0))
		g.Rows.Lists[0][0].Size = size
		gateOkIs(t, g, within(size, 41, 88))
	}
	// The line's greatest: 2000 is right, and no more.
	words := gateOf(impl.Line{Kind: 3, Least: 1969}, treeOf(lineUps(12), purse(1, 1, 0, 3)), 0)
	gateOkIs(t, laden(words, 0, item(1, 1, 0), item(2, 1969, 0)), true)
	gateOkIs(t, laden(words, 0, item(1, 1970, 0)), false)
	gateOkIs(t, laden(good, 0, item(1, 2001, 0)), false)
}

func TestGateOkAtEachCountOfLeaves(t *testing.T) {
	tree := treeOf(starUps(12), purse(10, 90, 9, 70))
	for n := range 13 {
		for kind := range int64(3) {
			leaves := []int64{}
			if n > 0 {
				leaves = leavesOf(n, 12, kind)
			}
			g := gateOf(plain(), tree, leaves...)
			if 1 <= n && n <= 8 {
				gateOkIs(t, g, true)
				newGateIs(t, plain(), tree, leaves, g, true)
			} else {
				refusedGate(t, g)
				newGateIs(t, plain(), tree, leaves, impl.Gate{}, false)
			}
		}
	}
}

// wrongGates have one thing that is wrong, by hand.
func wrongGates() map[string]impl.Gate {
	good := laden(laden(goodGate(), 0, item(5, 30, 70), item(8, 40, 60)), 1, item(6, 50, 65))
	list := map[string]func(g *impl.Gate){
		"no leaves":            func(g *impl.Gate) { g.Leaves = nil },
		"leaves fall":          func(g *impl.Gate) { g.Leaves = []int64{2, 1} },
		"a leaf twice":         func(g *impl.Gate) { g.Leaves = []int64{1, 1} },
		"a leaf of no tree":    func(g *impl.Gate) { g.Leaves = []int64{1, 3} },
		"a leaf below 0":       func(g *impl.Gate) { g.Leaves = []int64{-1, 1} },
		"one leaf less":        func(g *impl.Gate) { g.Leaves = []int64{1} },
		"one leaf more":        func(g *impl.Gate) { g.Leaves = []int64{0, 1, 2} },
		"one List less":        func(g *impl.Gate) { g.Rows.Lists = g.Rows.Lists[:1] },
		"one List more":        func(g *impl.Gate) { g.Rows.Lists = append(g.Rows.Lists, nil) },
		"no Lists":             func(g *impl.Gate) { g.Rows.Lists = nil },
		"one Steer less":       func(g *impl.Gate) { g.Steers = g.Steers[:1] },
		"one Steer more":       func(g *impl.Gate) { g.Steers = append(g.Steers, steer(20, 0, 0)) },
		"no Steers":            func(g *impl.Gate) { g.Steers = nil },
		"one Flow less":        func(g *impl.Gate) { g.Fair.Flows = g.Fair.Flows[:1] },
		"one Flow more":        func(g *impl.Gate) { g.Fair.Flows = append(g.Fair.Flows, payer(1, 0)) },
		"no Flows":             func(g *impl.Gate) { g.Fair.Flows = nil },
		"one Size less":        func(g *impl.Gate) { g.Fair.Flows[0].Sizes = []int64{30} },
		"one Size more":        func(g *impl.Gate) { g.Fair.Flows[0].Sizes = []int64{30, 40, 40} },
		"no Sizes":             func(g *impl.Gate) { g.Fair.Flows[1].Sizes = nil },
		"Sizes of no Items":    func(g *impl.Gate) { g.Rows.Lists[1] = nil },
		"a first Size":         func(g *impl.Gate) { g.Fair.Flows[0].Sizes[0] = 31 },
		"a last Size":          func(g *impl.Gate) { g.Fair.Flows[0].Sizes[1] = 39 },
		"Sizes the other way":  func(g *impl.Gate) { g.Fair.Flows[0].Sizes = []int64{40, 30} },
		"Sizes of each other":  func(g *impl.Gate) { g.Fair.Flows[0].Sizes, g.Fair.Flows[1].Sizes = []int64{50}, []int64{30, 40} },
		"Lists change places":  func(g *impl.Gate) { slices.Reverse(g.Rows.Lists) },
		"Sizes ahead of Extra": func(g *impl.Gate) { g.Line.Extra = 1 },
		"Sizes of no cells":    func(g *impl.Gate) { g.Line.Kind = 2 },
		"Sizes below Least":    func(g *impl.Gate) { g.Line.Least = 31 },
		"Next of 0":            func(g *impl.Gate) { g.Next = 0 },
		"Next is the greatest": func(g *impl.Gate) { g.Next = 8 },
		"Next is another":      func(g *impl.Gate) { g.Next = 6 },
		"Next of 1":            func(g *impl.Gate) { g.Next = 1 },
		"Next above MaxId":     func(g *impl.Gate) { g.Next = mostId + 1 },
		"Id and Next of MaxId": func(g *impl.Gate) { g.Rows.Lists[1][0].Id, g.Next = mostId, mostId },
		"Next above Id MaxId":  func(g *impl.Gate) { g.Rows.Lists[1][0].Id, g.Next = mostId, mostId+1 },
		"Draw of -1":           func(g *impl.Gate) { g.Draw = -1 },
		"Draw of One":          func(g *impl.Gate) { g.Draw = 1 << 20 },
		"an Id twice":          func(g *impl.Gate) { g.Rows.Lists[1][0].Id = 8 },
		"an Id of 0":           func(g *impl.Gate) { g.Rows.Lists[1][0].Id = 0 },
		"more Items than Most": func(g *impl.Gate) { g.Rows.Most = 2 },
		"one time is another":  func(g *impl.Gate) { g.Tree[2].Purse.At = 71 },
		"a first Steer":        func(g *impl.Gate) { g.Steers[0].Target = 0 },
		"a last Steer":         func(g *impl.Gate) { g.Steers[1].Prob = mostProb + 1 },
		"no tree":              func(g *impl.Gate) { g.Tree = nil },
		"a tree of one":        func(g *impl.Gate) { g.Tree = g.Tree[:1] },
		"a tree of 13":         func(g *impl.Gate) { g.Tree = treeOf(lineUps(13), g.Tree[0].Purse) },
		"nothing":              func(g *impl.Gate) { *g = impl.Gate{} },
	}
	gates := map[string]impl.Gate{}
	for name, change := range list {
		gates[name] = withGate(good, change)
	}
	return gates
}

func TestWrongGatesByHand(t *testing.T) {
	for name, g := range wrongGates() {
		if impl.GateOk(g) || rightGateByWords(g) {
			t.Errorf("%s: %+v is wrong", name, g)
		}
		refusedGate(t, g)
	}
}

// eachWrongPart asks of gates one part of which alone is not right.
func eachWrongPart(ask func(g impl.Gate)) {
	good := goodGate()
	wrong := func(change func(g *impl.Gate)) { ask(withGate(good, change)) }
	for _, l := range wrongLines() {
		wrong(func(g *impl.Gate) { g.Line = l })
	}
	for _, list := range wrongLists() {
		wrong(func(g *impl.Gate) { g.Routes = list })
	}
	for _, list := range wrongRuleLists() {
		wrong(func(g *impl.Gate) { g.Rules = list })
	}
	for k, tree := range wrongTrees() {
		if k%7 == 0 || len(tree) > 12 {
			wrong(func(g *impl.Gate) { g.Tree, g.Leaves = tree, []int64{0, 1} })
			wrong(func(g *impl.Gate) { *g = gateOf(plain(), tree, 0) })
		}
	}
	for _, s := range wrongSteers() {
		wrong(func(g *impl.Gate) { g.Steers[0] = s })
		wrong(func(g *impl.Gate) { g.Steers[1] = s })
	}
	for _, i := range wrongItems() {
		// OnLine of a Size that is not right would be -1, which is no Size.
		for _, size := range []int64{-1, 0, 1, i.Size} {
			wrong(func(g *impl.Gate) {
				g.Rows.Lists[1], g.Fair.Flows[1].Sizes, g.Next = []impl.Item{i}, []int64{size}, mostId
			})
		}
	}
	for _, size := range append(wrongAround(1, mostFairSize), 1, 29, 31, mostFairSize) {
		wrong(func(g *impl.Gate) {
			*g = laden(*g, 1, item(1, 30, 70))
			g.Fair.Flows[1].Sizes[0] = size
		})
	}
	for _, most := range wrongAround(1, 200) {
		wrong(func(g *impl.Gate) { g.Rows.Most = most })
	}
	for _, now := range wrongFor(fairFields()[0]) {
		wrong(func(g *impl.Gate) { g.Fair.Now = now })
		wrong(func(g *impl.Gate) { g.Fair.Flows[1].Finish = now })
	}
	for _, weight := range wrongAround(1, mostWeight) {
		wrong(func(g *impl.Gate) { g.Fair.Flows[1].Weight = weight })
	}
	for _, next := range wrongAround(1, mostId) {
		wrong(func(g *impl.Gate) { g.Next = next })
	}
	for _, draw := range wrongAround(0, mostDraw) {
		wrong(func(g *impl.Gate) { g.Draw = draw })
	}
	for _, leaf := range outside(3) {
		wrong(func(g *impl.Gate) { g.Leaves[1] = leaf })
		wrong(func(g *impl.Gate) { g.Leaves[0] = leaf })
	}
}

// Each part that is not right is found, whatever the others are.
func TestWrongPartsOfGates(t *testing.T) {
	eachWrongPart(func(g impl.Gate) {
		t.Helper()
		gateOkIs(t, g, false)
		inIs(t, g, textTo(0, 0, 0), impl.Gate{}, -1)
		outIs(t, g, impl.Gate{}, impl.Item{}, -2)
		laterIs(t, g, 100, impl.Gate{}, false)
		ruledIs(t, g, nil, nil, impl.Gate{}, false)
	})
	good := goodGate()
	for _, l := range wrongLines() {
		newGateIs(t, l, good.Tree, good.Leaves, impl.Gate{}, false)
	}
	for _, tree := range wrongTrees() {
		newGateIs(t, plain(), tree, []int64{0}, impl.Gate{}, false)
	}
	for _, leaf := range outside(3) {
		newGateIs(t, plain(), good.Tree, []int64{leaf}, impl.Gate{}, false)
		newGateIs(t, plain(), good.Tree, []int64{1, leaf}, impl.Gate{}, false)
	}
}

func TestNewGateByHand(t *testing.T) {
	tree := treeOf([]int64{-1, 0, 0}, purse(10, 50, 20, 4), purse(2, 40, 30, 4), purse(1, 40, 5, 4))
	line := impl.Line{Kind: 2, Extra: 8, Least: 64}
	got, done := impl.NewGate(line, tree, []int64{1, 2})
	if !done || got.Line != line || len(got.Routes) != 0 || len(got.Rules) != 0 || !slices.Equal(got.Tree, tree) ||
		!slices.Equal(got.Leaves, []int64{1, 2}) || got.Rows.Most != 100 || len(got.Rows.Lists) != 2 ||
		len(got.Rows.Lists[0])+len(got.Rows.Lists[1]) != 0 || got.Next != 1 || got.Draw != 1 ||
		!slices.Equal(got.Steers, []impl.Steer{{Target: 20}, {Target: 20}}) ||
		!sameFair(got.Fair, fairOf(0, payer(1, 0), payer(1, 0))) {
		t.Fatalf("NewGate is %+v, %v", got, done)
	}
	newGateIs(t, line, tree, []int64{0}, gateOf(line, tree, 0), true)
	newGateIs(t, line, tree, []int64{0, 1, 2}, gateOf(line, tree, 0, 1, 2), true)
	for _, leaves := range [][]int64{nil, {}, {3}, {-1}, {1, 1}, {2, 1}, {0, 2, 1}, {0, 1, 2, 3}, {-1, 0}, {math.MinInt64}, {math.MaxInt64}, {0, math.MaxInt64}, {math.MinInt64, 0}, make([]int64, 9), make([]int64, 1<<16+1)} {
		newGateIs(t, line, tree, leaves, impl.Gate{}, false)
	}
	newGateIs(t, impl.Line{}, tree, []int64{1}, impl.Gate{}, false)
	newGateIs(t, line, nil, []int64{0}, impl.Gate{}, false)
	newGateIs(t, impl.Line{Kind: 4}, nil, nil, impl.Gate{}, false)
}

// All lists of up to four leaves, over trees of up to four Nodes.
func TestNewGateOfAllSmallLeaves(t *testing.T) {
	var lists [][]int64
	last := [][]int64{{}}
	for range 4 {
		var longer [][]int64
		for _, list := range last {
			for leaf := int64(-1); leaf <= 4; leaf++ {
				longer = append(longer, append(slices.Clone(list), leaf))
			}
		}
		lists, last = append(lists, longer...), longer
	}
	for nodes := 1; nodes <= 4; nodes++ {
		tree := treeOf(lineUps(nodes), purse(3, 10, 5, 4))
		for _, leaves := range lists {
			g := gateOf(plain(), tree, leaves...)
			right := rightLeavesByWords(leaves, nodes)
			gateOkIs(t, g, right)
			if !right {
				g = impl.Gate{}
			}
			newGateIs(t, plain(), tree, leaves, g, right)
		}
	}
}

func TestNewGateOfRightParts(t *testing.T) {
	for k, tree := range rightTrees() {
		line := rightLines()[k%len(rightLines())]
		n := 1 + k%min(len(tree), mostLeaves)
		leaves := leavesOf(n, len(tree), int64(k))
		newGateIs(t, line, tree, leaves, gateOf(line, tree, leaves...), true)
		g, _ := impl.NewGate(line, tree, leaves)
		gateOkIs(t, g, true)
		outIs(t, g, g, impl.Item{}, -1)
		inIs(t, g, textTo(0, 0, 5), g, impl.GtWay)
	}
}

func TestInByHand(t *testing.T) {
	tree := treeOf([]int64{-1, 0, 0}, purse(10, 500, 20, 7))
	g := gateOf(cellsLine(), tree, 1, 2)
	g.Fair = fairOf(500, payer(1, 100), payer(3, 900))
	inIs(t, g, textTo(0, 0, 0), g, impl.GtWay)
	g.Routes = []impl.Route{{Hop: 3}}
	g.Rules = []impl.Rule{{Id: 1, Proto: -1, Low: 80, High: 90, Class: 5}}

	// 23 bytes and 8 go in one cell; nothing waited in leaf 0.
	want := withGate(g, func(g *impl.Gate) {
		g.Rows.Lists[0] = []impl.Item{item(1, 23, 7)}
		g.Fair = fairOf(500, payer(1, 500, 53), payer(3, 900))
		g.Next, g.Draw = 2, 39022
	})
	inIs(t, g, textTo(0, 0, 0), want, 0)
	// 41 bytes and 8 go in two; 30 and 5 lead to leaf 1, whose Finish is above Now.
	g, want = want, withGate(want, func(g *impl.Gate) {
		g.Rows.Lists[1] = []impl.Item{item(2, 41, 7)}
		g.Fair = fairOf(500, payer(1, 500, 53), payer(3, 900, 106))
		g.Next, g.Draw = 3, 847519
	})
	inIs(t, g, textTo(5, 85, 18), want, 0)
	// Behind the first one in leaf 0, at a later time.
	g, _ = impl.Later(want, 12)
	g.Fair.Now = 600
	want = withGate(g, func(g *impl.Gate) {
		g.Rows.Lists[0] = []impl.Item{item(1, 23, 7), item(3, 40, 12)}
		g.Fair = fairOf(600, payer(1, 500, 53, 53), payer(3, 900, 106))
		g.Next, g.Draw = 4, 282340
	})
	inIs(t, g, textTo(1<<31, 79, 17), want, 0)
	// The Steer of leaf 1 is hit: Draw alone is another.
	g = want
	g.Steers[1].Prob = 282341
	inIs(t, g, textTo(0, 80, 0), withGate(g, func(g *impl.Gate) { g.Draw = 110541 }), impl.GtSteer)
	g.Steers[1].Prob = 282340
	want = withGate(g, func(g *impl.Gate) {
		g.Rows.Lists[1] = []impl.Item{item(2, 41, 7), item(4, 23, 12)}
		g.Fair.Flows[1].Sizes = []int64{106, 53}
		g.Next, g.Draw = 5, 110541
	})
	inIs(t, g, textTo(0, 80, 0), want, 0)
	// There is no room any more: Draw alone is another.
	want.Rows.Most = 4
	inIs(t, want, textTo(0, 0, 0), withGate(want, func(g *impl.Gate) { g.Draw = 790314 }), impl.GtFull)
}

func TestDrawsByHand(t *testing.T) {
	for _, c := range [][2]int64{{0, 13849}, {1, 39022}, {39022, 847519}, {1 << 19, 538137}, {mostDraw, 1037252}} {
		g := goodGate()
		g.Draw = c[0]
		next, code := impl.In(g, textTo(0, 0, 0))
		if code != 0 || next.Draw != c[1] {
			t.Fatalf("behind %d comes %d, code %d, want %d", c[0], next.Draw, code, c[1])
		}
	}
	// Whatever a Draw is, the next one is a right one, and no two are alike.
	g, seen := goodGate(), map[int64]bool{}
	g.Steers[0].Prob = mostProb
	for range 3000 {
		next, code := impl.In(g, textTo(0, 0, 0))
		if code != impl.GtSteer || next.Draw != drawByWords(g.Draw) || seen[next.Draw] {
			t.Fatalf("behind %d comes %d, code %d", g.Draw, next.Draw, code)
		}
		seen[next.Draw] = true
		g = next
	}
}

// Each Hop and each Class, with each count of leaves.
func TestInLeadsToEachLeaf(t *testing.T) {
	rules := rulesToAll()
	for n := int64(1); n <= mostLeaves; n++ {
		g := gateOf(plain(), treeOf(starUps(12), purse(1, 1, 1, 9)), leavesOf(int(n), 12, n)...)
		g.Rules = rules
		counts := make([]int, n)
		for hop := range int64(100) {
			g.Routes = []impl.Route{{Hop: hop}}
			for class := range int64(16) {
				next, code := impl.In(g, textTo(hop*77, 100+class, int(class)))
				leaf := (hop*10 + class) % n
				if code != 0 || len(next.Rows.Lists[leaf]) != 1 || len(next.Fair.Flows[leaf].Sizes) != 1 {
					t.Fatalf("%d leaves, Hop %d, Class %d: code %d, %v", n, hop, class, code, next.Rows)
				}
				counts[leaf]++
			}
		}
		if slices.Min(counts) < 100 {
			t.Fatalf("%d leaves: %v", n, counts)
		}
	}
}

// The longest that fits and the rule that goes ahead lead.
func TestInGoesByRoutesAndRules(t *testing.T) {
	g := gateOf(plain(), treeOf(starUps(12), purse(1, 1, 1, 9)), leavesOf(8, 12, 0)...)
	draw := &drawer{state: 1601}
	ways := 0
	for round := range int64(150) {
		list := fullRoutes()
		if round%3 > 0 {
			list = []impl.Route{}
			for range draw.below(20) {
				list = append(list, draw.route(26-round%4))
			}
			list = inRouteOrder(list...)
		}
		rules := draw.rules(round%41, 3)
		g = ruledAsByWords(t, g, list, rules)
		for range 20 {
			addrs := append(edgesOf(list), 0xaaaaaaaa, 0xaaaaaaab)
			f := impl.Frame{
				Src: []int64{0, mostAddr, 0xaaaaaaaa, 1 << 31}[draw.below(4)], Dst: addrs[draw.below(int64(len(addrs)))],
				Proto: []int64{0, 6, 255, 17}[draw.below(4)], DPort: []int64{0, 1, 80, 65534, 65535}[draw.below(5)],
				SPort: draw.below(65536), Mark: draw.below(4), Tags: []int64{5, 6}[:draw.below(3)],
			}
			if _, code := inAsByWords(t, g, textOf(f)); code == 0 {
				ways++
			}
		}
	}
	if ways < 1000 {
		t.Fatalf("only %d came in", ways)
	}
}

// Each size that a text can have, on lines of each kind.
func TestInOfEachSize(t *testing.T) {
	for _, line := range gateLines() {
		g := goodGate()
		g.Line = line
		for size := int64(leastText); size <= mostText; size++ {
			s := sizedText(size)
			if int64(len(s)) != size {
				t.Fatalf("%d bytes, not %d", len(s), size)
			}
			next, code := impl.In(g, s)
			takes := onLineByWords(line, size)
			if code != 0 || !slices.Equal(next.Rows.Lists[0], []impl.Item{item(1, size, 70)}) || !slices.Equal(next.Fair.Flows[0].Sizes, []int64{takes}) {
				t.Fatalf("%+v, %d bytes: code %d, %v, %v, want %d", line, size, code, next.Rows, next.Fair, takes)
			}
		}
	}
}

// trouble is something for which one code is told.
type trouble struct {
	name  string
	code  int64
	frame func(f *impl.Frame)
	text  func(s string) string
	gate  func(g *impl.Gate)
	// laden ones can't be where no Item may be.
	laden bool
}

// troubles are in the order of their codes.
func troubles() []trouble {
	list := []trouble{
		{name: "empty", code: 1, text: func(s string) string { return "" }},
		{name: "short in the head", code: 1, text: func(s string) string { return s[:9] }},
		{name: "short by one", code: 1, text: func(s string) string { return s[:len(s)-1] }},
		{name: "a Tag of 4096", code: 2, text: func(s string) string { return s[:4] + "\x01\x10\x00" + s[4:] }},
		{name: "three Tags", code: 2, text: func(s string) string { return s[:4] + strings.Repeat("\x01\x00\x01", 3) + s[4:] }},
		{name: "a kind 0", code: 3, text: func(s string) string { return s[:4] + "\x00" + s[5:] }},
		{name: "a kind 3", code: 3, text: func(s string) string { return s[:4] + "\x03" + s[5:] }},
		{name: "Mark 4", code: 4, text: func(s string) string { return s[:18] + "\x04" + s[19:] }},
		{name: "a Body of 1501", code: 5, text: func(s string) string { return s[:21] + "\x05\xdd" + strings.Repeat("a", 1501) }},
		{name: "one byte more", code: 6, text: func(s string) string { return s + "a" }},
		{name: "Sum 1 more", code: impl.GtSum, frame: func(f *impl.Frame) { f.Sum++ }},
		{name: "a bit of Sum", code: impl.GtSum, frame: func(f *impl.Frame) { f.Sum ^= 256 }},
		{name: "no Routes", code: impl.GtWay, gate: func(g *impl.Gate) { g.Routes = nil }},
		{name: "none that fits", code: impl.GtWay, gate: func(g *impl.Gate) { g.Routes = []impl.Route{{Net: 1 << 31, Bits: 1}, {Net: mostAddr, Bits: 32}} }},
		{name: "2001 in words", code: impl.GtBig, gate: func(g *impl.Gate) { g.Line = impl.Line{Kind: 3, Least: 1970} }},
		{name: "2014 in cells", code: impl.GtBig, gate: func(g *impl.Gate) { g.Line = impl.Line{Kind: 2, Least: 1777} }},
		{name: "a Prob of One", code: impl.GtSteer, gate: func(g *impl.Gate) { g.Steers[0].Prob = mostProb }},
		{name: "Draw just below Prob", code: impl.GtSteer, gate: func(g *impl.Gate) { g.Steers[0].Prob = g.Draw + 1 }},
		{name: "Next of MaxId", code: impl.GtFull, gate: func(g *impl.Gate) { g.Next = mostId }},
		{name: "Most in the other leaf", code: impl.GtFull, laden: true, gate: func(g *impl.Gate) {
			*g = laden(*g, 1, item(3, 30, 60))
			g.Rows.Most = int64(len(slices.Concat(g.Rows.Lists...)))
		}},
		{name: "40 Sizes", code: impl.GtFull, laden: true, gate: func(g *impl.Gate) {
			for k := range int64(40) {
				*g = laden(*g, 0, item(100+k, 25, 60))
			}
			g.Rows.Most = 200
		}},
	}
	return list
}

// troubled is the good gate and a right text with all these troubles.
func troubled(list ...trouble) (impl.Gate, string) {
	f := impl.Frame{To: 1, Dst: 77, DPort: 80, Proto: 6, Body: "abc"}
	f.Sum = sumOfByBinary(f)
	g := goodGate()
	for _, x := range list {
		if x.frame != nil {
			x.frame(&f)
		}
		// The line is set ahead of Items, whose Sizes go by it.
		if x.gate != nil {
			x.gate(&g)
		}
	}
	s := showByBinary(f)
	for _, x := range list {
		if x.text != nil {
			s = x.text(s)
		}
	}
	return g, s
}

// toldFirst asks for the first of the codes, and for a gate in which nothing
// but Draw is another, and Draw from GtSteer on alone.
func toldFirst(t *testing.T, list ...trouble) {
	t.Helper()
	g, s := troubled(list...)
	gateOkIs(t, g, true)
	want := keptGate(g)
	if list[0].code >= impl.GtSteer {
		want.Draw = 39022
	}
	got, code := impl.In(g, s)
	if code != list[0].code || !sameGate(got, want) {
		for _, x := range list {
			t.Log(x.name)
		}
		t.Fatalf("In(%+v, %q) = %+v, %d", g, s, got, code)
	}
	inAsByWords(t, g, s)
}

func canBeTogether(list ...trouble) bool {
	texts, big, loads := 0, false, false
	for _, x := range list {
		if x.text != nil {
			texts++
		}
		big = big || x.code == impl.GtBig
		loads = loads || x.laden
	}
	return texts <= 1 && !(big && loads)
}

func TestEachCodeOfIn(t *testing.T) {
	g, s := troubled()
	inIs(t, g, s, withGate(laden(g, 0, item(1, 26, 70)), func(g *impl.Gate) { g.Draw = 39022 }), 0)
	for _, x := range troubles() {
		toldFirst(t, x)
	}
}

// Of two and of three at once the one named first is told.
func TestCodesOfInAtOnce(t *testing.T) {
	list, count := troubles(), 0
	for a := range list {
		for b := a; b < len(list); b++ {
			for c := b; c < len(list); c++ {
				three := []trouble{list[a], list[b], list[c]}
				if a == b || b == c || !canBeTogether(three...) {
					continue
				}
				toldFirst(t, three...)
				count++
			}
			if a < b && canBeTogether(list[a], list[b]) {
				toldFirst(t, list[a], list[b])
				count++
			}
		}
	}
	if count < 500 {
		t.Fatalf("only %d", count)
	}
}

// All texts with one byte that is another, and all cuts, are told by the words.
func TestInOfChangedTexts(t *testing.T) {
	g := someGate(8, 4, 1, plain(), 5000, 7)
	codes := map[int64]int{}
	for _, f := range []impl.Frame{{Dst: 1 << 31, DPort: 105, Body: "hello"}, {Tags: []int64{4095, 1}, Src: 77, Dst: 9, Body: "\x02"}} {
		s := textOf(f)
		for at := range len(s) {
			for b := range 256 {
				_, code := inAsByWords(t, g, s[:at]+string([]byte{byte(b)})+s[at+1:])
				codes[code]++
			}
			inAsByWords(t, g, s[:at])
			inAsByWords(t, g, s[at:])
			inAsByWords(t, g, s+s[:at])
		}
	}
	for _, code := range []int64{0, 1, 2, 3, 4, 5, 6, impl.GtSum} {
		if codes[code] == 0 {
			t.Fatalf("code %d is never told: %v", code, codes)
		}
	}
	for _, s := range []string{"", "\x00", strings.Repeat("\x00", 100000), strings.Repeat("\x01", 200001), strings.Repeat("a", 1<<20), sizedText(mostText) + strings.Repeat("a", 1<<17)} {
		inAsByWords(t, g, s)
	}
}

// Draw just below Prob is hit; just Prob and above it is not; the Steers of
// other leaves are not asked.
func TestGtSteerAtEdges(t *testing.T) {
	for _, prob := range append(someProbs(), 39022, 800000) {
		for _, draw := range []int64{0, 1, prob - 2, prob - 1, prob, prob + 1, mostDraw - 1, mostDraw} {
			if !within(draw, 0, mostDraw) {
				continue
			}
			for leaf := range int64(2) {
				g := goodGate()
				g.Rules = rulesToAll()
				g.Draw = draw
				g.Steers[leaf].Prob, g.Steers[1-leaf].Prob = prob, mostProb-prob
				want := laden(g, int(leaf), item(1, 24, 70))
				code := int64(0)
				if draw < prob {
					want, code = keptGate(g), impl.GtSteer
				}
				want.Draw = drawByWords(draw)
				inIs(t, g, textTo(0, 100+leaf, 1), want, code)
			}
		}
	}
}

func TestGtFullAtEdges(t *testing.T) {
	s := textTo(0, 0, 2)
	full := func(g impl.Gate) {
		t.Helper()
		gateOkIs(t, g, true)
		inIs(t, g, s, withGate(g, func(g *impl.Gate) { g.Draw = drawByWords(g.Draw) }), impl.GtFull)
	}
	comes := func(g impl.Gate) impl.Gate {
		t.Helper()
		gateOkIs(t, g, true)
		next := laden(g, 0, item(g.Next, 25, 70))
		next.Draw = drawByWords(g.Draw)
		inIs(t, g, s, next, 0)
		return next
	}
	// Next of MaxId is never given; 1 less is the last Id.
	g := goodGate()
	g.Next = mostId - 1
	next := comes(g)
	if next.Next != mostId {
		t.Fatalf("Next is %d", next.Next)
	}
	full(next)
	gone, _, leaf := impl.Out(next)
	if leaf != 0 || len(gone.Rows.Lists[0]) != 0 {
		t.Fatalf("Out(%+v) = %+v, %d", next, gone, leaf)
	}
	full(gone)
	// Most as many as there are, and 1 more, in one leaf or the other.
	for _, most := range []int64{1, 2, 3, 38, 39} {
		for leaf := range 2 {
			g := goodGate()
			g.Rows.Most = most
			for k := range most - 1 {
				g = laden(g, leaf, item(1+k, 30, 0))
			}
			full(comes(g))
			g.Rows.Most = most + 1
			comes(comes(g))
		}
	}
	// 200 in all, in leaves with room.
	g = gateOf(plain(), treeOf(starUps(12), purse(1, 1, 1, 70)), leavesOf(8, 12, 0)...)
	g.Routes, g.Rows.Most = []impl.Route{{}}, 200
	for k := range int64(199) {
		g = laden(g, 1+int(k)%7, item(1+k, 30, 0))
	}
	full(comes(g))
	// A Flow with 40, and with 39; 40 in the other one.
	for count := int64(38); count <= 40; count++ {
		g := goodGate()
		for k := range count {
			g = laden(g, 0, item(1+k, 30, 0))
		}
		for k := range int64(40) {
			g = laden(g, 1, item(50+k, 30, 0))
		}
		if count < 40 {
			g = comes(g)
		}
		if count == 38 {
			g = comes(g)
		}
		full(g)
	}
}

func TestGtBigAtEdges(t *testing.T) {
	for _, c := range []struct {
		line  impl.Line
		takes int64
	}{
		{impl.Line{Kind: 1, Least: 1999}, 1999}, {impl.Line{Kind: 1, Least: 2000}, 2000}, {impl.Line{Kind: 1, Extra: 100, Least: 2000}, 2000},
		{impl.Line{Kind: 3, Least: 1968}, 1999}, {impl.Line{Kind: 3, Least: 1969}, 2000}, {impl.Line{Kind: 3, Least: 1970}, 2001}, {impl.Line{Kind: 3, Least: 2000}, 2032},
		{impl.Line{Kind: 2, Least: 1776}, 1961}, {impl.Line{Kind: 2, Least: 1777}, 2014}, {impl.Line{Kind: 2, Least: 2000}, 2226},
	} {
		for _, size := range []int64{leastText, 100, mostText} {
			onLineIs(t, c.line, size, c.takes)
			g := goodGate()
			g.Line = c.line
			next, code := inAsByWords(t, g, sizedText(size))
			if c.takes <= 2000 && (code != 0 || next.Fair.Flows[0].Sizes[0] != c.takes) || c.takes > 2000 && (code != impl.GtBig || !sameGate(next, g)) {
				t.Fatalf("%+v, %d bytes: code %d, %v", c.line, size, code, next.Fair)
			}
		}
	}
}
