package tests

import (
	"math"
	"slices"
	"testing"

	"loop.example/g00316/impl"
)

const mostNodes = 12

// treeOf has these Ups, and the purses one after another, from the first on
// again where there are fewer.
func treeOf(ups []int64, purses ...impl.Purse) []impl.Node {
	var tree []impl.Node
	for k, up := range ups {
		tree = append(tree, impl.Node{Up: up, Purse: purses[k%len(purses)]})
	}
	return tree
}

// lineUps are of n Nodes, each under the one ahead of it.
func lineUps(n int) []int64 {
	var ups []int64
	for k := range int64(n) {
		ups = append(ups, k-1)
	}
	return ups
}

// starUps are of n Nodes, all under number 0.
func starUps(n int) []int64 { return append([]int64{-1}, make([]int64, n)...)[:n] }

// upShapes are deep, wide and mixed ones of n Nodes.
func upShapes(n int) [][]int64 {
	halves, comb := []int64{-1}, []int64{-1}
	for k := int64(1); k < mostNodes; k++ {
		halves = append(halves, (k-1)/2)
		comb = append(comb, (k-1)/2*2)
	}
	mixed := []int64{-1, 0, 0, 1, 0, 3, 3, 2, 7, 4, 9, 6}
	return [][]int64{lineUps(n), starUps(n), halves[:n], comb[:n], mixed[:n]}
}

// allUps are those of all trees of n Nodes.
func allUps(n int) [][]int64 {
	list := [][]int64{{-1}}
	for k := int64(1); k < int64(n); k++ {
		var longer [][]int64
		for _, ups := range list {
			for up := range k {
				longer = append(longer, append(append([]int64{}, ups...), up))
			}
		}
		list = longer
	}
	return list
}

const purseKinds = 8

// purseOfKind is what number k has in a tree of this kind.
func purseOfKind(kind, k, at int64) impl.Purse {
	return []impl.Purse{
		purse(10+k, 100+7*k, 50+k, at),
		purse(mostRate, mostSize, mostSize-k, at),
		purse(k%2, 1, k%3%2, at),
		// The least Level is at the top, then at the bottom, then between.
		purse(3, 40, 2*k, at),
		purse(3+k%2, 60, 30-2*k, at),
		purse(1+k%4, 20+k*5%13, k*5%13, at),
		// Some get nothing with time; the least Burst is the last one's.
		purse(k%3*2, 30-k, 10, at),
		purse(1, mostSize-k*k*700, k*11%5, at),
	}[kind]
}

func someTree(ups []int64, kind, at int64) []impl.Node {
	var tree []impl.Node
	for k, up := range ups {
		tree = append(tree, impl.Node{Up: up, Purse: purseOfKind(kind, int64(k), at)})
	}
	return tree
}

func rightTrees() [][]impl.Node {
	var list [][]impl.Node
	for _, n := range []int{1, 2, 3, 6, 11, 12} {
		for _, ups := range upShapes(n) {
			for kind := range int64(purseKinds) {
				for _, at := range []int64{0, 1, 5000, mostTime - 101, mostTime - 1, mostTime} {
					list = append(list, someTree(ups, kind, at))
				}
			}
		}
	}
	return list
}

// wrongUps are what number k of n can't have.
func wrongUps(k, n int) []int64 {
	own := int64(k)
	if k == 0 {
		return append(wrongAround(-1, -1), 0, 1, 2, 11, 12, 1<<32-1, 255, 65535)
	}
	all := append(wrongAround(0, own-1), -1, own, own+1, int64(n)-1+own, int64(n), 13, 1<<32, 1<<32+1, 1<<8, 1<<16)
	return slices.DeleteFunc(all, func(up int64) bool { return within(up, 0, own-1) })
}

func wrongTrees() [][]impl.Node {
	list := [][]impl.Node{nil, {}, {{}}, {{Up: -1}}, {{Purse: purse(1, 1, 1, 0)}}}
	for _, n := range []int{13, 14, 24, 255, 256, 257, 268, 1<<16 + 1} {
		for _, ups := range [][]int64{lineUps(n), starUps(n)} {
			list = append(list, treeOf(ups, purse(3, 10, 5, 4)))
		}
	}
	for _, n := range []int{1, 2, 6, 12} {
		for place := range n {
			for shape, ups := range upShapes(n) {
				tree := func() []impl.Node { return someTree(ups, int64(shape), 5000) }
				for _, up := range wrongUps(place, n) {
					wrong := tree()
					wrong[place].Up = up
					list = append(list, wrong)
				}
				for _, at := range []int64{0, 4999, 5001, mostTime} {
					wrong := tree()
					wrong[place].Purse.At = at
					if n > 1 {
						list = append(list, wrong)
					}
				}
			}
			for _, p := range wrongPurses() {
				wrong := someTree(lineUps(n), 0, p.At)
				wrong[place].Purse = p
				list = append(list, wrong)
			}
		}
	}
	return list
}

func rightPurseByWords(p impl.Purse) bool {
	return within(p.Rate, 0, 1000) && within(p.Burst, 1, mostSize) && within(p.Level, 0, p.Burst) && within(p.At, 0, mostTime)
}

func rightTreeByWords(tree []impl.Node) bool {
	if len(tree) < 1 || len(tree) > 12 {
		return false
	}
	for k, x := range tree {
		if k == 0 && x.Up != -1 || k > 0 && !within(x.Up, 0, int64(k)-1) || !rightPurseByWords(x.Purse) {
			return false
		}
		for _, other := range tree {
			if other.Purse.At != x.Purse.At {
				return false
			}
		}
	}
	return true
}

// pathByWords, and what follows, relies on a right tree; nothing comes of an n
// that is none of it.
func pathByWords(tree []impl.Node, n int64) []int64 {
	var path []int64
	if !within(n, 0, int64(len(tree))-1) {
		return path
	}
	for ; n != -1; n = tree[n].Up {
		path = append(path, n)
	}
	return path
}

func treeFilledByWords(tree []impl.Node, now int64) []impl.Node {
	next := append([]impl.Node{}, tree...)
	if !within(now, tree[0].Purse.At, mostTime) {
		return next
	}
	for k := range next {
		next[k].Purse = filledByBig(tree[k].Purse, now)
	}
	return next
}

func canByWords(tree []impl.Node, n, size int64) bool {
	if !within(n, 0, int64(len(tree))-1) || size < 0 {
		return false
	}
	for _, number := range pathByWords(tree, n) {
		if tree[number].Purse.Level < size {
			return false
		}
	}
	return true
}

func paidByWords(tree []impl.Node, n, size int64) ([]impl.Node, bool) {
	next := append([]impl.Node{}, tree...)
	if !canByWords(tree, n, size) {
		return next, false
	}
	for _, number := range pathByWords(tree, n) {
		next[number].Purse.Level -= size
	}
	return next, true
}

func whenCanByWords(tree []impl.Node, n, size int64) int64 {
	if !within(n, 0, int64(len(tree))-1) || size < 0 {
		return -1
	}
	last := tree[0].Purse.At
	for _, number := range pathByWords(tree, n) {
		there := whenByBig(tree[number].Purse, size)
		if there == -1 {
			return -1
		}
		last = max(last, there)
	}
	return last
}

func treeOkIs(t *testing.T, tree []impl.Node, want bool) {
	t.Helper()
	if got := impl.TreeOk(tree); got != want {
		t.Fatalf("TreeOk(%v) = %v", tree, got)
	}
}

func pathIs(t *testing.T, tree []impl.Node, n int64, want ...int64) {
	t.Helper()
	if got := impl.PathOf(tree, n); !slices.Equal(got, want) {
		t.Fatalf("PathOf(%v, %d) = %v, want %v", tree, n, got, want)
	}
}

func treeFilledIs(t *testing.T, tree []impl.Node, now int64, want []impl.Node) {
	t.Helper()
	if got := impl.TreeFilled(tree, now); !slices.Equal(got, want) {
		t.Fatalf("TreeFilled(%v, %d) = %v, want %v", tree, now, got, want)
	}
}

func canIs(t *testing.T, tree []impl.Node, n, size int64, want bool) {
	t.Helper()
	if got := impl.Can(tree, n, size); got != want {
		t.Fatalf("Can(%v, %d, %d) = %v", tree, n, size, got)
	}
}

func paidIs(t *testing.T, tree []impl.Node, n, size int64, want []impl.Node, wantDone bool) {
	t.Helper()
	if got, done := impl.Paid(tree, n, size); !slices.Equal(got, want) || done != wantDone {
		t.Fatalf("Paid(%v, %d, %d) = %v, %v, want %v, %v", tree, n, size, got, done, want, wantDone)
	}
}

func whenCanIs(t *testing.T, tree []impl.Node, n, size, want int64) {
	t.Helper()
	if got := impl.WhenCan(tree, n, size); got != want {
		t.Fatalf("WhenCan(%v, %d, %d) = %d, want %d", tree, n, size, got, want)
	}
}

// askedAsByWords holds all that is told of one n and one size against the
// words.
func askedAsByWords(t *testing.T, tree []impl.Node, n, size int64) {
	t.Helper()
	canIs(t, tree, n, size, canByWords(tree, n, size))
	next, done := paidByWords(tree, n, size)
	paidIs(t, tree, n, size, next, done)
	whenCanIs(t, tree, n, size, whenCanByWords(tree, n, size))
}

// sizesAround are near each Level and each Burst on the path and beside it,
// near what some ticks bring, and far above.
func sizesAround(tree []impl.Node) []int64 {
	list := []int64{0, 1, 2, mostSize, mostSize + 1, math.MaxInt64}
	for _, x := range tree {
		for _, edge := range []int64{x.Purse.Level, x.Purse.Burst, x.Purse.Level + x.Purse.Rate, x.Purse.Level + 3*x.Purse.Rate} {
			list = append(list, max(edge-1, 0), edge, edge+1)
		}
	}
	slices.Sort(list)
	return slices.Compact(list)
}

func leastOf(tree []impl.Node, path []int64, of func(p impl.Purse) int64) int64 {
	least := int64(math.MaxInt64)
	for _, number := range path {
		least = min(least, of(tree[number].Purse))
	}
	return least
}

func levelOf(p impl.Purse) int64 { return p.Level }

func burstOf(p impl.Purse) int64 { return p.Burst }

// refusedByAll is what all tell of a tree that is not right.
func refusedByAll(t *testing.T, tree []impl.Node, n, size, now int64) {
	t.Helper()
	treeOkIs(t, tree, false)
	pathIs(t, tree, n)
	treeFilledIs(t, tree, now, nil)
	canIs(t, tree, n, size, false)
	paidIs(t, tree, n, size, nil, false)
	whenCanIs(t, tree, n, size, -1)
}

func TestTreeOk(t *testing.T) {
	for _, tree := range rightTrees() {
		if !rightTreeByWords(tree) {
			t.Fatalf("%v is right", tree)
		}
		treeOkIs(t, tree, true)
	}
	for _, tree := range wrongTrees() {
		if rightTreeByWords(tree) {
			t.Fatalf("%v is wrong", tree)
		}
		treeOkIs(t, tree, false)
	}
}

func TestTreeOkAtEachSize(t *testing.T) {
	for n := range 300 {
		for _, ups := range [][]int64{lineUps(n), starUps(n)} {
			tree := treeOf(ups, purse(3, 10, 5, 4))
			treeOkIs(t, tree, 1 <= n && n <= mostNodes)
			if n == 0 || n > mostNodes {
				refusedByAll(t, tree, 0, 0, 4)
				refusedByAll(t, tree, int64(n)-1, 5, 9)
			}
		}
	}
}

// Each Up near its ends, at each place of trees of each size.
func TestTreeOkAtEachUp(t *testing.T) {
	for n := 1; n <= mostNodes; n++ {
		for _, ups := range upShapes(n) {
			for place := range n {
				tree := someTree(ups, 0, 4)
				for up := int64(-30); up <= 30; up++ {
					tree[place].Up = up
					treeOkIs(t, tree, place == 0 && up == -1 || place > 0 && up >= 0 && up < int64(place))
				}
				for _, up := range wrongUps(place, n) {
					tree[place].Up = up
					treeOkIs(t, tree, false)
				}
			}
		}
	}
}

func TestTreeOkOfAllSmall(t *testing.T) {
	for a := int64(-3); a <= 4; a++ {
		for b := int64(-3); b <= 4; b++ {
			for c := int64(-3); c <= 4; c++ {
				tree := treeOf([]int64{a, b, c}, purse(3, 10, 5, 4))
				treeOkIs(t, tree, a == -1 && b == 0 && (c == 0 || c == 1))
			}
		}
	}
	for n := 1; n <= 7; n++ {
		for _, ups := range allUps(n) {
			treeOkIs(t, treeOf(ups, purse(3, 10, 5, 4)), true)
		}
	}
}

// A purse that is not right is found at each place, on the path that is asked
// or beside it.
func TestTreeOkFindsEachWrongPurse(t *testing.T) {
	for _, ups := range upShapes(mostNodes) {
		for place := range mostNodes {
			for _, p := range wrongPurses() {
				tree := someTree(ups, 0, p.At)
				tree[place].Purse = p
				refusedByAll(t, tree, 0, 0, 5000)
				refusedByAll(t, tree, 11, 1, mostTime)
			}
		}
	}
}

// One At that is unlike the others is found at each place, and two halves.
func TestTreeOkFindsUnlikeTimes(t *testing.T) {
	for n := 2; n <= mostNodes; n++ {
		for _, ups := range upShapes(n) {
			for place := range n {
				for _, at := range []int64{0, 1, 4999, 5000, 5001, mostTime} {
					tree := someTree(ups, 0, 5000)
					tree[place].Purse.At = at
					treeOkIs(t, tree, at == 5000)
					if at != 5000 {
						refusedByAll(t, tree, int64(place), 1, 6000)
						refusedByAll(t, tree, 0, 0, mostTime)
					}
				}
				tree := someTree(ups, 0, 5000)
				for k := range place {
					tree[k].Purse.At = 5001
				}
				treeOkIs(t, tree, place == 0)
			}
		}
	}
}

func TestPathOfByHand(t *testing.T) {
	mixed := treeOf([]int64{-1, 0, 0, 1, 0, 3, 3, 2, 7, 4, 9, 6}, purse(3, 10, 5, 4))
	pathIs(t, mixed, 0, 0)
	pathIs(t, mixed, 1, 1, 0)
	pathIs(t, mixed, 2, 2, 0)
	pathIs(t, mixed, 3, 3, 1, 0)
	pathIs(t, mixed, 4, 4, 0)
	pathIs(t, mixed, 5, 5, 3, 1, 0)
	pathIs(t, mixed, 6, 6, 3, 1, 0)
	pathIs(t, mixed, 8, 8, 7, 2, 0)
	pathIs(t, mixed, 10, 10, 9, 4, 0)
	pathIs(t, mixed, 11, 11, 6, 3, 1, 0)
	pathIs(t, mixed, 12)
	pathIs(t, mixed, -1)
	line := treeOf(lineUps(12), purse(0, 1, 0, 0))
	pathIs(t, line, 11, 11, 10, 9, 8, 7, 6, 5, 4, 3, 2, 1, 0)
	pathIs(t, line, 1, 1, 0)
	star := treeOf(starUps(12), purse(0, 1, 0, 0))
	pathIs(t, star, 11, 11, 0)
	pathIs(t, star, 5, 5, 0)
	one := treeOf(lineUps(1), purse(0, 1, 0, 0))
	pathIs(t, one, 0, 0)
	pathIs(t, one, 1)
	pathIs(t, one, -1)
	pathIs(t, treeOf(lineUps(13), purse(0, 1, 0, 0)), 0)
	pathIs(t, nil, 0)
}

// A path begins with n, goes by Ups, and ends with 0.
func pathGoesUp(t *testing.T, tree []impl.Node, n int64) {
	t.Helper()
	path := impl.PathOf(tree, n)
	if len(path) == 0 || path[0] != n || path[len(path)-1] != 0 {
		t.Fatalf("PathOf(%v, %d) = %v", tree, n, path)
	}
	for k := 1; k < len(path); k++ {
		if path[k] != tree[path[k-1]].Up {
			t.Fatalf("PathOf(%v, %d) = %v: %d is not the Up of %d", tree, n, path, path[k], path[k-1])
		}
	}
}

func TestPathOfAllSmall(t *testing.T) {
	for n := 1; n <= 7; n++ {
		for _, ups := range allUps(n) {
			tree := treeOf(ups, purse(3, 10, 5, 4))
			for number := range int64(n) {
				pathGoesUp(t, tree, number)
				pathIs(t, tree, number, pathByWords(tree, number)...)
			}
			pathIs(t, tree, -1)
			pathIs(t, tree, int64(n))
		}
	}
}

func TestPathOfRightTrees(t *testing.T) {
	for _, tree := range rightTrees() {
		for number := range int64(len(tree)) {
			pathGoesUp(t, tree, number)
			pathIs(t, tree, number, pathByWords(tree, number)...)
		}
	}
}

func TestTreeFilledByHand(t *testing.T) {
	ups := []int64{-1, 0, 0, 2}
	tree := treeOf(ups, purse(10, 50, 20, 4), purse(2, 40, 30, 4), purse(0, 9, 3, 4), purse(1000, 100, 0, 4))
	treeFilledIs(t, tree, 4, tree)
	treeFilledIs(t, tree, 5, treeOf(ups, purse(10, 50, 30, 5), purse(2, 40, 32, 5), purse(0, 9, 3, 5), purse(1000, 100, 100, 5)))
	treeFilledIs(t, tree, 7, treeOf(ups, purse(10, 50, 50, 7), purse(2, 40, 36, 7), purse(0, 9, 3, 7), purse(1000, 100, 100, 7)))
	treeFilledIs(t, tree, 9, treeOf(ups, purse(10, 50, 50, 9), purse(2, 40, 40, 9), purse(0, 9, 3, 9), purse(1000, 100, 100, 9)))
	treeFilledIs(t, tree, mostTime, treeOf(ups, purse(10, 50, 50, mostTime), purse(2, 40, 40, mostTime), purse(0, 9, 3, mostTime), purse(1000, 100, 100, mostTime)))
	for _, now := range []int64{3, 0, -1, math.MinInt64, mostTime + 1, math.MaxInt64} {
		treeFilledIs(t, tree, now, tree)
	}
	last := treeOf(ups, purse(10, 50, 20, mostTime))
	treeFilledIs(t, last, mostTime, last)
	treeFilledIs(t, last, mostTime-1, last)
	treeFilledIs(t, last, mostTime+1, last)
	treeFilledIs(t, treeOf(ups, purse(1, 50, 20, 0)), 0, treeOf(ups, purse(1, 50, 20, 0)))
	treeFilledIs(t, treeOf(ups, purse(1, 50, 20, 0)), 1, treeOf(ups, purse(1, 50, 21, 1)))
	treeFilledIs(t, treeOf(ups, purse(1, 50, 20, mostTime-1)), mostTime, treeOf(ups, purse(1, 50, 21, mostTime)))
	treeFilledIs(t, treeOf([]int64{-1, 1}, purse(1, 50, 20, 0)), 1, nil)
	treeFilledIs(t, nil, 0, nil)
}

// Each is Filled, whatever stands above it.
func TestTreeFilledIsEachFilled(t *testing.T) {
	for _, tree := range rightTrees() {
		for _, now := range timesFrom(tree[0].Purse.At) {
			want := append([]impl.Node{}, tree...)
			for k := range want {
				want[k].Purse = impl.Filled(tree[k].Purse, now)
			}
			treeFilledIs(t, tree, now, want)
			treeFilledIs(t, tree, now, treeFilledByWords(tree, now))
			treeOkIs(t, want, true)
		}
	}
}

func TestTreeFilledByTurns(t *testing.T) {
	for _, tree := range rightTrees() {
		byTicks, at := tree, tree[0].Purse.At
		for now := at; now <= min(at+25, mostTime); now++ {
			byTicks = impl.TreeFilled(byTicks, now)
			treeFilledIs(t, tree, now, byTicks)
		}
		for _, now := range timesFrom(at) {
			between := impl.TreeFilled(tree, now)
			for _, later := range []int64{now, min(now+1, mostTime), min(now+17, mostTime), mostTime} {
				treeFilledIs(t, between, later, impl.TreeFilled(tree, later))
			}
		}
	}
}

func TestTreeFilledAtWrongTimes(t *testing.T) {
	for _, tree := range rightTrees() {
		at := tree[0].Purse.At
		for _, now := range append(wrongTimes(), at-1, at-2, at/2-1) {
			treeFilledIs(t, tree, now, tree)
		}
		if at > 0 {
			treeFilledIs(t, tree, 0, tree)
		}
	}
}

func TestCanByHand(t *testing.T) {
	tree := treeOf([]int64{-1, 0, 0, 1, 3}, purse(1, 50, 20, 4), purse(1, 50, 30, 4), purse(1, 50, 5, 4), purse(0, 50, 19, 4), purse(1, 50, 40, 4))
	for _, c := range []struct {
		n, size int64
		want    bool
	}{
		{0, 0, true}, {0, 20, true}, {0, 21, false},
		// The one above has least, then itself, then one between.
		{1, 20, true}, {1, 21, false}, {1, 30, false}, {1, 31, false},
		{2, 5, true}, {2, 6, false}, {2, 20, false},
		{3, 19, true}, {3, 20, false},
		{4, 19, true}, {4, 20, false}, {4, 40, false}, {4, 0, true},
		{0, -1, false}, {4, -1, false}, {4, math.MinInt64, false}, {4, math.MaxInt64, false},
		{5, 0, false}, {-1, 0, false}, {5, 1, false}, {-1, 1, false}, {-1, -1, false},
		{math.MinInt64, 0, false}, {math.MaxInt64, 0, false}, {1 << 32, 0, false},
	} {
		canIs(t, tree, c.n, c.size, c.want)
	}
	canIs(t, treeOf(lineUps(2), purse(1, 50, 0, 4)), 1, 0, true)
	canIs(t, treeOf(lineUps(2), purse(1, 50, 0, 4)), 1, 1, false)
	canIs(t, treeOf(lineUps(2), purse(1, mostSize, mostSize, mostTime)), 1, mostSize, true)
	canIs(t, treeOf(lineUps(2), purse(1, mostSize, mostSize, mostTime)), 1, mostSize+1, false)
	canIs(t, treeOf([]int64{0, 0}, purse(1, 50, 20, 4)), 0, 0, false)
	canIs(t, nil, 0, 0, false)
}

// In a line, whoever has least says, wherever it stands.
func TestCanAtEachPlaceOfTheLeast(t *testing.T) {
	for n := 1; n <= mostNodes; n++ {
		for least := range n {
			tree := treeOf(lineUps(n), purse(0, 100, 60, 4))
			tree[least].Purse.Level = 40
			for number := range int64(n) {
				most := int64(60)
				if int64(least) <= number {
					most = 40
				}
				canIs(t, tree, number, most, true)
				canIs(t, tree, number, most+1, false)
			}
			star := treeOf(starUps(n), purse(0, 100, 60, 4))
			star[least].Purse.Level = 40
			for number := range int64(n) {
				canIs(t, star, number, 41, number != int64(least) && least != 0)
				canIs(t, star, number, 40, true)
			}
		}
	}
}

func TestPaidByHand(t *testing.T) {
	ups := []int64{-1, 0, 0, 1}
	tree := treeOf(ups, purse(1, 50, 20, 4), purse(2, 60, 30, 4), purse(3, 70, 5, 4), purse(0, 80, 19, 4))
	for _, c := range []struct {
		n, size int64
		levels  [4]int64
		done    bool
	}{
		{0, 7, [4]int64{13, 30, 5, 19}, true},
		{0, 20, [4]int64{0, 30, 5, 19}, true},
		{0, 21, [4]int64{20, 30, 5, 19}, false},
		{1, 20, [4]int64{0, 10, 5, 19}, true},
		{1, 21, [4]int64{20, 30, 5, 19}, false},
		{2, 5, [4]int64{15, 30, 0, 19}, true},
		{2, 6, [4]int64{20, 30, 5, 19}, false},
		{3, 19, [4]int64{1, 11, 5, 0}, true},
		{3, 1, [4]int64{19, 29, 5, 18}, true},
		{3, 20, [4]int64{20, 30, 5, 19}, false},
		{3, 0, [4]int64{20, 30, 5, 19}, true},
		{0, 0, [4]int64{20, 30, 5, 19}, true},
		{3, -1, [4]int64{20, 30, 5, 19}, false},
		{3, math.MinInt64, [4]int64{20, 30, 5, 19}, false},
		{3, math.MaxInt64, [4]int64{20, 30, 5, 19}, false},
		{4, 0, [4]int64{20, 30, 5, 19}, false},
		{-1, 0, [4]int64{20, 30, 5, 19}, false},
		{4, 1, [4]int64{20, 30, 5, 19}, false},
		{math.MinInt64, 1, [4]int64{20, 30, 5, 19}, false},
		{math.MaxInt64, 1, [4]int64{20, 30, 5, 19}, false},
	} {
		want := append([]impl.Node{}, tree...)
		for k := range want {
			want[k].Purse.Level = c.levels[k]
		}
		paidIs(t, tree, c.n, c.size, want, c.done)
	}
	paidIs(t, treeOf([]int64{-1, -1}, purse(1, 50, 20, 4)), 0, 0, nil, false)
	paidIs(t, nil, 0, 0, nil, false)
}

// Of each on the path so much goes, and of no other.
func TestPaidTakesOfThePathAlone(t *testing.T) {
	for _, tree := range rightTrees() {
		for number := range int64(len(tree)) {
			path := pathByWords(tree, number)
			size := leastOf(tree, path, levelOf)
			next, done := impl.Paid(tree, number, size)
			if !done || !impl.TreeOk(next) || len(next) != len(tree) {
				t.Fatalf("Paid(%v, %d, %d) = %v, %v", tree, number, size, next, done)
			}
			for k := range tree {
				want := tree[k]
				if slices.Contains(path, int64(k)) {
					want.Purse.Level -= size
				}
				if next[k] != want {
					t.Fatalf("Paid(%v, %d, %d): number %d has become %v", tree, number, size, k, next[k])
				}
			}
			paidIs(t, tree, number, size+1, tree, false)
			// Paid in two is as Paid at once.
			half, _ := impl.Paid(tree, number, size/2)
			paidIs(t, half, number, size-size/2, next, true)
		}
	}
}

func TestWhenCanByHand(t *testing.T) {
	tree := treeOf([]int64{-1, 0, 0, 1, 1}, purse(10, 50, 20, 4), purse(2, 40, 30, 4), purse(1, 40, 5, 4), purse(0, 45, 25, 4), purse(7, 30, 0, 4))
	for _, c := range []struct{ n, size, want int64 }{
		{0, 0, 4}, {0, 20, 4}, {0, 21, 5}, {0, 30, 5}, {0, 31, 6}, {0, 50, 7}, {0, 51, -1},
		// The one above is what is waited for, then itself.
		{1, 20, 4}, {1, 30, 5}, {1, 31, 6}, {1, 32, 6}, {1, 33, 6}, {1, 36, 7}, {1, 40, 9}, {1, 41, -1},
		{2, 5, 4}, {2, 6, 5}, {2, 25, 24}, {2, 40, 39}, {2, 41, -1},
		// A Rate of 0 on the path: never more than there is.
		{3, 20, 4}, {3, 21, 5}, {3, 25, 5}, {3, 26, -1}, {3, 40, -1},
		{4, 0, 4}, {4, 1, 5}, {4, 7, 5}, {4, 8, 6}, {4, 28, 8}, {4, 29, 9}, {4, 30, 9}, {4, 31, -1},
		{0, -1, -1}, {4, -1, -1}, {4, math.MinInt64, -1}, {4, math.MaxInt64, -1},
		{5, 0, -1}, {-1, 0, -1}, {5, 1, -1}, {-1, 1, -1}, {math.MinInt64, 0, -1}, {math.MaxInt64, 0, -1},
	} {
		whenCanIs(t, tree, c.n, c.size, c.want)
	}
	zero := treeOf(lineUps(2), purse(0, 1, 0, 0))
	whenCanIs(t, zero, 1, 0, 0)
	whenCanIs(t, zero, 1, 1, -1)
	whenCanIs(t, treeOf(lineUps(2), purse(0, 1, 1, mostTime)), 1, 1, mostTime)
	whenCanIs(t, treeOf([]int64{-1, 1}, purse(1, 50, 20, 4)), 0, 0, -1)
	whenCanIs(t, nil, 0, 0, -1)
}

// It is just the last time, and one more would be above it, by whoever on the
// path is waited for.
func TestWhenCanUpToTheLastTime(t *testing.T) {
	for n := 1; n <= mostNodes; n++ {
		for slow := range n {
			for _, c := range []struct{ rate, level, ticks int64 }{{1, 0, 90}, {1, 0, 1}, {1, 10, 80}, {3, 0, 30}, {3, 1, 30}, {3, 2, 30}, {7, 0, 13}, {1000, 89, 1}} {
				for _, late := range []int64{-2, -1, 0, 1, 2} {
					at := mostTime - c.ticks + late
					if at > mostTime {
						continue
					}
					tree := treeOf(lineUps(n), purse(5, 100, 90, at))
					tree[slow].Purse = purse(c.rate, 100, c.level, at)
					size := int64(90)
					if c.ticks == 1 && c.rate == 1 {
						size = 1
					}
					want := at + c.ticks
					if want > mostTime {
						want = -1
					}
					whenCanIs(t, tree, int64(n)-1, size, want)
					if slow > 0 {
						whenCanIs(t, tree, int64(slow)-1, size, at)
					}
				}
			}
		}
	}
	far := treeOf(lineUps(3), purse(mostRate, mostSize, 0, mostTime-mostSize), purse(1, mostSize, 0, mostTime-mostSize))
	whenCanIs(t, far, 2, mostSize, mostTime)
	whenCanIs(t, treeOf(lineUps(3), purse(mostRate, mostSize, 0, mostTime-mostSize+1), purse(1, mostSize, 0, mostTime-mostSize+1)), 2, mostSize, -1)
	whenCanIs(t, far, 0, mostSize, mostTime-mostSize+100)
	whenCanIs(t, far, 2, mostSize-1, mostTime-1)
}

// What gets nothing with time holds up those under it, and no other.
func TestRateOfNoughtOnThePathAndBesideIt(t *testing.T) {
	for _, ups := range upShapes(mostNodes) {
		for dry := range mostNodes {
			tree := treeOf(ups, purse(2, 50, 10, 7))
			tree[dry].Purse.Rate = 0
			for number := range int64(mostNodes) {
				on := slices.Contains(pathByWords(tree, number), int64(dry))
				canIs(t, tree, number, 10, true)
				whenCanIs(t, tree, number, 10, 7)
				want := int64(8)
				if on {
					want = -1
				}
				whenCanIs(t, tree, number, 11, want)
				canIs(t, impl.TreeFilled(tree, 8), number, 11, !on)
				canIs(t, impl.TreeFilled(tree, mostTime), number, 50, !on)
			}
		}
	}
}

// Just the least Burst on the path is there some time, 1 more never.
func TestTheLeastBurstOnThePath(t *testing.T) {
	for _, tree := range rightTrees() {
		at := tree[0].Purse.At
		for number := range int64(len(tree)) {
			path := pathByWords(tree, number)
			burst := leastOf(tree, path, burstOf)
			askedAsByWords(t, tree, number, burst)
			whenCanIs(t, tree, number, burst+1, -1)
			canIs(t, impl.TreeFilled(tree, mostTime), number, burst+1, false)
			thrifty := slices.ContainsFunc(path, func(k int64) bool { return tree[k].Purse.Rate == 0 })
			if first := impl.WhenCan(tree, number, burst); !thrifty && at < mostTime-mostSize && first == -1 {
				t.Fatalf("WhenCan(%v, %d, %d) = -1", tree, number, burst)
			}
		}
	}
}

func TestRightTreesByWords(t *testing.T) {
	for k, tree := range rightTrees() {
		for number := range int64(len(tree)) {
			sizes := sizesAround(tree)
			for s, size := range sizes {
				// A part of them, another one for each tree and number.
				if len(tree) > 3 && (s+k+int(number))%3 > 0 {
					continue
				}
				askedAsByWords(t, tree, number, size)
			}
			level := leastOf(tree, pathByWords(tree, number), levelOf)
			for _, size := range []int64{0, level, level + 1} {
				askedAsByWords(t, tree, number, size)
			}
		}
	}
}

// Each size from below 0 to above each Burst, at each time of some.
func TestEachSizeOfSmallTrees(t *testing.T) {
	for n := 1; n <= 4; n++ {
		for _, ups := range allUps(n) {
			for _, at := range []int64{0, 9, mostTime - 5} {
				tree := treeOf(ups, purse(3, 17, 6, at), purse(2, 12, 9, at), purse(0, 15, 8, at), purse(5, 20, 0, at))
				for number := int64(-2); number < int64(n)+2; number++ {
					for size := int64(-4); size <= 23; size++ {
						askedAsByWords(t, tree, number, size)
					}
				}
			}
		}
	}
}

// At the time that WhenCan tells it Can, and at no time ahead of it, asked time
// by time.
func TestWhenCanTimeByTime(t *testing.T) {
	const most = 60
	for k, tree := range rightTrees() {
		if k%5 > 0 {
			continue
		}
		at := tree[0].Purse.At
		var byTime [][]impl.Node
		for now := at; now <= min(at+most, mostTime); now++ {
			byTime = append(byTime, impl.TreeFilled(tree, now))
		}
		last := impl.TreeFilled(tree, mostTime)
		for number := range int64(len(tree)) {
			for s, size := range sizesAround(tree) {
				if len(tree) > 3 && s%3 > 0 {
					continue
				}
				ticks := slices.IndexFunc(byTime, func(x []impl.Node) bool { return impl.Can(x, number, size) })
				got := impl.WhenCan(tree, number, size)
				if ticks >= 0 && got != at+int64(ticks) || ticks < 0 && got != -1 && got <= at+most {
					t.Fatalf("WhenCan(%v, %d, %d) = %d: it Can after %d ticks", tree, number, size, got, ticks)
				}
				if (got != -1) != impl.Can(last, number, size) {
					t.Fatalf("WhenCan(%v, %d, %d) = %d, but at the last time it is otherwise", tree, number, size, got)
				}
			}
		}
	}
}

// At the time that is told it is Paid, one tick ahead of it it is not.
func TestPaidAtWhenCan(t *testing.T) {
	for k, tree := range rightTrees() {
		at := tree[0].Purse.At
		for number := range int64(len(tree)) {
			for s, size := range sizesAround(tree) {
				if len(tree) > 3 && (s+k)%5 > 0 {
					continue
				}
				first := impl.WhenCan(tree, number, size)
				if first == -1 {
					canIs(t, impl.TreeFilled(tree, mostTime), number, size, false)
					continue
				}
				if first < at || first > mostTime {
					t.Fatalf("WhenCan(%v, %d, %d) = %d", tree, number, size, first)
				}
				there := impl.TreeFilled(tree, first)
				next, done := impl.Paid(there, number, size)
				if !done || !impl.Can(there, number, size) || !impl.TreeOk(next) {
					t.Fatalf("WhenCan(%v, %d, %d) = %d, but then it is not Paid", tree, number, size, first)
				}
				if first > at {
					early := impl.TreeFilled(tree, first-1)
					canIs(t, early, number, size, false)
					paidIs(t, early, number, size, early, false)
					whenCanIs(t, early, number, size, first)
				}
			}
		}
	}
}

// account keeps of each Node what was Paid under it up to each step, and when
// that was.
type account struct {
	start []impl.Node
	times []int64
	under [][]int64
}

func accountOf(tree []impl.Node) *account {
	return &account{start: append([]impl.Node{}, tree...), times: []int64{tree[0].Purse.At}, under: [][]int64{make([]int64, len(tree))}}
}

// isUnder tells whether number is this Node, or below it, by the Ups of the
// beginning.
func (l *account) isUnder(number, top int64) bool {
	for number > top {
		number = l.start[number].Up
	}
	return number == top
}

// note has one more step: a size was Paid at n (0 where nothing was).
func (l *account) note(t *testing.T, now, n, size int64) {
	t.Helper()
	sums := append([]int64{}, l.under[len(l.under)-1]...)
	for top := range sums {
		if l.isUnder(n, int64(top)) {
			sums[top] += size
		}
	}
	l.times, l.under = append(l.times, now), append(l.under, sums)
	l.hold(t)
}

// back takes the last step away.
func (l *account) back() {
	l.times, l.under = l.times[:len(l.times)-1], l.under[:len(l.under)-1]
}

// hold asks of each Node, from each step to the last one, for no more than its
// Burst and its Rate for each tick; from the beginning on, than its Level then.
func (l *account) hold(t *testing.T) {
	t.Helper()
	last := len(l.times) - 1
	for number, x := range l.start {
		for from := range l.times {
			went, ticks := l.under[last][number]-l.under[from][number], l.times[last]-l.times[from]
			most := x.Purse.Burst
			if from == 0 {
				most = x.Purse.Level
			}
			if went > most+x.Purse.Rate*ticks {
				t.Fatalf("%v: %d went under number %d in %d ticks, from step %d to %d", l.start, went, number, ticks, from, last)
			}
		}
	}
}

// tree is one whose purses are of a few kinds, some of them empty or full.
func (d *drawer) tree(n int, kind int64) []impl.Node {
	at := []int64{0, d.below(mostTime), mostTime - d.below(300)}[d.below(3)]
	var tree []impl.Node
	for k := range int64(n) {
		up := int64(-1)
		if k > 0 {
			up = d.below(k)
		}
		burst := 1 + d.below([]int64{10, 100, mostSize}[kind%3])
		rate := d.below(2) * d.below([]int64{3, 20, mostRate + 1}[kind/3%3])
		tree = append(tree, impl.Node{Up: up, Purse: purse(rate, burst, []int64{0, d.below(burst + 1), burst}[d.below(3)], at)})
	}
	return tree
}

// Under each Node goes no more than Burst and Rate for each tick, whatever is
// Paid and Filled, in any order.
func TestUnderEachNodeGoesNoMore(t *testing.T) {
	draw := &drawer{state: 1501}
	went := 0
	for run := range int64(400) {
		tree := draw.tree(1+int(run)%mostNodes, run/mostNodes)
		book := accountOf(tree)
		for range 60 {
			at := tree[0].Purse.At
			if draw.below(3) == 0 {
				now := at + []int64{0, 1, draw.below(4), draw.below(200), -draw.below(9), mostTime}[draw.below(6)]
				if draw.below(20) > 0 {
					now = min(now, at+30)
				}
				want := treeFilledByWords(tree, now)
				treeFilledIs(t, tree, now, want)
				tree = want
				book.note(t, tree[0].Purse.At, 0, 0)
				continue
			}
			number := draw.below(int64(len(tree)))
			least := leastOf(tree, pathByWords(tree, number), levelOf)
			size := []int64{least, least + 1, least / 2, draw.below(least + 2), draw.below(40)}[draw.below(5)]
			askedAsByWords(t, tree, number, size)
			next, done := impl.Paid(tree, number, size)
			if done != (size <= least) {
				t.Fatalf("Paid(%v, %d, %d): %v", tree, number, size, done)
			}
			if !done {
				size = 0
			} else if size > 0 {
				went++
			}
			tree = next
			book.note(t, tree[0].Purse.At, number, size)
			treeOkIs(t, tree, true)
		}
	}
	if went < 2000 {
		t.Fatalf("only %d were Paid", went)
	}
}

// Every one of the first steps of all small trees, in any order of waiting and
// paying.
func TestAllStepsOfSmallTrees(t *testing.T) {
	var book *account
	var walk func(tree []impl.Node, steps int)
	walk = func(tree []impl.Node, steps int) {
		if steps == 0 {
			return
		}
		at := tree[0].Purse.At
		for ticks := int64(1); ticks <= 2; ticks++ {
			next := impl.TreeFilled(tree, at+ticks)
			if !slices.Equal(next, treeFilledByWords(tree, at+ticks)) {
				t.Fatalf("TreeFilled(%v, %d) = %v", tree, at+ticks, next)
			}
			book.note(t, at+ticks, 0, 0)
			walk(next, steps-1)
			book.back()
		}
		for number := range int64(len(tree)) {
			for size := int64(1); size <= 2; size++ {
				next, done := impl.Paid(tree, number, size)
				want, wantDone := paidByWords(tree, number, size)
				if done != wantDone || !slices.Equal(next, want) {
					t.Fatalf("Paid(%v, %d, %d) = %v, %v", tree, number, size, next, done)
				}
				if done {
					book.note(t, at, number, size)
					walk(next, steps-1)
					book.back()
				}
			}
		}
	}
	var purses []impl.Purse
	for rate := range int64(3) {
		for burst := int64(1); burst <= 2; burst++ {
			purses = append(purses, purse(rate, burst, burst-1, 5), purse(rate, burst, burst, 5))
		}
	}
	for k, top := range purses {
		for l, under := range purses {
			for _, ups := range [][]int64{{-1, 0}, {-1, 0, 0}, {-1, 0, 1}} {
				tree := treeOf(ups, top, under, purses[(3*k+5*l)%len(purses)])
				book = accountOf(tree)
				walk(tree, 4)
			}
		}
	}
}

// Who takes all he can, at each tick, has all that comes through the least of
// them and no more.
func TestPaidAllThatComes(t *testing.T) {
	for n := 1; n <= mostNodes; n++ {
		for _, ups := range upShapes(n) {
			for narrow := range n {
				tree := treeOf(ups, purse(50, 200, 120, 9))
				tree[narrow].Purse = purse(3, 10, 7, 9)
				last := int64(n) - 1
				want := []int64{120, 50}
				if slices.Contains(pathByWords(tree, last), int64(narrow)) {
					want = []int64{7, 3}
				}
				book, given := accountOf(tree), int64(0)
				for now := int64(9); now <= 30; now++ {
					tree = impl.TreeFilled(tree, now)
					size := leastOf(tree, pathByWords(tree, last), levelOf)
					paidIs(t, tree, last, size+1, tree, false)
					next, done := impl.Paid(tree, last, size)
					given += size
					if most := want[0] + want[1]*(now-9); !done || given != most {
						t.Fatalf("%v: %d went up to %d, want %d", book.start, given, now, most)
					}
					book.note(t, now, last, size)
					tree = next
				}
			}
		}
	}
}

// Many under one Node share what it has: together no more than it, each no
// more than its own.
func TestManyShareWhatIsAbove(t *testing.T) {
	for _, ups := range upShapes(mostNodes) {
		for _, top := range []impl.Purse{purse(5, 40, 40, 0), purse(0, 40, 40, 0), purse(100, 400, 0, 0), purse(1, 1, 0, 0)} {
			tree := treeOf(ups, purse(2, 15, 15, 0))
			tree[0].Purse = top
			book, given := accountOf(tree), int64(0)
			for now := range int64(40) {
				tree = impl.TreeFilled(tree, now)
				for k := range int64(mostNodes) {
					number := (k*5 + now) % mostNodes
					for impl.Can(tree, number, 1) {
						next, done := impl.Paid(tree, number, 1)
						if !done {
							t.Fatalf("Paid(%v, %d, 1) is refused", tree, number)
						}
						tree, given = next, given+1
					}
					paidIs(t, tree, number, 1, tree, false)
				}
				// Number 0 pays too, so that nothing is left in it.
				if most := top.Level + min(top.Rate, top.Burst)*now; given != most {
					t.Fatalf("%v: %d went up to %d, want %d", book.start, given, now, most)
				}
			}
		}
	}
}

func TestDrawnTrees(t *testing.T) {
	draw := &drawer{state: 1515}
	for run := range int64(1500) {
		tree := draw.tree(1+int(run)%mostNodes, run/mostNodes)
		n := int64(len(tree))
		for number := int64(-1); number <= n; number++ {
			pathIs(t, tree, number, pathByWords(tree, number)...)
			for _, size := range []int64{draw.below(20), draw.below(mostSize + 2), tree[draw.below(n)].Purse.Level + draw.below(2), tree[draw.below(n)].Purse.Burst + draw.below(2), -1 - draw.below(5)} {
				askedAsByWords(t, tree, number, size)
			}
		}
		now := tree[0].Purse.At + draw.below(300) - 20
		treeFilledIs(t, tree, now, treeFilledByWords(tree, now))
	}
}

// A wrong n or a wrong size of a right tree: nothing is done.
func TestWrongNumbersOfRightTrees(t *testing.T) {
	for k, tree := range rightTrees() {
		n := int64(len(tree))
		for _, number := range outside(len(tree)) {
			pathIs(t, tree, number)
			for _, size := range []int64{0, 1, tree[0].Purse.Level, -1, math.MinInt64, math.MaxInt64} {
				canIs(t, tree, number, size, false)
				paidIs(t, tree, number, size, tree, false)
				whenCanIs(t, tree, number, size, -1)
			}
		}
		for _, number := range []int64{0, n / 2, n - 1} {
			for s, size := range append(wrongAround(0, mostSize), mostSize+1) {
				if (s+k)%4 > 0 && size != -1 {
					continue
				}
				canIs(t, tree, number, size, false)
				paidIs(t, tree, number, size, tree, false)
				whenCanIs(t, tree, number, size, -1)
			}
		}
	}
}

func TestWrongTrees(t *testing.T) {
	for k, tree := range wrongTrees() {
		n := int64(len(tree))
		at := int64(0)
		if n > 0 {
			at = tree[0].Purse.At
		}
		for _, number := range []int64{0, n - 1, n, -1, math.MinInt64, math.MaxInt64} {
			size := []int64{0, 1, 5, -1, mostSize, math.MinInt64, math.MaxInt64}[k%7]
			for _, now := range []int64{at, mostTime, -1, mostTime + 1, math.MinInt64, math.MaxInt64} {
				refusedByAll(t, tree, number, size, now)
			}
			refusedByAll(t, tree, number, 0, 5000)
		}
	}
}

// An Up that goes round, or out of the tree, does not lead astray.
func TestUpsThatGoAstray(t *testing.T) {
	for _, ups := range [][]int64{{0}, {1, 0}, {-1, 1}, {-1, 2, 1}, {-1, 0, 2}, {-1, 0, 3, 2}, {2, 0, 1}, {-1, -1}, {-1, 0, -1}, {5}, {-1, 99}, {-2}, {-1, -2, 0}, {math.MinInt64}, {-1, math.MaxInt64}, {-1, math.MinInt64, 0}} {
		tree := treeOf(ups, purse(3, 10, 5, 4))
		for number := int64(-1); number <= int64(len(ups)); number++ {
			refusedByAll(t, tree, number, 0, 4)
			refusedByAll(t, tree, number, 5, 9)
		}
	}
}

// roomyTree is the same with spare room behind it, with something written
// there.
func roomyTree(tree []impl.Node) []impl.Node {
	room := append(make([]impl.Node, 0, len(tree)+3), tree...)
	for k := range int64(3) {
		room = append(room, impl.Node{Up: 901 + k, Purse: purse(1, 911+k, 921+k, 931+k)})
	}
	return room[:len(tree)]
}

func spoilTree(tree []impl.Node) {
	for k := range tree[:cap(tree)] {
		tree[:cap(tree)][k] = impl.Node{Up: -77, Purse: purse(-78, -79, -80, -81)}
	}
}

func spoilPath(path []int64) {
	for k := range path[:cap(path)] {
		path[:cap(path)][k] = -77
	}
}

// bothTimes has two answers of each function that makes a list.
func bothTimes(tree []impl.Node, n, size, now int64) ([][]impl.Node, [][]int64) {
	var trees [][]impl.Node
	var paths [][]int64
	for range 2 {
		paid, _ := impl.Paid(tree, n, size)
		trees = append(trees, impl.TreeFilled(tree, now), paid)
		paths = append(paths, impl.PathOf(tree, n))
	}
	return trees, paths
}

func treeStays(t *testing.T, tree []impl.Node, n, size, now int64) {
	t.Helper()
	all := append([]impl.Node{}, tree[:cap(tree)]...)
	ok, can, first := impl.TreeOk(tree), impl.Can(tree, n, size), impl.WhenCan(tree, n, size)
	trees, paths := bothTimes(tree, n, size, now)
	if inTwo(append(trees, tree)...) || inTwo(paths...) {
		t.Fatalf("of %v: %v or %v share memory", tree, trees, paths)
	}
	filled, paid, path := append([]impl.Node{}, trees[0]...), append([]impl.Node{}, trees[1]...), append([]int64{}, paths[0]...)
	spoilTree(trees[2])
	spoilTree(trees[3])
	spoilPath(paths[1])
	if !slices.Equal(trees[0], filled) || !slices.Equal(trees[1], paid) || !slices.Equal(paths[0], path) {
		t.Fatalf("what %v made has become %v, %v and %v", tree, trees[0], trees[1], paths[0])
	}
	spoilTree(trees[0])
	spoilTree(trees[1])
	spoilPath(paths[0])
	if !slices.Equal(tree[:cap(tree)], all) {
		t.Fatalf("%v has become %v", all, tree[:cap(tree)])
	}
	// Nothing is kept from call to call either.
	treeOkIs(t, tree, ok)
	canIs(t, tree, n, size, can)
	whenCanIs(t, tree, n, size, first)
	treeFilledIs(t, tree, now, filled)
	pathIs(t, tree, n, path...)
	if again, _ := impl.Paid(tree, n, size); !slices.Equal(again, paid) {
		t.Fatalf("Paid(%v, %d, %d) = %v, then %v", tree, n, size, paid, again)
	}
}

func TestTreeArgumentsStay(t *testing.T) {
	for _, tree := range slices.Concat(rightTrees(), wrongTrees()) {
		if len(tree) > 300 {
			continue
		}
		tree = roomyTree(tree)
		n := int64(len(tree))
		for _, number := range []int64{0, n - 1, n, -1} {
			for _, size := range []int64{0, 3, mostSize + 1, -1} {
				treeStays(t, tree, number, size, mostTime-size*size)
			}
		}
	}
}

// A tree that is answered as it is owns its memory too.
func TestTreeAsItIsIsNewMemory(t *testing.T) {
	for n := 1; n <= mostNodes; n++ {
		tree := roomyTree(someTree(lineUps(n), 0, 5000))
		kept := append([]impl.Node{}, tree...)
		last := int64(n) - 1
		for _, c := range [][2]int64{{last, 51}, {last, 999}, {last, -1}, {int64(n), 1}, {-1, 1}, {last, 0}, {0, 0}} {
			same, done := impl.Paid(tree, c[0], c[1])
			if !slices.Equal(same, kept) || done != (c[1] == 0) || inTwo(same, tree) {
				t.Fatalf("Paid(%v, %d, %d) = %v, %v", kept, c[0], c[1], same, done)
			}
			spoilTree(same)
			if !slices.Equal(tree, kept) {
				t.Fatalf("%v has become %v", kept, tree)
			}
		}
		for _, now := range []int64{5000, 4999, 0, -1, mostTime + 1, math.MinInt64, math.MaxInt64} {
			same := impl.TreeFilled(tree, now)
			if !slices.Equal(same, kept) || inTwo(same, tree) {
				t.Fatalf("TreeFilled(%v, %d) = %v", kept, now, same)
			}
			spoilTree(same)
			if !slices.Equal(tree, kept) {
				t.Fatalf("%v has become %v", kept, tree)
			}
		}
	}
}

// What came first is not changed by what is made of it, twice.
func TestTreesPartWays(t *testing.T) {
	tree := someTree(upShapes(mostNodes)[4], 0, 5000)
	for step := range int64(12) {
		one, _ := impl.Paid(tree, step, 2)
		other := impl.TreeFilled(tree, 5000+step)
		third, _ := impl.Paid(one, 11-step, 3)
		fourth := impl.TreeFilled(one, 5001+step)
		if inTwo(tree, one, other, third, fourth) {
			t.Fatalf("%v, %v, %v, %v and %v share memory", tree, one, other, third, fourth)
		}
		kept, keptFirst := append([]impl.Node{}, one...), append([]impl.Node{}, tree...)
		spoilTree(other)
		spoilTree(third)
		spoilTree(fourth)
		if !slices.Equal(one, kept) || !slices.Equal(tree, keptFirst) {
			t.Fatalf("%v and %v have become %v and %v", keptFirst, kept, tree, one)
		}
		tree = one
	}
}

// A path that is answered belongs to whoever asked: it does not change what is
// told later of those that lie on it.
func TestPathsAreNewMemory(t *testing.T) {
	tree := someTree(lineUps(mostNodes), 0, 4)
	var paths [][]int64
	for range 2 {
		for number := range int64(mostNodes) {
			paths = append(paths, impl.PathOf(tree, number))
		}
	}
	if inTwo(paths...) {
		t.Fatalf("%v share memory", paths)
	}
	for k, path := range paths {
		if !slices.Equal(path, pathByWords(tree, int64(k%mostNodes))) {
			t.Fatalf("%v has become another", path)
		}
		spoilPath(path)
	}
	for number := range int64(mostNodes) {
		pathIs(t, tree, number, pathByWords(tree, number)...)
	}
}
