package tests

import (
	"math"
	"slices"
	"testing"

	"loop.example/g00316/impl"
)

const (
	mostId   = 1000000
	mostTime = 1 << 40
)

type itemField struct {
	of              func(i *impl.Item) *int64
	least, greatest int64
}

func itemFields() []itemField {
	return []itemField{
		{func(i *impl.Item) *int64 { return &i.Id }, 1, mostId},
		{func(i *impl.Item) *int64 { return &i.Size }, 1, mostSize},
		{func(i *impl.Item) *int64 { return &i.At }, 0, mostTime},
	}
}

func item(id, size, at int64) impl.Item { return impl.Item{Id: id, Size: size, At: at} }

// wrongAround has numbers that are not from least to greatest; some have the
// low bits of right ones.
func wrongAround(least, greatest int64) []int64 {
	return []int64{
		least - 1, least - 2, greatest + 1, greatest + 2, -greatest, -greatest - 1,
		1<<41 + greatest, 1<<41 + least, -1 << 41, -1 << 32, 1 << 62, 1<<62 + least,
		math.MinInt64, math.MinInt64 + 1, math.MinInt64 + greatest, math.MaxInt64 - greatest, math.MaxInt64 - 1, math.MaxInt64,
	}
}

func rightItems() []impl.Item {
	var list []impl.Item
	for _, id := range []int64{1, 2, 7, mostId - 1, mostId} {
		for _, size := range []int64{1, 2, 1500, mostSize - 1, mostSize} {
			for _, at := range []int64{0, 1, 5000, mostTime - 1, mostTime} {
				list = append(list, item(id, size, at))
			}
		}
	}
	return list
}

// wrongItems have one number that is wrong, and some have all.
func wrongItems() []impl.Item {
	list := []impl.Item{{}, item(-1, -1, -1), item(mostId+1, mostSize+1, mostTime+1)}
	for _, field := range itemFields() {
		for _, n := range wrongAround(field.least, field.greatest) {
			for _, i := range []impl.Item{item(9, 10, 11), item(1, 1, 0), item(mostId, mostSize, mostTime)} {
				*field.of(&i) = n
				list = append(list, i)
			}
		}
	}
	return list
}

func rowsOf(most int64, lists ...[]impl.Item) impl.Rows {
	return impl.Rows{Most: most, Lists: lists}
}

// someItems are n right ones with the Ids from first on.
func someItems(first, n int64) []impl.Item {
	list := []impl.Item{}
	for k := range n {
		list = append(list, item(first+k, 1+(first+k)*37%mostSize, (first+k)*1000003%mostTime))
	}
	return list
}

// emptyLists are n of them, some nil.
func emptyLists(n int) [][]impl.Item {
	lists := make([][]impl.Item, n)
	for k := range lists {
		if k%3 == 1 {
			lists[k] = []impl.Item{}
		}
	}
	return lists
}

// dealt are rows of n lists into which so many Items go by turns.
func dealt(most int64, n int, items int64) impl.Rows {
	lists := emptyLists(n)
	for k, i := range someItems(1, items) {
		lists[k*5%n] = append(lists[k*5%n], i)
	}
	return rowsOf(most, lists...)
}

func rightRows() []impl.Rows {
	list := []impl.Rows{
		rowsOf(1, nil), rowsOf(1, []impl.Item{}), rowsOf(200, nil), rowsOf(1, nil, nil),
		rowsOf(1, []impl.Item{item(1, 1, 0)}),
		rowsOf(1, nil, []impl.Item{item(mostId, mostSize, mostTime)}),
		rowsOf(2, []impl.Item{item(5, 10, 3)}, []impl.Item{item(4, 7, 3)}),
		rowsOf(3, []impl.Item{item(5, 10, 9), item(4, 10, 3)}, nil),
		rowsOf(5, []impl.Item{item(1, 9, 0), item(mostId, 1, 0)}, nil, []impl.Item{item(mostId-1, mostSize, mostTime), item(2, 9, 0)}),
		// Nothing but the Id must differ.
		rowsOf(4, []impl.Item{item(1, 5, 5), item(2, 5, 5)}, []impl.Item{item(3, 5, 5)}),
		// What is the Id of one may be the Size or the At of another.
		rowsOf(4, []impl.Item{item(1, 2, 3), item(2, 3, 1)}, []impl.Item{item(3, 1, 2)}),
		rowsOf(200, someItems(1, 200)), rowsOf(200, someItems(1, 199)), rowsOf(199, someItems(1, 199)),
		rowsOf(200, nil, someItems(mostId-199, 200), nil),
		rowsOf(200, someItems(101, 100), nil, someItems(1, 100)),
	}
	for _, n := range []int{1, 2, 3, 7, 15, 16} {
		for _, most := range []int64{1, 2, 16, 17, 199, 200} {
			for _, items := range []int64{0, 1, most / 2, most - 1, most} {
				list = append(list, dealt(most, n, items))
			}
		}
	}
	return list
}

// fewRows are small ones, for what goes through all of them with all Items.
func fewRows() []impl.Rows {
	return slices.DeleteFunc(rightRows(), func(r impl.Rows) bool { return r.Most > 16 || len(r.Lists) > 7 })
}

// withRow has one list of copied rows in another's place.
func withRow(r impl.Rows, row int, list []impl.Item) impl.Rows {
	next := keptRows(r)
	next.Lists[row] = list
	return next
}

func wrongRows() []impl.Rows {
	list := []impl.Rows{
		{}, {Most: 1}, {Most: 200}, {Most: 1, Lists: [][]impl.Item{}},
		{Lists: emptyLists(1)}, {Most: 201, Lists: emptyLists(16)},
		rowsOf(5, emptyLists(17)...), rowsOf(200, emptyLists(17)...), rowsOf(5, emptyLists(18)...),
		rowsOf(5, emptyLists(32)...), rowsOf(5, emptyLists(257)...), rowsOf(5, emptyLists(1<<16+1)...),
		dealt(17, 17, 17),
		// One more than Most, in one list and in several.
		rowsOf(1, someItems(1, 2)), rowsOf(1, someItems(1, 1), someItems(2, 1)),
		rowsOf(2, someItems(1, 1), nil, someItems(2, 2)), rowsOf(3, someItems(1, 2), someItems(3, 2)),
		rowsOf(199, someItems(1, 200)), rowsOf(200, someItems(1, 201)), rowsOf(200, someItems(1, 100), someItems(101, 101)),
		rowsOf(200, someItems(1, 200), nil, someItems(201, 1)), rowsOf(201, someItems(1, 201)),
		rowsOf(200, someItems(1, 400)), rowsOf(200, someItems(1, 70000)), dealt(16, 16, 17), dealt(200, 16, 201),
		// An Id twice: beside each other, apart, and in two lists.
		rowsOf(5, []impl.Item{item(3, 1, 0), item(3, 1, 0)}),
		rowsOf(5, []impl.Item{item(3, 1, 0), item(3, 2, 9)}),
		rowsOf(5, []impl.Item{item(3, 1, 0), item(4, 1, 0), item(3, 2, 9)}),
		rowsOf(5, []impl.Item{item(3, 1, 0)}, []impl.Item{item(3, 1, 0)}),
		rowsOf(5, []impl.Item{item(3, 1, 0), item(4, 1, 0)}, nil, []impl.Item{item(5, 1, 0), item(4, 2, 9)}),
		rowsOf(200, someItems(1, 100), []impl.Item{item(1, 1, 0)}), rowsOf(200, someItems(1, 100), []impl.Item{item(100, 1, 0)}),
		rowsOf(200, append(someItems(1, 199), item(1, 1, 0))), rowsOf(200, append(someItems(1, 199), item(199, 1, 0))),
	}
	for _, n := range wrongAround(1, 200) {
		list = append(list, rowsOf(n, nil), dealt(n, 16, 1), dealt(n, 2, 200))
	}
	for _, i := range wrongItems() {
		list = append(list,
			rowsOf(9, []impl.Item{i}),
			rowsOf(9, nil, []impl.Item{item(20, 1, 0), i}),
			rowsOf(9, []impl.Item{i, item(20, 1, 0)}, nil),
			rowsOf(9, []impl.Item{item(20, 1, 0), i, item(21, 1, 0)}, []impl.Item{item(22, 1, 0)}),
			withRow(dealt(200, 16, 150), 15, []impl.Item{i}))
	}
	return list
}

// rightRowsByPairs holds each Item against each other one.
func rightRowsByPairs(r impl.Rows) bool {
	if !within(r.Most, 1, 200) || !within(int64(len(r.Lists)), 1, 16) {
		return false
	}
	all := slices.Concat(r.Lists...)
	if int64(len(all)) > r.Most {
		return false
	}
	for k, i := range all {
		for _, field := range itemFields() {
			if !within(*field.of(&i), field.least, field.greatest) {
				return false
			}
		}
		for _, other := range all[:k] {
			if other.Id == i.Id {
				return false
			}
		}
	}
	return true
}

func keptRows(r impl.Rows) impl.Rows {
	lists := make([][]impl.Item, len(r.Lists))
	for row := range r.Lists {
		lists[row] = append([]impl.Item{}, r.Lists[row]...)
	}
	return rowsOf(r.Most, lists...)
}

func sameRows(a, b impl.Rows) bool {
	return a.Most == b.Most && slices.EqualFunc(a.Lists, b.Lists, slices.Equal[[]impl.Item])
}

// came is an Item of a line of all that came, in order; row is where to.
type came struct {
	row int64
	i   impl.Item
}

// lined is all in rows as one line; that of several lists may be any, but for
// the order within each.
func lined(r impl.Rows) []came {
	var line []came
	for row, list := range r.Lists {
		for _, i := range list {
			line = append(line, came{int64(row), i})
		}
	}
	return line
}

func rowsOfLine(most int64, n int, line []came) impl.Rows {
	lists := make([][]impl.Item, n)
	for _, c := range line {
		lists[c.row] = append(lists[c.row], c.i)
	}
	return rowsOf(most, lists...)
}

// pushedByLine relies on right rows.
func pushedByLine(r impl.Rows, row int64, i impl.Item) (impl.Rows, bool) {
	line := append(lined(r), came{row, i})
	if row < 0 || row >= int64(len(r.Lists)) {
		return r, false
	}
	next := rowsOfLine(r.Most, len(r.Lists), line)
	if !rightRowsByPairs(next) {
		return r, false
	}
	return next, true
}

// poppedByLine relies on right rows.
func poppedByLine(r impl.Rows, row int64) (impl.Rows, impl.Item, bool) {
	line := lined(r)
	for k, c := range line {
		if c.row == row {
			return rowsOfLine(r.Most, len(r.Lists), slices.Delete(line, k, k+1)), c.i, true
		}
	}
	return r, impl.Item{}, false
}

func pushedIs(t *testing.T, r impl.Rows, row int64, i impl.Item, want impl.Rows, wantDone bool) {
	t.Helper()
	got, done := impl.Pushed(r, row, i)
	if !sameRows(got, want) || done != wantDone {
		t.Fatalf("Pushed(%v, %d, %v) = %v, %v, want %v, %v", r, row, i, got, done, want, wantDone)
	}
}

func poppedIs(t *testing.T, r impl.Rows, row int64, want impl.Rows, wantItem impl.Item, wantDone bool) {
	t.Helper()
	got, i, done := impl.Popped(r, row)
	if !sameRows(got, want) || i != wantItem || done != wantDone {
		t.Fatalf("Popped(%v, %d) = %v, %v, %v, want %v, %v, %v", r, row, got, i, done, want, wantItem, wantDone)
	}
}

func countIs(t *testing.T, r impl.Rows, want int64) {
	t.Helper()
	if got := impl.Count(r); got != want {
		t.Fatalf("Count(%v) = %d, want %d", r, got, want)
	}
}

func weightIs(t *testing.T, r impl.Rows, row, want int64) {
	t.Helper()
	if got := impl.Weight(r, row); got != want {
		t.Fatalf("Weight(%v, %d) = %d, want %d", r, row, got, want)
	}
}

// heldAgainstCounting relies on right rows.
func heldAgainstCounting(t *testing.T, r impl.Rows) {
	t.Helper()
	if !impl.RowsOk(r) {
		t.Fatalf("%v are right", r)
	}
	count := int64(0)
	weights := make([]int64, len(r.Lists))
	for _, c := range lined(r) {
		count++
		weights[c.row] += c.i.Size
	}
	countIs(t, r, count)
	for row, want := range weights {
		weightIs(t, r, int64(row), want)
	}
}

func rowsAround(r impl.Rows) []int64 {
	n := int64(len(r.Lists))
	return []int64{-1, -2, -n, n, n + 1, 16, 17, 200, 1 << 32, 1<<32 + 1, -1 << 32, 1 << 40, 1 << 62, math.MinInt64, math.MinInt64 + 1, math.MaxInt64 - 1, math.MaxInt64}
}

func TestRowsConstants(t *testing.T) {
	if impl.MaxId != mostId || impl.MaxTime != mostTime {
		t.Fatal(impl.MaxId, int64(impl.MaxTime))
	}
}

func TestRowsOk(t *testing.T) {
	for _, r := range rightRows() {
		if !impl.RowsOk(r) || !rightRowsByPairs(r) {
			t.Fatalf("%v are right", r)
		}
	}
	for _, r := range wrongRows() {
		if impl.RowsOk(r) {
			t.Fatalf("%v are wrong", r)
		}
	}
}

func TestRowsOkOfEachItem(t *testing.T) {
	for _, i := range rightItems() {
		if !impl.RowsOk(rowsOf(1, []impl.Item{i})) || !impl.RowsOk(rowsOf(3, someItems(10, 1), []impl.Item{item(12, 1, 0), i})) {
			t.Fatalf("%v is right", i)
		}
	}
	for _, field := range itemFields() {
		for _, edge := range []int64{field.least, field.greatest} {
			for n := edge - 300; n <= edge+300; n++ {
				i := item(9, 10, 11)
				*field.of(&i) = n
				if got := impl.RowsOk(rowsOf(2, nil, []impl.Item{i})); got != within(n, field.least, field.greatest) {
					t.Fatalf("RowsOk with %v = %v", i, got)
				}
			}
		}
	}
}

// Each Most with each count of Items near it, in one list and in several.
func TestRowsOkAtEachMost(t *testing.T) {
	for most := int64(-3); most <= 205; most++ {
		for _, items := range []int64{0, 1, most - 1, most, most + 1} {
			for _, n := range []int{1, 2, 16, 17} {
				r := dealt(most, n, max(items, 0))
				if got := impl.RowsOk(r); got != rightRowsByPairs(r) {
					t.Fatalf("RowsOk of Most %d, %d lists and %d Items = %v", most, n, items, got)
				}
			}
		}
	}
}

func TestRowsOkAtEachCountOfLists(t *testing.T) {
	for n := range 70 {
		if got := impl.RowsOk(rowsOf(5, emptyLists(n)...)); got != within(int64(n), 1, 16) {
			t.Fatalf("RowsOk of %d lists = %v", n, got)
		}
	}
}

// Of two places of full rows each pair with one Id is found.
func TestRowsOkFindsEachIdThatIsTwice(t *testing.T) {
	for _, n := range []int{1, 3, 16} {
		r := dealt(60, n, 60)
		for row, list := range r.Lists {
			for k := range list {
				for _, other := range slices.Concat(r.Lists...) {
					twice := keptRows(r)
					twice.Lists[row][k].Id = other.Id
					if got := impl.RowsOk(twice); got != (other.Id == list[k].Id) {
						t.Fatalf("RowsOk(%v) = %v", twice, got)
					}
				}
			}
		}
	}
}

func TestPushedByHand(t *testing.T) {
	a, b, c := item(5, 10, 3), item(4, 7, 2), item(mostId, mostSize, mostTime)
	for _, k := range []struct {
		r    impl.Rows
		row  int64
		i    impl.Item
		want impl.Rows
		done bool
	}{
		{rowsOf(1, nil), 0, a, rowsOf(1, []impl.Item{a}), true},
		{rowsOf(1, nil), 0, item(1, 1, 0), rowsOf(1, []impl.Item{item(1, 1, 0)}), true},
		{rowsOf(200, nil, nil), 1, c, rowsOf(200, nil, []impl.Item{c}), true},
		{rowsOf(3, nil, []impl.Item{a}), 1, b, rowsOf(3, nil, []impl.Item{a, b}), true},
		{rowsOf(3, nil, []impl.Item{b}), 1, a, rowsOf(3, nil, []impl.Item{b, a}), true},
		{rowsOf(3, nil, []impl.Item{a}), 0, b, rowsOf(3, []impl.Item{b}, []impl.Item{a}), true},
		{rowsOf(3, []impl.Item{c, a}, nil), 0, b, rowsOf(3, []impl.Item{c, a, b}, nil), true},
		// There are Most, in this list or in others.
		{rowsOf(1, []impl.Item{a}), 0, b, rowsOf(1, []impl.Item{a}), false},
		{rowsOf(1, []impl.Item{a}, nil), 1, b, rowsOf(1, []impl.Item{a}, nil), false},
		{rowsOf(2, []impl.Item{a}, []impl.Item{c}), 1, b, rowsOf(2, []impl.Item{a}, []impl.Item{c}), false},
		// The Id is there, in this list or in another.
		{rowsOf(9, []impl.Item{a}), 0, a, rowsOf(9, []impl.Item{a}), false},
		{rowsOf(9, []impl.Item{a, b}), 0, item(5, 1, 1), rowsOf(9, []impl.Item{a, b}), false},
		{rowsOf(9, []impl.Item{a}, nil, nil), 2, item(5, 1, 1), rowsOf(9, []impl.Item{a}, nil, nil), false},
		{rowsOf(9, nil, nil, []impl.Item{b, a}), 0, item(5, 1, 1), rowsOf(9, nil, nil, []impl.Item{b, a}), false},
		{rowsOf(9, nil, []impl.Item{a}), 2, b, rowsOf(9, nil, []impl.Item{a}), false},
		{rowsOf(9, nil, []impl.Item{a}), -1, b, rowsOf(9, nil, []impl.Item{a}), false},
		{rowsOf(9, []impl.Item{a}), 0, impl.Item{}, rowsOf(9, []impl.Item{a}), false},
		{rowsOf(0, []impl.Item{a}), 0, b, impl.Rows{}, false},
		{rowsOf(9), 0, b, impl.Rows{}, false},
		{rowsOf(1, []impl.Item{a, b}), 0, c, impl.Rows{}, false},
		{impl.Rows{}, 0, a, impl.Rows{}, false},
	} {
		pushedIs(t, k.r, k.row, k.i, k.want, k.done)
	}
}

func TestPoppedByHand(t *testing.T) {
	a, b, c, none := item(5, 10, 3), item(4, 7, 2), item(mostId, mostSize, mostTime), impl.Item{}
	for _, k := range []struct {
		r    impl.Rows
		row  int64
		want impl.Rows
		i    impl.Item
		done bool
	}{
		{rowsOf(1, []impl.Item{a}), 0, rowsOf(1, nil), a, true},
		{rowsOf(3, []impl.Item{a, b, c}), 0, rowsOf(3, []impl.Item{b, c}), a, true},
		{rowsOf(3, []impl.Item{c, b, a}), 0, rowsOf(3, []impl.Item{b, a}), c, true},
		{rowsOf(3, nil, []impl.Item{b, a}), 1, rowsOf(3, nil, []impl.Item{a}), b, true},
		{rowsOf(3, []impl.Item{c}, []impl.Item{b, a}), 0, rowsOf(3, nil, []impl.Item{b, a}), c, true},
		{rowsOf(3, []impl.Item{c}, []impl.Item{b, a}), 1, rowsOf(3, []impl.Item{c}, []impl.Item{a}), b, true},
		{rowsOf(1, nil), 0, rowsOf(1, nil), none, false},
		{rowsOf(3, nil, []impl.Item{b, a}), 0, rowsOf(3, nil, []impl.Item{b, a}), none, false},
		{rowsOf(3, []impl.Item{c}, nil, []impl.Item{a}), 1, rowsOf(3, []impl.Item{c}, nil, []impl.Item{a}), none, false},
		{rowsOf(3, []impl.Item{c}), 1, rowsOf(3, []impl.Item{c}), none, false},
		{rowsOf(3, []impl.Item{c}), -1, rowsOf(3, []impl.Item{c}), none, false},
		{rowsOf(201, []impl.Item{c}), 0, impl.Rows{}, none, false},
		{rowsOf(1, []impl.Item{a, b}), 0, impl.Rows{}, none, false},
		{rowsOf(5, []impl.Item{a}, []impl.Item{a}), 0, impl.Rows{}, none, false},
		{rowsOf(5), 0, impl.Rows{}, none, false},
		{impl.Rows{}, 0, impl.Rows{}, none, false},
	} {
		poppedIs(t, k.r, k.row, k.want, k.i, k.done)
	}
}

func TestCountAndWeightByHand(t *testing.T) {
	r := rowsOf(9, []impl.Item{item(5, 10, 3), item(4, 7, 2)}, nil, []impl.Item{item(6, mostSize, 0)})
	countIs(t, r, 3)
	weightIs(t, r, 0, 17)
	weightIs(t, r, 1, 0)
	weightIs(t, r, 2, mostSize)
	weightIs(t, r, 3, -1)
	weightIs(t, r, -1, -1)
	countIs(t, rowsOf(1, nil), 0)
	weightIs(t, rowsOf(1, nil), 0, 0)
	countIs(t, rowsOf(0, nil), -1)
	weightIs(t, rowsOf(0, nil), 0, -1)
	countIs(t, impl.Rows{}, -1)
	weightIs(t, impl.Rows{}, 0, -1)
	heavy := someItems(1, 200)
	for k := range heavy {
		heavy[k].Size = mostSize
	}
	countIs(t, rowsOf(200, heavy), 200)
	weightIs(t, rowsOf(200, heavy), 0, 200*mostSize)
	weightIs(t, rowsOf(200, nil, heavy), 1, 200*mostSize)
	weightIs(t, rowsOf(200, nil, heavy), 0, 0)
}

func TestCountAndWeightByCounting(t *testing.T) {
	for _, r := range rightRows() {
		heldAgainstCounting(t, r)
	}
}

// Into several lists by turns, out of each in order, each once, then none.
func TestPushedIsPoppedInOrderOnce(t *testing.T) {
	for _, n := range []int64{1, 2, 3, 7, 16} {
		for _, most := range []int64{1, 2, 16, 50, 200} {
			r := rowsOf(most, emptyLists(int(n))...)
			want := make([][]impl.Item, n)
			// The Ids go neither up nor down.
			for k := range most {
				i, row := item(1+k*7919%mostId, 1+k*31%mostSize, mostTime-k), k*k%n
				next, done := impl.Pushed(r, row, i)
				if !done {
					t.Fatalf("Pushed(%v, %d, %v): it is right", r, row, i)
				}
				r, want[row] = next, append(want[row], i)
				heldAgainstCounting(t, r)
				countIs(t, r, k+1)
			}
			pushedIs(t, r, 0, item(mostId, 1, 0), r, false)
			for left := most; left > 0; {
				for row := range n {
					next, i, done := impl.Popped(r, row)
					if len(want[row]) == 0 {
						poppedIs(t, r, row, r, impl.Item{}, false)
						continue
					}
					if !done || i != want[row][0] {
						t.Fatalf("Popped(%v, %d) tells %v, want %v", r, row, i, want[row][0])
					}
					r, want[row], left = next, want[row][1:], left-1
					heldAgainstCounting(t, r)
					countIs(t, r, left)
				}
			}
			if !sameRows(r, rowsOf(most, emptyLists(int(n))...)) {
				t.Fatalf("%v: all have gone", r)
			}
		}
	}
}

// What has gone may come again.
func TestPushedAgain(t *testing.T) {
	r, i := rowsOf(1, nil, nil), item(7, 3, 1)
	for k := range int64(20) {
		r, _ = impl.Pushed(r, k%2, i)
		countIs(t, r, 1)
		pushedIs(t, r, k%2, i, r, false)
		pushedIs(t, r, 1-k%2, i, r, false)
		var gone impl.Item
		r, gone, _ = impl.Popped(r, k%2)
		if gone != i {
			t.Fatalf("%v has become %v", i, gone)
		}
		countIs(t, r, 0)
	}
}

// Every one of the first steps, right and wrong, of small rows.
func TestAllStepsOfSmallRows(t *testing.T) {
	var walk func(r impl.Rows, steps int)
	walk = func(r impl.Rows, steps int) {
		heldAgainstCounting(t, r)
		if steps == 0 {
			return
		}
		for row := int64(-1); row <= 2; row++ {
			gone, i, done := poppedByLine(r, row)
			poppedIs(t, r, row, gone, i, done)
			if done {
				walk(gone, steps-1)
			}
			for id := range int64(4) {
				next, done := pushedByLine(r, row, item(id, 1+id, 9-id))
				pushedIs(t, r, row, item(id, 1+id, 9-id), next, done)
				if done {
					walk(next, steps-1)
				}
			}
		}
	}
	for most := range int64(3) {
		walk(rowsOf(most+1, nil, nil), 4)
	}
}

func TestDrawnSteps(t *testing.T) {
	d := &drawer{state: 8}
	for range 60 {
		n := 1 + d.below(16)
		r := rowsOf(1+d.below(200), emptyLists(int(n))...)
		for range 300 {
			row := d.below(n+2) - 1
			if d.below(3) == 0 {
				gone, i, done := poppedByLine(r, row)
				poppedIs(t, r, row, gone, i, done)
				r, _, _ = impl.Popped(r, row)
			} else {
				i := item(d.below(300), d.below(mostSize+2), d.below(mostTime+1))
				next, done := pushedByLine(r, row, i)
				pushedIs(t, r, row, i, next, done)
				r, _ = impl.Pushed(r, row, i)
			}
			heldAgainstCounting(t, r)
		}
	}
}

// All right rows, with each row and an Item that is right, there, and wrong.
func TestRowsByLine(t *testing.T) {
	for _, r := range rightRows() {
		items := []impl.Item{item(mostId, 1, 0), item(1, mostSize, mostTime), item(500, 4, 4), {}, item(0, 4, 4), item(500, 0, 4), item(500, 4, -1)}
		if all := lined(r); len(all) > 0 {
			items = append(items, all[0].i, all[len(all)-1].i, item(all[len(all)/2].i.Id, 4, 4))
		}
		for row := range int64(len(r.Lists)) {
			gone, i, done := poppedByLine(r, row)
			poppedIs(t, r, row, gone, i, done)
			for _, i := range items {
				next, done := pushedByLine(r, row, i)
				pushedIs(t, r, row, i, next, done)
			}
		}
	}
}

func TestPushedOfEachItem(t *testing.T) {
	for _, r := range fewRows() {
		for _, row := range []int64{0, int64(len(r.Lists)) - 1} {
			for _, i := range rightItems() {
				next, done := pushedByLine(r, row, i)
				pushedIs(t, r, row, i, next, done)
			}
			for _, i := range wrongItems() {
				pushedIs(t, r, row, i, r, false)
			}
		}
	}
}

func TestRowsOfWrongRowNumbers(t *testing.T) {
	for _, r := range rightRows() {
		for _, row := range rowsAround(r) {
			if within(row, 0, int64(len(r.Lists))-1) {
				continue
			}
			pushedIs(t, r, row, item(mostId-7, 1, 0), r, false)
			pushedIs(t, r, row, impl.Item{}, r, false)
			poppedIs(t, r, row, r, impl.Item{}, false)
			weightIs(t, r, row, -1)
		}
	}
}

func TestWrongRows(t *testing.T) {
	for _, r := range wrongRows() {
		countIs(t, r, -1)
		for _, row := range append(rowsAround(r), 0, 1, 2) {
			pushedIs(t, r, row, item(777, 1, 0), impl.Rows{}, false)
			pushedIs(t, r, row, impl.Item{}, impl.Rows{}, false)
			poppedIs(t, r, row, impl.Rows{}, impl.Item{}, false)
			weightIs(t, r, row, -1)
		}
	}
}

// roomy is the same with spare room behind each list and behind all, with
// something written there.
func roomy(r impl.Rows) impl.Rows {
	lists := make([][]impl.Item, 0, len(r.Lists)+3)
	for _, list := range r.Lists {
		room := append(make([]impl.Item, 0, len(list)+4), list...)
		lists = append(lists, append(room, someItems(9000, 4)...)[:len(list)])
	}
	behind := append(lists, someItems(8000, 2), nil, someItems(8100, 1))
	return rowsOf(r.Most, behind[:len(lists)]...)
}

// wholeRoom is all of it, the spare room among it, as new memory.
func wholeRoom(r impl.Rows) [][]impl.Item {
	var all [][]impl.Item
	for _, list := range r.Lists[:cap(r.Lists)] {
		all = append(all, append([]impl.Item{}, list[:cap(list)]...))
	}
	return all
}

// spoilRows writes into all that belongs to rows, spare room too.
func spoilRows(r impl.Rows) {
	for _, list := range r.Lists {
		for k := range list[:cap(list)] {
			list[:cap(list)][k] = item(-7, -7, -7)
		}
	}
	for k := range r.Lists[:cap(r.Lists)] {
		r.Lists[:cap(r.Lists)][k] = nil
	}
}

// eachOwnMemory asks whether any place is in two lists of the rows.
func eachOwnMemory(t *testing.T, rows ...impl.Rows) {
	t.Helper()
	items, lists := map[*impl.Item]int{}, map[*[]impl.Item]int{}
	for _, r := range rows {
		for k := range r.Lists[:cap(r.Lists)] {
			lists[&r.Lists[:cap(r.Lists)][k]]++
		}
		for _, list := range r.Lists {
			for k := range list[:cap(list)] {
				items[&list[:cap(list)][k]]++
			}
		}
	}
	for _, n := range items {
		if n > 1 {
			t.Fatalf("%v: lists share memory", rows)
		}
	}
	for _, n := range lists {
		if n > 1 {
			t.Fatalf("%v: rows share memory", rows)
		}
	}
}

func TestRowsArgumentsStay(t *testing.T) {
	for _, r := range slices.Concat(rightRows(), wrongRows()) {
		if len(r.Lists) > 300 {
			continue
		}
		r = roomy(r)
		kept, all := keptRows(r), wholeRoom(r)
		for _, row := range []int64{-1, 0, int64(len(r.Lists)) / 2, int64(len(r.Lists)) - 1, int64(len(r.Lists))} {
			for _, i := range []impl.Item{item(777, 5, 5), item(1, 5, 5), {}} {
				impl.RowsOk(r)
				impl.Count(r)
				impl.Weight(r, row)
				pushed, _ := impl.Pushed(r, row, i)
				popped, _, _ := impl.Popped(r, row)
				eachOwnMemory(t, r, pushed, popped)
				spoilRows(pushed)
				spoilRows(popped)
			}
		}
		if !sameRows(r, kept) || !slices.EqualFunc(wholeRoom(r), all, slices.Equal[[]impl.Item]) {
			t.Fatalf("%v has become %v", kept, r)
		}
	}
}

// Lists that share memory when they come in share none in the answer.
func TestRowsOfSharedLists(t *testing.T) {
	room := someItems(1, 6)
	r := rowsOf(9, room[:2], room[2:4], room[:0], room[:0], room[4:5])
	kept := slices.Clone(room)
	for row := int64(-1); row <= 5; row++ {
		for _, i := range []impl.Item{item(77, 5, 5), item(1, 5, 5)} {
			next, done := pushedByLine(r, row, i)
			pushedIs(t, r, row, i, next, done)
			pushed, _ := impl.Pushed(r, row, i)
			popped, _, _ := impl.Popped(r, row)
			eachOwnMemory(t, pushed, popped, rowsOf(9, room))
			spoilRows(pushed)
			spoilRows(popped)
			if !slices.Equal(room, kept) {
				t.Fatalf("%v has become %v", kept, room)
			}
		}
	}
}

// What came first is not changed by what is made of it, twice.
func TestRowsPartWays(t *testing.T) {
	r, _ := impl.Pushed(rowsOf(9, nil, nil), 0, item(1, 1, 1))
	for k := range int64(4) {
		one, _ := impl.Pushed(r, 0, item(100+k, 2, 2))
		other, _ := impl.Pushed(r, 0, item(200+k, 3, 3))
		kept := keptRows(one)
		third, _, _ := impl.Popped(one, 0)
		eachOwnMemory(t, r, one, other, third)
		spoilRows(third)
		spoilRows(other)
		if !sameRows(one, kept) {
			t.Fatalf("%v has become %v", kept, one)
		}
		r = one
	}
}
