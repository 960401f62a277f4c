package tests

import (
	"math"
	"slices"
	"testing"

	"loop.example/g00316/impl"
)

func goneByWords(list []impl.Done) []int64 {
	var ids []int64
	for _, d := range list {
		if d.Kind == 2 && !(d.Code < 0) {
			ids = append(ids, d.Id)
		}
	}
	return ids
}

func sentByWords(list []impl.Done, sizes []impl.Item) int64 {
	sum := int64(0)
	for _, id := range goneByWords(list) {
		at := slices.IndexFunc(sizes, func(i impl.Item) bool { return i.Id == id })
		switch {
		case at < 0 || sizes[at].Size < 0:
		case sizes[at].Size > 100000:
			sum += 100000
		default:
			sum += sizes[at].Size
		}
	}
	return sum
}

func goneIs(t *testing.T, list []impl.Done, want ...int64) {
	t.Helper()
	if got := impl.Gone(list); !slices.Equal(got, want) {
		t.Fatalf("Gone(%v) = %v, want %v", list, got, want)
	}
}

func sentIs(t *testing.T, list []impl.Done, sizes []impl.Item, want int64) {
	t.Helper()
	if got := impl.Sent(list, sizes); got != want {
		t.Fatalf("Sent(%v, %v) = %d, want %d", list, sizes, got, want)
	}
}

// outs are Dones of Items that went.
func outs(ids ...int64) []impl.Done {
	var list []impl.Done
	for k, id := range ids {
		list = append(list, doneOf(2, int64(k)%mostLeaves, id, 9))
	}
	return list
}

func TestGoneByHand(t *testing.T) {
	goneIs(t, nil)
	goneIs(t, []impl.Done{})
	goneIs(t, []impl.Done{{}})
	goneIs(t, outs(5), 5)
	goneIs(t, outs(5, 3, 4, 3, 5, 5), 5, 3, 4, 3, 5, 5)
	goneIs(t, []impl.Done{doneOf(2, -1, 0, 9)})
	goneIs(t, []impl.Done{doneOf(2, -1, 7, 9)})
	goneIs(t, []impl.Done{doneOf(2, 0, 7, 9), doneOf(2, -1, 8, 9), doneOf(2, 7, 9, 9)}, 7, 9)
	// Of other Kinds none is asked for its Id.
	list := []impl.Done{doneOf(1, 0, 1, 0), doneOf(2, 1, 2, 0), doneOf(3, 0, 3, 0), doneOf(4, 0, 4, 0), doneOf(5, 0, 5, 0), doneOf(0, 0, 6, 0), doneOf(6, 0, 7, 0), doneOf(-2, 0, 8, 0), doneOf(1<<32+2, 0, 9, 0)}
	goneIs(t, list, 2)
	sentIs(t, list, []impl.Item{item(1, 10, 0), item(2, 200, 0), item(3, 3000, 0), item(6, 40000, 0), item(8, 50000, 0)}, 200)
}

func TestGoneOfWrongNumbers(t *testing.T) {
	for _, id := range append(wrongAround(1, mostId), 0) {
		goneIs(t, outs(id, 1, id), id, 1, id)
	}
	for _, kind := range append(wrongAround(2, 2), 0) {
		goneIs(t, []impl.Done{doneOf(kind, 0, 5, 9), doneOf(2, 1, 6, 9)}, 6)
	}
	for _, code := range []int64{-1, -2, -100, -1 << 32, -1<<32 + 1, math.MinInt64, math.MinInt64 + 1} {
		goneIs(t, []impl.Done{doneOf(2, code, 5, 9), doneOf(2, 1, 6, 9)}, 6)
	}
	// A leaf is a number from 0 on: of how many the list does not tell.
	for _, code := range []int64{0, 1, 7, 8, 9, 1 << 32, 1<<32 - 1, math.MaxInt64} {
		goneIs(t, []impl.Done{doneOf(2, code, 5, 9), doneOf(2, 1, 6, 9)}, 5, 6)
	}
	for _, at := range wrongTimes() {
		goneIs(t, []impl.Done{doneOf(2, 0, 5, at)}, 5)
	}
}

func TestSentByHand(t *testing.T) {
	items := []impl.Item{item(5, 100, 3), item(2, 30, 0), item(9, 1, 7)}
	sentIs(t, nil, nil, 0)
	sentIs(t, nil, items, 0)
	sentIs(t, outs(5), nil, 0)
	sentIs(t, outs(5), items, 100)
	sentIs(t, outs(9, 2, 5), items, 131)
	sentIs(t, outs(2, 5), items, 130)
	// What is no Item's is nothing, and what was not let go is not asked.
	sentIs(t, outs(1, 4, 10, 0, -5), items, 0)
	sentIs(t, outs(1, 9, 4), items, 1)
	sentIs(t, append(outs(9), doneOf(2, -1, 5, 9), doneOf(1, 0, 2, 9)), items, 1)
	// What went twice is sent twice.
	sentIs(t, outs(5, 9, 5), items, 201)
	// The first with its Id says.
	twice := []impl.Item{item(5, 7, 3), item(2, 30, 0), item(5, 100, 3), item(2, 0, 0), item(5, 1, 0)}
	sentIs(t, outs(5), twice, 7)
	sentIs(t, outs(2, 5), twice, 37)
	slices.Reverse(twice)
	sentIs(t, outs(2, 5), twice, 1)
}

// A Size counts for at least 0 and at most MaxSize.
func TestSentAtEdges(t *testing.T) {
	for _, c := range [][2]int64{
		{0, 0}, {1, 1}, {mostSize - 1, mostSize - 1}, {mostSize, mostSize}, {mostSize + 1, mostSize}, {-1, 0}, {-mostSize, 0},
		{1 << 32, mostSize}, {1<<32 + 5, mostSize}, {-1 << 32, 0}, {math.MaxInt64, mostSize}, {math.MaxInt64 - 1, mostSize}, {math.MinInt64, 0}, {math.MinInt64 + 1, 0},
	} {
		sentIs(t, outs(5), []impl.Item{item(5, c[0], 3)}, c[1])
		sentIs(t, outs(5, 6, 5), []impl.Item{item(6, 40, 3), item(5, c[0], 3)}, 2*c[1]+40)
		// The first says, though it is none and the next one is right.
		sentIs(t, outs(5), []impl.Item{item(5, c[0], 3), item(5, 77, 3)}, c[1])
		sentIs(t, outs(5), []impl.Item{item(5, 77, 3), item(5, c[0], 3)}, 77)
		// And what is not let go counts for nothing.
		sentIs(t, outs(5), []impl.Item{item(5, 9, 3), item(6, c[0], 3)}, 9)
	}
	for _, id := range append(wrongAround(1, mostId), 0) {
		sentIs(t, outs(id), []impl.Item{item(1, 9, 3), item(id, 40, 3)}, 40)
		sentIs(t, outs(1), []impl.Item{item(id, 40, 3), item(1, 9, 3)}, 9)
	}
	for _, at := range wrongTimes() {
		sentIs(t, outs(5), []impl.Item{item(5, 40, at)}, 40)
	}
}

// All lists of up to three Dones, with all of up to two Items.
func TestSentOfAllSmallLists(t *testing.T) {
	dones := []impl.Done{doneOf(2, 0, 1, 0), doneOf(2, 3, 2, 5), doneOf(2, -1, 1, 5), doneOf(1, 0, 2, 5)}
	items := []impl.Item{item(1, 3, 0), item(2, 50, 0), item(1, -4, 0), item(2, mostSize+1, 0)}
	for _, list := range smallListsOf(dones, 3) {
		goneIs(t, list, goneByWords(list)...)
		for _, sizes := range smallListsOf(items, 2) {
			sentIs(t, list, sizes, sentByWords(list, sizes))
		}
	}
}

// smallListsOf are all lists of up to so many of these.
func smallListsOf[T any](of []T, most int) [][]T {
	lists, last := [][]T{{}}, [][]T{{}}
	for range most {
		var longer [][]T
		for _, list := range last {
			for _, x := range of {
				longer = append(longer, append(slices.Clone(list), x))
			}
		}
		lists, last = append(lists, longer...), longer
	}
	return lists
}

func TestSentOfLongLists(t *testing.T) {
	const many = 1 << 17
	list, sizes := make([]impl.Done, many), make([]impl.Item, many)
	for k := range int64(many) {
		list[k] = doneOf(2, k%8, many-k, k)
		sizes[k] = item(1+k, mostSize, 0)
	}
	sentIs(t, list, sizes, many*mostSize)
	if got := impl.Gone(list); len(got) != many || got[0] != many || got[many-1] != 1 {
		t.Fatalf("%d are gone", len(got))
	}
	sizes[7].Size = math.MaxInt64
	sizes[8].Size = math.MinInt64
	sentIs(t, list, sizes, (many-1)*mostSize)
}

func TestDrawnDones(t *testing.T) {
	draw := &drawer{state: 1905}
	for range 3000 {
		var list []impl.Done
		for range draw.below(12) {
			list = append(list, doneOf(1+draw.below(3), draw.below(5)-1, draw.below(9), draw.below(9)))
		}
		var sizes []impl.Item
		for range draw.below(12) {
			sizes = append(sizes, item(draw.below(9), draw.below(mostSize+4)-2, draw.below(9)))
		}
		goneIs(t, list, goneByWords(list)...)
		sentIs(t, list, sizes, sentByWords(list, sizes))
	}
}

// What a run lets go is what was in and came, less what is in, with its bytes.
func TestGoneAndSentOfRuns(t *testing.T) {
	draw := &drawer{state: 1906}
	gone := 0
	for k, g := range rightGates() {
		if kind := k % purseKinds; kind != 1 && kind != 7 && k%9 > 0 {
			continue
		}
		items := slices.Concat(g.Rows.Lists...)
		var ids []int64
		var told []impl.Done
		h, bytes := g, int64(0)
		for _, a := range draw.acts(30) {
			next, done := impl.Did(h, a)
			if _, i, leaf := impl.Out(h); a.Kind == impl.AcOut && leaf >= 0 {
				ids, bytes = append(ids, i.Id), bytes+i.Size
			}
			if a.Kind == impl.AcIn && done.Code == 0 {
				items = append(items, item(done.Id, int64(len(a.Text)), done.Time))
			}
			h, told = next, append(told, done)
		}
		goneIs(t, told, ids...)
		sentIs(t, told, items, bytes)
		sentIs(t, told, slices.Concat(h.Rows.Lists...), 0)
		left := map[int64]bool{}
		for _, i := range slices.Concat(h.Rows.Lists...) {
			left[i.Id] = true
		}
		for _, i := range items {
			if left[i.Id] == slices.Contains(ids, i.Id) {
				t.Fatalf("%v came or was there; %v went, %v is in", i, ids, h.Rows)
			}
		}
		gone += len(ids)
	}
	if gone < 1000 {
		t.Fatalf("only %d went", gone)
	}
}
