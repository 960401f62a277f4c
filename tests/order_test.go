package tests

import (
	"math"
	"slices"
	"testing"

	"loop.example/g00316/impl"
)

const (
	mostDues  = 60
	mostStep  = 1000
	slotCount = 8
)

func due(time, id int64) impl.Due { return impl.Due{Time: time, Id: id} }

// duesAt have these Times, and one Id.
func duesAt(id int64, times ...int64) []impl.Due {
	var list []impl.Due
	for _, time := range times {
		list = append(list, due(time, id))
	}
	return list
}

// wheelAt has the Dues in the Slots that are named, and none in the others.
func wheelAt(step int64, slots map[int][]impl.Due) impl.Wheel {
	w := impl.Wheel{Step: step, Slots: make([][]impl.Due, slotCount)}
	for slot, list := range slots {
		w.Slots[slot] = list
	}
	return w
}

func dueAhead(a, b impl.Due) bool { return a.Time < b.Time || a.Time == b.Time && a.Id < b.Id }

// inDueOrder is a copy, put in order by changing places with what is next.
func inDueOrder(list []impl.Due) []impl.Due {
	own := append([]impl.Due{}, list...)
	for range own {
		for k := 1; k < len(own); k++ {
			if dueAhead(own[k], own[k-1]) {
				own[k], own[k-1] = own[k-1], own[k]
			}
		}
	}
	return own
}

func rightDueByWords(d impl.Due) bool {
	return within(d.Time, 0, mostTime) && within(d.Id, 1, mostId)
}

func areDues(list []impl.Due) bool {
	if len(list) > 60 {
		return false
	}
	for k, d := range list {
		if !rightDueByWords(d) {
			return false
		}
		for _, other := range list[:k] {
			if other == d {
				return false
			}
		}
	}
	return true
}

func rightHeapByWords(heap []impl.Due) bool {
	if !areDues(heap) {
		return false
	}
	for place := 1; place < len(heap); place++ {
		if dueAhead(heap[place], heap[(place-1)/2]) {
			return false
		}
	}
	return true
}

// heapPutByWords, and what follows, relies on a right heap.
func heapPutByWords(heap []impl.Due, d impl.Due) ([]impl.Due, bool) {
	next := append([]impl.Due{}, heap...)
	if !areDues(append(append([]impl.Due{}, heap...), d)) {
		return next, false
	}
	next = append(next, d)
	for place := len(next) - 1; place > 0 && dueAhead(next[place], next[(place-1)/2]); place = (place - 1) / 2 {
		next[place], next[(place-1)/2] = next[(place-1)/2], next[place]
	}
	return next, true
}

func heapTakeByWords(heap []impl.Due) ([]impl.Due, impl.Due, bool) {
	if len(heap) == 0 {
		return nil, impl.Due{}, false
	}
	first, last := heap[0], heap[len(heap)-1]
	next := append([]impl.Due{}, heap[:len(heap)-1]...)
	if len(next) == 0 {
		return next, first, true
	}
	next[0] = last
	place := 0
	for {
		best := place
		for _, under := range []int{2*place + 1, 2*place + 2} {
			if under < len(next) && dueAhead(next[under], next[best]) {
				best = under
			}
		}
		if best == place {
			return next, first, true
		}
		next[place], next[best] = next[best], next[place]
		place = best
	}
}

// slotByTurns goes round by one Slot for each whole Step, eight Steps at once
// as often as there are.
func slotByTurns(step int64, d impl.Due) int {
	slot := 0
	for left := d.Time % (slotCount * step); left >= step; left -= step {
		slot++
	}
	return slot
}

func rightWheelByWords(w impl.Wheel) bool {
	if !within(w.Step, 1, 1000) || len(w.Slots) != 8 || !areDues(slices.Concat(w.Slots...)) {
		return false
	}
	for slot, list := range w.Slots {
		for k, d := range list {
			if slotByTurns(w.Step, d) != slot || k > 0 && !dueAhead(list[k-1], d) {
				return false
			}
		}
	}
	return true
}

// wheelOfByWords relies on right Dues.
func wheelOfByWords(step int64, list []impl.Due) impl.Wheel {
	w := wheelAt(step, nil)
	for _, d := range inDueOrder(list) {
		slot := slotByTurns(step, d)
		w.Slots[slot] = append(w.Slots[slot], d)
	}
	return w
}

func duesOf(w impl.Wheel) []impl.Due { return inDueOrder(slices.Concat(w.Slots...)) }

func wheelPutByWords(w impl.Wheel, d impl.Due) (impl.Wheel, bool) {
	list := append(duesOf(w), d)
	if !areDues(list) {
		return keptWheel(w), false
	}
	return wheelOfByWords(w.Step, list), true
}

func wheelTakeByWords(w impl.Wheel) (impl.Wheel, impl.Due, bool) {
	list := duesOf(w)
	if len(list) == 0 {
		return keptWheel(w), impl.Due{}, false
	}
	return wheelOfByWords(w.Step, list[1:]), list[0], true
}

func toHeapByWords(w impl.Wheel) []impl.Due {
	var heap []impl.Due
	for _, d := range duesOf(w) {
		heap, _ = heapPutByWords(heap, d)
	}
	return heap
}

func keptWheel(w impl.Wheel) impl.Wheel {
	slots := make([][]impl.Due, len(w.Slots))
	for k, list := range w.Slots {
		slots[k] = append([]impl.Due{}, list...)
	}
	return impl.Wheel{Step: w.Step, Slots: slots}
}

func sameWheel(a, b impl.Wheel) bool {
	return a.Step == b.Step && slices.EqualFunc(a.Slots, b.Slots, slices.Equal[[]impl.Due])
}

func heapOkIs(t *testing.T, heap []impl.Due, want bool) {
	t.Helper()
	if got := impl.HeapOk(heap); got != want {
		t.Fatalf("HeapOk(%v) = %v", heap, got)
	}
}

func heapPutIs(t *testing.T, heap []impl.Due, d impl.Due, want []impl.Due, wantDone bool) {
	t.Helper()
	got, done := impl.HeapPut(heap, d)
	if !slices.Equal(got, want) || done != wantDone {
		t.Fatalf("HeapPut(%v, %v) = %v, %v, want %v, %v", heap, d, got, done, want, wantDone)
	}
}

func heapTakeIs(t *testing.T, heap []impl.Due, want []impl.Due, wantFirst impl.Due, wantDone bool) {
	t.Helper()
	got, first, done := impl.HeapTake(heap)
	if !slices.Equal(got, want) || first != wantFirst || done != wantDone {
		t.Fatalf("HeapTake(%v) = %v, %v, %v, want %v, %v, %v", heap, got, first, done, want, wantFirst, wantDone)
	}
}

func wheelOkIs(t *testing.T, w impl.Wheel, want bool) {
	t.Helper()
	if got := impl.WheelOk(w); got != want {
		t.Fatalf("WheelOk(%v) = %v", w, got)
	}
}

func wheelPutIs(t *testing.T, w impl.Wheel, d impl.Due, want impl.Wheel, wantDone bool) {
	t.Helper()
	got, done := impl.WheelPut(w, d)
	if !sameWheel(got, want) || done != wantDone {
		t.Fatalf("WheelPut(%v, %v) = %v, %v, want %v, %v", w, d, got, done, want, wantDone)
	}
}

func wheelTakeIs(t *testing.T, w, want impl.Wheel, wantFirst impl.Due, wantDone bool) {
	t.Helper()
	got, first, done := impl.WheelTake(w)
	if !sameWheel(got, want) || first != wantFirst || done != wantDone {
		t.Fatalf("WheelTake(%v) = %v, %v, %v, want %v, %v, %v", w, got, first, done, want, wantFirst, wantDone)
	}
}

func toWheelIs(t *testing.T, heap []impl.Due, step int64, want impl.Wheel, wantDone bool) {
	t.Helper()
	got, done := impl.ToWheel(heap, step)
	if !sameWheel(got, want) || done != wantDone {
		t.Fatalf("ToWheel(%v, %d) = %v, %v, want %v, %v", heap, step, got, done, want, wantDone)
	}
}

func toHeapIs(t *testing.T, w impl.Wheel, want []impl.Due, wantDone bool) {
	t.Helper()
	got, done := impl.ToHeap(w)
	if !slices.Equal(got, want) || done != wantDone {
		t.Fatalf("ToHeap(%v) = %v, %v, want %v, %v", w, got, done, want, wantDone)
	}
}

// someDues are n right ones, no two alike; which ones and in which order goes
// by kind.
func someDues(kind int64, n int) []impl.Due {
	var list []impl.Due
	for k := range int64(n) {
		mixed := (k*37 + kind) % 61
		list = append(list, []impl.Due{
			due(k, 1), due(mostTime-k, mostId), due(5, 1+k), due(5, mostId-k), due(mixed*8000, 3),
			due(mixed/3, 1+mixed%3), due(mixed*mixed*977, mostId-mixed), due(mixed%2*mostTime, 1+mixed),
		}[kind%8])
	}
	return list
}

func someCounts() []int { return []int{0, 1, 2, 3, 4, 5, 8, 9, 31, 32, 58, 59, 60} }

func someSteps() []int64 { return []int64{1, 2, 3, 7, 8, 64, 999, 1000} }

// heapByPuts is made by the words, one after another.
func heapByPuts(list []impl.Due) []impl.Due {
	var heap []impl.Due
	for _, d := range list {
		heap, _ = heapPutByWords(heap, d)
	}
	return heap
}

func rightHeaps() [][]impl.Due {
	list := [][]impl.Due{nil, {}, {due(0, 1)}, {due(mostTime, mostId)}, {due(0, 1), due(0, 2), due(mostTime, 1)}, {due(0, 1), due(mostTime, 1), due(0, 2)}}
	for kind := range int64(16) {
		for _, n := range someCounts() {
			dues := someDues(kind, n)
			list = append(list, heapByPuts(dues), inDueOrder(dues))
		}
	}
	return list
}

func rightWheels() []impl.Wheel {
	var list []impl.Wheel
	for _, step := range someSteps() {
		for kind := range int64(16) {
			for _, n := range someCounts() {
				list = append(list, wheelOfByWords(step, someDues(kind, n)))
			}
		}
	}
	return list
}

// dueField is one number of a Due.
type dueField struct {
	of              func(d *impl.Due) *int64
	least, greatest int64
}

func dueFields() []dueField {
	return []dueField{
		{func(d *impl.Due) *int64 { return &d.Time }, 0, mostTime},
		{func(d *impl.Due) *int64 { return &d.Id }, 1, mostId},
	}
}

// wrongDues have one number that is wrong, and some have both.
func wrongDues() []impl.Due {
	list := []impl.Due{{}, due(-1, 0), due(mostTime+1, mostId+1), due(math.MinInt64, math.MinInt64), due(math.MaxInt64, math.MaxInt64), due(math.MaxInt64, math.MinInt64)}
	for _, field := range dueFields() {
		for _, number := range wrongAround(field.least, field.greatest) {
			for _, d := range []impl.Due{due(5, 5), due(0, 1), due(mostTime, mostId)} {
				*field.of(&d) = number
				list = append(list, d)
			}
		}
	}
	return list
}

// wrongHeaps have one thing that is wrong.
func wrongHeaps() [][]impl.Due {
	list := [][]impl.Due{{due(1, 1), due(0, 1)}, {due(1, 2), due(1, 1)}, {due(0, 2), due(5, 5), due(0, 1)}, {due(1, 1), due(1, 1)}, {due(0, 1), due(1, 1), due(1, 1)}}
	for _, n := range []int{61, 62, 63, 64, 120, 256, 316, 1<<16 + 1} {
		list = append(list, someDues(0, n), inDueOrder(someDues(0, n)[:min(n, 99)]))
	}
	for _, d := range wrongDues() {
		list = append(list, []impl.Due{d}, []impl.Due{due(0, 1), due(5, 4), d}, []impl.Due{d, due(7, 4), due(8, 4)})
	}
	return list
}

// wrongWheels have one thing that is wrong.
func wrongWheels() []impl.Wheel {
	list := []impl.Wheel{{}, {Step: 1}, {Step: 1000, Slots: [][]impl.Due{}}}
	for _, step := range wrongAround(1, mostStep) {
		list = append(list, wheelAt(step, nil), wheelAt(step, map[int][]impl.Due{0: {due(0, 1)}}), wheelAt(step, map[int][]impl.Due{7: {due(7, 1)}}))
	}
	for _, n := range []int{0, 1, 2, 6, 7, 9, 10, 15, 16, 17, 64, 256, 264} {
		list = append(list, impl.Wheel{Step: 1, Slots: make([][]impl.Due, n)})
		if n > 0 {
			w := impl.Wheel{Step: 3, Slots: make([][]impl.Due, n)}
			w.Slots[0] = []impl.Due{due(1, 1), due(24, 1)}
			list = append(list, w)
		}
	}
	for _, n := range []int{61, 62, 64, 256, 316, 1 << 12} {
		list = append(list, wheelAt(1000, map[int][]impl.Due{0: someDues(0, n)[:min(n, 1000)]}), wheelOfEach(1, n))
	}
	for _, d := range wrongDues() {
		for slot := range slotCount {
			list = append(list, wheelAt(1, map[int][]impl.Due{slot: {d}}), wheelAt(1000, map[int][]impl.Due{slot: {d}}))
		}
	}
	return list
}

// wheelOfEach has the Times 0 to n - 1, Slot after Slot.
func wheelOfEach(step int64, n int) impl.Wheel {
	w := wheelAt(step, nil)
	for time := range int64(n) {
		slot := time / step % slotCount
		w.Slots[slot] = append(w.Slots[slot], due(time, 7))
	}
	return w
}

// heapAsByWords holds all that is told of a right heap against the words.
func heapAsByWords(t *testing.T, heap []impl.Due) {
	t.Helper()
	heapOkIs(t, heap, true)
	next, first, done := heapTakeByWords(heap)
	heapTakeIs(t, heap, next, first, done)
}

func putsAsByWords(t *testing.T, heap []impl.Due, dues ...impl.Due) {
	t.Helper()
	for _, d := range dues {
		next, done := heapPutByWords(heap, d)
		heapPutIs(t, heap, d, next, done)
	}
}

// wheelAsByWords holds all that is told of a right wheel against the words.
func wheelAsByWords(t *testing.T, w impl.Wheel) {
	t.Helper()
	wheelOkIs(t, w, true)
	next, first, done := wheelTakeByWords(w)
	wheelTakeIs(t, w, next, first, done)
	toHeapIs(t, w, toHeapByWords(w), true)
}

func wheelPutsAsByWords(t *testing.T, w impl.Wheel, dues ...impl.Due) {
	t.Helper()
	for _, d := range dues {
		next, done := wheelPutByWords(w, d)
		wheelPutIs(t, w, d, next, done)
	}
}

// newcomers are some that stand ahead of all, between, behind all, and there.
func newcomers() []impl.Due {
	return []impl.Due{due(0, 1), due(0, 2), due(5, 1), due(5, 61), due(5, mostId), due(17, 1), due(17, 9), due(8000, 3), due(8000, 4), due(977, mostId-1), due(mostTime-3, mostId), due(mostTime, 1), due(mostTime, mostId-1), due(mostTime, mostId)}
}

func TestHeapOk(t *testing.T) {
	for _, heap := range rightHeaps() {
		if !rightHeapByWords(heap) {
			t.Fatalf("%v is right", heap)
		}
		heapOkIs(t, heap, true)
	}
	for _, heap := range wrongHeaps() {
		if rightHeapByWords(heap) {
			t.Fatalf("%v is wrong", heap)
		}
		heapOkIs(t, heap, false)
	}
}

func TestHeapOkAtEachSize(t *testing.T) {
	for n := range 140 {
		heapOkIs(t, someDues(0, n), n <= mostDues)
	}
}

// Each number near its ends, at the first, a middle and the last place.
func TestHeapOkAtEachNumber(t *testing.T) {
	for number := int64(-300); number <= 300; number++ {
		heapOkIs(t, []impl.Due{due(number, 5)}, number >= 0)
		heapOkIs(t, []impl.Due{due(number, 5), due(mostTime, 6)}, number >= 0)
		heapOkIs(t, []impl.Due{due(0, 1), due(mostTime+number, 5)}, number <= 0)
		heapOkIs(t, []impl.Due{due(0, 1), due(mostTime+number, 5), due(4, 4)}, number <= 0)
		heapOkIs(t, []impl.Due{due(0, number), due(4, 4)}, number >= 1)
		heapOkIs(t, []impl.Due{due(0, 1), due(4, number), due(4, mostId)}, number >= 1)
		heapOkIs(t, []impl.Due{due(0, 1), due(4, 4), due(4, mostId+number)}, number <= 0)
	}
}

// A wrong number is found at each place of a full heap.
func TestHeapOkFindsEachWrongNumber(t *testing.T) {
	for place := range mostDues {
		for _, d := range wrongDues() {
			heap := someDues(0, mostDues)
			heap[place] = d
			heapOkIs(t, heap, false)
		}
		heap := someDues(0, mostDues)
		heap[place].Id = mostId
		heapOkIs(t, heap, true)
	}
}

// Two that are alike are found wherever they stand, also where neither is
// ahead of the one above it.
func TestHeapOkFindsTwoAlike(t *testing.T) {
	for one := range mostDues {
		for other := one + 1; other < mostDues; other++ {
			heap := someDues(0, mostDues)
			heap[other] = heap[one]
			heapOkIs(t, heap, false)
		}
	}
	// Places that are not above one another, all others between.
	for one := 30; one < mostDues; one++ {
		for other := one + 1; other < mostDues; other++ {
			heap := someDues(0, mostDues)
			heap[one], heap[other] = due(2000, 5), due(2000, 6)
			heapOkIs(t, heap, true)
			heap[other].Id = 5
			heapOkIs(t, heap, false)
			heap[other] = due(2001, 5)
			heapOkIs(t, heap, true)
		}
	}
}

// One that is ahead of the one above it, by Time or by Id alone, at each place
// of a full heap.
func TestHeapOkFindsOneAhead(t *testing.T) {
	for place := 1; place < mostDues; place++ {
		above := (place - 1) / 2
		heap := someDues(0, mostDues)
		for k := range heap {
			heap[k] = due(int64(k)*10+100, 50)
		}
		for _, k := range []struct {
			d    impl.Due
			want bool
		}{
			{due(heap[above].Time, 49), false}, {due(heap[above].Time, 50), false}, {due(heap[above].Time, 51), true},
			{due(heap[above].Time-1, 51), false}, {due(heap[above].Time+1, 49), true}, {due(heap[above].Time-1, mostId), false}, {due(heap[above].Time+1, 1), true},
		} {
			other := append([]impl.Due{}, heap...)
			other[place] = k.d
			// What is under it has room enough.
			for under := place + 1; under < mostDues; under++ {
				other[under].Time += 10000
			}
			heapOkIs(t, other, k.want)
		}
	}
}

// All orders of seven: each is a heap just where the words say so.
func TestHeapOkOfAllOrders(t *testing.T) {
	heaps := 0
	pool := []impl.Due{due(0, 1), due(0, 2), due(1, 1), due(1, 2), due(1, 3), due(4, 1), due(9, 9)}
	for _, heap := range ordersOf(pool) {
		want := rightHeapByWords(heap)
		heapOkIs(t, heap, want)
		if !want {
			heapTakeIs(t, heap, nil, impl.Due{}, false)
			heapPutIs(t, heap, due(5, 5), nil, false)
			toWheelIs(t, heap, 2, impl.Wheel{}, false)
			continue
		}
		heaps++
		heapAsByWords(t, heap)
		putsAsByWords(t, heap, due(0, 3), due(1, 4), due(2, 1), due(9, 8), due(9, 10), due(9, 9), due(1, 2))
		toWheelIs(t, heap, 2, wheelOfByWords(2, pool), true)
	}
	if heaps != 80 {
		t.Fatalf("%d heaps of seven", heaps)
	}
}

// ordersOf are all of them.
func ordersOf(list []impl.Due) [][]impl.Due {
	if len(list) == 0 {
		return [][]impl.Due{nil}
	}
	var all [][]impl.Due
	for k, d := range list {
		rest := append(append([]impl.Due{}, list[:k]...), list[k+1:]...)
		for _, order := range ordersOf(rest) {
			all = append(all, append([]impl.Due{d}, order...))
		}
	}
	return all
}

// All lists of up to five of a few, some of which are alike.
func TestHeapsOfAllSmallLists(t *testing.T) {
	pool := []impl.Due{due(0, 1), due(0, 2), due(1, 1), due(1, 2), due(2, 1)}
	lists := [][]impl.Due{nil}
	for from := 0; from < len(lists) && len(lists[from]) < 5; from++ {
		for _, d := range pool {
			lists = append(lists, append(append([]impl.Due{}, lists[from]...), d))
		}
	}
	for _, heap := range lists {
		if !rightHeapByWords(heap) {
			heapOkIs(t, heap, false)
			heapTakeIs(t, heap, nil, impl.Due{}, false)
			heapPutIs(t, heap, due(0, 3), nil, false)
			toWheelIs(t, heap, 1, impl.Wheel{}, false)
			continue
		}
		heapAsByWords(t, heap)
		putsAsByWords(t, heap, append(pool, due(0, 3), due(1, 3), due(3, 1))...)
		toWheelIs(t, heap, 1, wheelOfByWords(1, heap), true)
	}
}

func TestHeapPutByHand(t *testing.T) {
	heap := duesAt(1, 1, 3, 2, 7, 4)
	for _, k := range []struct {
		d    impl.Due
		want []impl.Due
	}{
		{due(9, 1), duesAt(1, 1, 3, 2, 7, 4, 9)},
		{due(2, 2), []impl.Due{due(1, 1), due(3, 1), due(2, 1), due(7, 1), due(4, 1), due(2, 2)}},
		{due(1, 2), []impl.Due{due(1, 1), due(3, 1), due(1, 2), due(7, 1), due(4, 1), due(2, 1)}},
		{due(0, 9), []impl.Due{due(0, 9), due(3, 1), due(1, 1), due(7, 1), due(4, 1), due(2, 1)}},
		{due(mostTime, mostId), append(duesAt(1, 1, 3, 2, 7, 4), due(mostTime, mostId))},
	} {
		heapPutIs(t, heap, k.d, k.want, true)
	}
	heapPutIs(t, nil, due(0, 1), duesAt(1, 0), true)
	heapPutIs(t, []impl.Due{}, due(mostTime, mostId), duesAt(mostId, mostTime), true)
	for _, d := range []impl.Due{due(1, 1), due(3, 1), due(2, 1), due(7, 1), due(4, 1), due(5, 0), due(5, mostId+1), due(-1, 5), due(mostTime+1, 5), {}} {
		heapPutIs(t, heap, d, heap, false)
	}
	heapPutIs(t, duesAt(1, 2, 1), due(5, 5), nil, false)
	heapPutIs(t, duesAt(1, 2, 2), due(5, 5), nil, false)
	heapPutIs(t, duesAt(0, 2), due(5, 5), nil, false)
}

func TestHeapTakeByHand(t *testing.T) {
	for _, k := range []struct {
		heap, want []impl.Due
		first      impl.Due
		done       bool
	}{
		{nil, nil, impl.Due{}, false},
		{[]impl.Due{}, nil, impl.Due{}, false},
		{duesAt(1, 5), nil, due(5, 1), true},
		{duesAt(1, 5, 6), duesAt(1, 6), due(5, 1), true},
		{duesAt(1, 5, 6, 7), duesAt(1, 6, 7), due(5, 1), true},
		{duesAt(1, 5, 7, 6), duesAt(1, 6, 7), due(5, 1), true},
		// It changes places with the first of both in order, not by place.
		{duesAt(1, 1, 3, 2, 7, 4, 9), duesAt(1, 2, 3, 9, 7, 4), due(1, 1), true},
		{duesAt(1, 1, 2, 3, 7, 4, 9), duesAt(1, 2, 4, 3, 7, 9), due(1, 1), true},
		{duesAt(1, 1, 2, 3, 5, 4, 8, 7, 6), duesAt(1, 2, 4, 3, 5, 6, 8, 7), due(1, 1), true},
		{duesAt(1, 1, 2, 8, 3, 4, 9, 10, 5), duesAt(1, 2, 3, 8, 5, 4, 9, 10), due(1, 1), true},
		{[]impl.Due{due(5, 1), due(5, 3), due(5, 2), due(5, 4)}, []impl.Due{due(5, 2), due(5, 3), due(5, 4)}, due(5, 1), true},
		{duesAt(1, 2, 1), nil, impl.Due{}, false},
		{duesAt(1, 2, 2), nil, impl.Due{}, false},
		{duesAt(0, 2), nil, impl.Due{}, false},
		{someDues(0, 61), nil, impl.Due{}, false},
	} {
		heapTakeIs(t, k.heap, k.want, k.first, k.done)
	}
}

func TestRightHeapsByWords(t *testing.T) {
	for _, heap := range rightHeaps() {
		heapAsByWords(t, heap)
		putsAsByWords(t, heap, newcomers()...)
		putsAsByWords(t, heap, heap...)
		for _, step := range someSteps() {
			toWheelIs(t, heap, step, wheelOfByWords(step, heap), true)
		}
	}
}

func TestWrongHeaps(t *testing.T) {
	for _, heap := range wrongHeaps() {
		heapTakeIs(t, heap, nil, impl.Due{}, false)
		for _, d := range []impl.Due{due(5, 5), due(0, 1), due(mostTime, mostId), {}, due(math.MinInt64, math.MaxInt64)} {
			heapPutIs(t, heap, d, nil, false)
		}
		for _, step := range []int64{1, 1000, 0, 1001, math.MinInt64, math.MaxInt64} {
			toWheelIs(t, heap, step, impl.Wheel{}, false)
		}
	}
}

// What is not right is not put, into whatever there is.
func TestWrongDuesToBePut(t *testing.T) {
	for _, kind := range []int64{0, 1, 3, 5} {
		for _, n := range someCounts() {
			heap := heapByPuts(someDues(kind, n))
			w := wheelOfByWords(7, heap)
			for _, d := range wrongDues() {
				heapPutIs(t, heap, d, heap, false)
				wheelPutIs(t, w, d, w, false)
			}
		}
	}
}

// Of each number near its ends.
func TestPutAtEachNumber(t *testing.T) {
	heap := duesAt(4, 3, 800, 4)
	w := wheelOfByWords(3, heap)
	for _, field := range dueFields() {
		for _, edge := range []int64{field.least, field.greatest} {
			for number := edge - 300; number <= edge+300; number++ {
				for _, d := range []impl.Due{due(9, 9), due(3, 4), due(800, 4)} {
					*field.of(&d) = number
					putsAsByWords(t, heap, d)
					wheelPutsAsByWords(t, w, d)
				}
			}
		}
	}
}

func TestWheelOk(t *testing.T) {
	for _, w := range rightWheels() {
		if !rightWheelByWords(w) {
			t.Fatalf("%v is right", w)
		}
		wheelOkIs(t, w, true)
	}
	for _, w := range wrongWheels() {
		if rightWheelByWords(w) {
			t.Fatalf("%v is wrong", w)
		}
		wheelOkIs(t, w, false)
	}
}

func TestWheelOkAtEachSize(t *testing.T) {
	for n := range 140 {
		wheelOkIs(t, impl.Wheel{Step: 5, Slots: make([][]impl.Due, n)}, n == slotCount)
		for _, step := range []int64{1, 3, 7, 1000} {
			wheelOkIs(t, wheelOfEach(step, n), n <= mostDues)
		}
		// One Slot is full, another has one more.
		w := wheelAt(1000, map[int][]impl.Due{0: someDues(0, n)})
		wheelOkIs(t, w, n <= mostDues)
		w.Slots[7] = []impl.Due{due(7000, 1)}
		wheelOkIs(t, w, n < mostDues)
	}
}

func TestWheelOkAtEachStep(t *testing.T) {
	for step := int64(-300); step <= 1300; step++ {
		wheelOkIs(t, wheelAt(step, nil), within(step, 1, mostStep))
		// A Time of 4000 is in Slot 4 with a Step of 1000, and with some others.
		if within(step, 1, mostStep) {
			wheelOkIs(t, wheelAt(step, map[int][]impl.Due{4: duesAt(1, 4000)}), slotByTurns(step, due(4000, 1)) == 4)
			wheelOkIs(t, wheelAt(step, map[int][]impl.Due{0: duesAt(1, step-1), 1: duesAt(1, step), 7: duesAt(1, 8*step-1)}), true)
		}
	}
}

// Each Due in each Slot: it is right in one of them alone.
func TestWheelOkFindsTheWrongSlot(t *testing.T) {
	for _, step := range someSteps() {
		for _, d := range append(newcomers(), due(step, 1), due(step-1, 1), due(8*step, 1), due(8*step-1, 1), due(7*step, 5), due(15*step, 5)) {
			for slot := range slotCount {
				wheelOkIs(t, wheelAt(step, map[int][]impl.Due{slot: {d}}), slot == slotByTurns(step, d))
			}
		}
	}
	// Also behind others that are in theirs.
	for place := range 7 {
		for _, by := range []int64{-1, 1, 2, 7} {
			list := duesAt(1, 16, 24, 32, 40, 48, 56, 64)
			list[place].Time += by
			wheelOkIs(t, wheelAt(1, map[int][]impl.Due{0: list}), false)
		}
	}
}

func TestWheelOkFindsWhatDoesNotRise(t *testing.T) {
	for slot := range slotCount {
		for place := 1; place < 7; place++ {
			w := wheelAt(2, nil)
			for k := range int64(7) {
				w.Slots[slot] = append(w.Slots[slot], due(int64(slot)*2+16*(k/2), 1+k))
			}
			wheelOkIs(t, w, true)
			list := w.Slots[slot]
			list[place-1], list[place] = list[place], list[place-1]
			wheelOkIs(t, w, false)
			list[place-1] = list[place]
			wheelOkIs(t, w, false)
		}
	}
	wheelOkIs(t, wheelAt(1000, map[int][]impl.Due{0: {due(1, 2), due(1, 1)}}), false)
	wheelOkIs(t, wheelAt(1000, map[int][]impl.Due{0: {due(1, 1), due(1, 1)}}), false)
	wheelOkIs(t, wheelAt(1000, map[int][]impl.Due{0: {due(2, 1), due(1, 2)}}), false)
	wheelOkIs(t, wheelAt(1000, map[int][]impl.Due{0: {due(1, 2), due(2, 1)}}), true)
	wheelOkIs(t, wheelAt(1000, map[int][]impl.Due{0: {due(1, 1), due(1, 2)}}), true)
}

// A wrong number is found at each place of a full wheel.
func TestWheelOkFindsEachWrongNumber(t *testing.T) {
	for _, step := range []int64{1, 7, 1000} {
		whole := wheelOfByWords(step, someDues(4, mostDues))
		for slot, list := range whole.Slots {
			for place := range list {
				for _, d := range wrongDues() {
					w := keptWheel(whole)
					w.Slots[slot][place] = d
					wheelOkIs(t, w, false)
				}
			}
		}
	}
}

func TestWheelPutByHand(t *testing.T) {
	w := wheelAt(2, map[int][]impl.Due{0: duesAt(3, 0, 16), 2: duesAt(3, 5), 7: duesAt(3, 15, 31)})
	for _, k := range []struct {
		d    impl.Due
		slot int
		want []impl.Due
	}{
		{due(0, 2), 0, []impl.Due{due(0, 2), due(0, 3), due(16, 3)}},
		{due(0, 4), 0, []impl.Due{due(0, 3), due(0, 4), due(16, 3)}},
		{due(1, 1), 0, []impl.Due{due(0, 3), due(1, 1), due(16, 3)}},
		{due(17, 1), 0, []impl.Due{due(0, 3), due(16, 3), due(17, 1)}},
		{due(2, 1), 1, duesAt(1, 2)},
		{due(3, mostId), 1, duesAt(mostId, 3)},
		{due(4, 9), 2, []impl.Due{due(4, 9), due(5, 3)}},
		{due(21, 3), 2, duesAt(3, 5, 21)},
		{due(14, 3), 7, duesAt(3, 14, 15, 31)},
		{due(30, 3), 7, duesAt(3, 15, 30, 31)},
		{due(47, 3), 7, duesAt(3, 15, 31, 47)},
		{due(mostTime, 3), 0, duesAt(3, 0, 16, mostTime)},
		{due(mostTime-1, 3), 7, duesAt(3, 15, 31, mostTime-1)},
	} {
		want := keptWheel(w)
		want.Slots[k.slot] = k.want
		wheelPutIs(t, w, k.d, want, true)
	}
	for _, d := range []impl.Due{due(0, 3), due(16, 3), due(5, 3), due(15, 3), due(31, 3), due(5, 0), due(5, mostId+1), due(-1, 5), due(mostTime+1, 5), {}} {
		wheelPutIs(t, w, d, w, false)
	}
	w.Slots[1] = duesAt(3, 5)
	wheelPutIs(t, w, due(1, 1), impl.Wheel{}, false)
	wheelPutIs(t, impl.Wheel{}, due(1, 1), impl.Wheel{}, false)
	wheelPutIs(t, impl.Wheel{Step: 1}, due(1, 1), impl.Wheel{}, false)
}

func TestWheelTakeByHand(t *testing.T) {
	w := wheelAt(2, map[int][]impl.Due{0: duesAt(3, 16, 32), 2: {due(5, 2), due(5, 3)}, 7: duesAt(1, 15, 30)})
	for _, k := range []struct {
		first impl.Due
		slot  int
		rest  []impl.Due
	}{
		{due(5, 2), 2, duesAt(3, 5)},
		{due(5, 3), 2, nil},
		{due(15, 1), 7, duesAt(1, 30)},
		{due(16, 3), 0, duesAt(3, 32)},
		{due(30, 1), 7, nil},
		{due(32, 3), 0, nil},
	} {
		want := keptWheel(w)
		want.Slots[k.slot] = k.rest
		wheelTakeIs(t, w, want, k.first, true)
		w = want
	}
	wheelTakeIs(t, w, w, impl.Due{}, false)
	wheelTakeIs(t, wheelAt(1000, nil), wheelAt(1000, nil), impl.Due{}, false)
	wheelTakeIs(t, impl.Wheel{}, impl.Wheel{}, impl.Due{}, false)
	wheelTakeIs(t, wheelAt(1, map[int][]impl.Due{0: duesAt(1, 0), 1: duesAt(1, 2)}), impl.Wheel{}, impl.Due{}, false)
}

func TestRightWheelsByWords(t *testing.T) {
	for _, w := range rightWheels() {
		wheelAsByWords(t, w)
		wheelPutsAsByWords(t, w, newcomers()...)
	}
	for _, kind := range []int64{0, 1, 2, 5, 7} {
		for _, n := range someCounts() {
			w := wheelOfByWords(9, someDues(kind, n))
			wheelPutsAsByWords(t, w, duesOf(w)...)
		}
	}
}

func TestWrongWheels(t *testing.T) {
	for _, w := range wrongWheels() {
		wheelTakeIs(t, w, impl.Wheel{}, impl.Due{}, false)
		toHeapIs(t, w, nil, false)
		for _, d := range []impl.Due{due(5, 5), due(0, 1), due(mostTime, mostId), {}, due(math.MinInt64, math.MaxInt64)} {
			wheelPutIs(t, w, d, impl.Wheel{}, false)
		}
	}
}

func TestToWheelByHand(t *testing.T) {
	heap := duesAt(1, 1, 3, 2, 17, 4)
	toWheelIs(t, heap, 1, wheelAt(1, map[int][]impl.Due{1: duesAt(1, 1, 17), 2: duesAt(1, 2), 3: duesAt(1, 3), 4: duesAt(1, 4)}), true)
	toWheelIs(t, heap, 2, wheelAt(2, map[int][]impl.Due{0: duesAt(1, 1, 17), 1: duesAt(1, 2, 3), 2: duesAt(1, 4)}), true)
	toWheelIs(t, heap, 1000, wheelAt(1000, map[int][]impl.Due{0: duesAt(1, 1, 2, 3, 4, 17)}), true)
	toWheelIs(t, nil, 1000, wheelAt(1000, nil), true)
	toWheelIs(t, duesAt(mostId, mostTime), 1, wheelAt(1, map[int][]impl.Due{0: duesAt(mostId, mostTime)}), true)
	// 1099511627 whole Steps are 3 more than eight times 137438953.
	toWheelIs(t, duesAt(1, mostTime), 1000, wheelAt(1000, map[int][]impl.Due{3: duesAt(1, mostTime)}), true)
	for _, wrong := range [][]impl.Due{duesAt(1, 2, 1), duesAt(1, 2, 2), duesAt(0, 2), duesAt(1, -1), someDues(0, 61)} {
		toWheelIs(t, wrong, 1, impl.Wheel{}, false)
	}
}

func TestToWheelAtEachStep(t *testing.T) {
	heap := heapByPuts(someDues(6, mostDues))
	for step := int64(-300); step <= 1300; step++ {
		if within(step, 1, mostStep) {
			toWheelIs(t, heap, step, wheelOfByWords(step, heap), true)
			toWheelIs(t, nil, step, wheelAt(step, nil), true)
		} else {
			toWheelIs(t, heap, step, impl.Wheel{}, false)
			toWheelIs(t, nil, step, impl.Wheel{}, false)
		}
	}
	for _, step := range wrongAround(1, mostStep) {
		toWheelIs(t, heap, step, impl.Wheel{}, false)
		toWheelIs(t, nil, step, impl.Wheel{}, false)
	}
}

func TestToHeapByHand(t *testing.T) {
	toHeapIs(t, wheelAt(1, nil), nil, true)
	toHeapIs(t, wheelAt(1, map[int][]impl.Due{1: duesAt(1, 1, 17), 2: duesAt(1, 2), 3: duesAt(1, 3), 4: duesAt(1, 4)}), duesAt(1, 1, 2, 3, 4, 17), true)
	toHeapIs(t, wheelAt(2, map[int][]impl.Due{0: {due(1, 9), due(17, 1)}, 1: duesAt(5, 3), 7: {due(15, 2), due(15, 3), due(30, 1)}}), []impl.Due{due(1, 9), due(3, 5), due(15, 2), due(15, 3), due(17, 1), due(30, 1)}, true)
	toHeapIs(t, impl.Wheel{}, nil, false)
	toHeapIs(t, wheelAt(0, nil), nil, false)
	toHeapIs(t, wheelAt(1, map[int][]impl.Due{1: duesAt(1, 17, 1)}), nil, false)
	toHeapIs(t, wheelAt(1, map[int][]impl.Due{1: duesAt(1, 2)}), nil, false)
}

// bothPut puts them into both, one after another.
func bothPut(t *testing.T, step int64, list []impl.Due) ([]impl.Due, impl.Wheel) {
	t.Helper()
	var heap []impl.Due
	w := wheelAt(step, nil)
	for k, d := range list {
		putsAsByWords(t, heap, d)
		wheelPutsAsByWords(t, w, d)
		var done, alsoDone bool
		heap, done = impl.HeapPut(heap, d)
		w, alsoDone = impl.WheelPut(w, d)
		if !done || !alsoDone || len(heap) != k+1 {
			t.Fatalf("%v is put into %v and %v: %v and %v", d, heap, w, done, alsoDone)
		}
	}
	return heap, w
}

// bothTell takes all out of both, and holds it against the order.
func bothTell(t *testing.T, heap []impl.Due, w impl.Wheel, want []impl.Due) {
	t.Helper()
	for _, d := range inDueOrder(want) {
		var one, other impl.Due
		var done, alsoDone bool
		heap, one, done = impl.HeapTake(heap)
		w, other, alsoDone = impl.WheelTake(w)
		if one != d || other != d || !done || !alsoDone || !impl.HeapOk(heap) || !impl.WheelOk(w) {
			t.Fatalf("heap and wheel tell %v and %v, want %v: %v and %v are left", one, other, d, heap, w)
		}
	}
	heapTakeIs(t, heap, nil, impl.Due{}, false)
	wheelTakeIs(t, w, w, impl.Due{}, false)
}

// Whatever is put into both, in whatever order, both tell the same, and so do
// those that each turns into.
func TestHeapAndWheelTellTheSame(t *testing.T) {
	draw := &drawer{state: 14}
	for kind := range int64(8) {
		for _, n := range someCounts() {
			for _, step := range []int64{1, 7, 1000} {
				list := draw.mixed(someDues(kind, n))
				heap, w := bothPut(t, step, list)
				bothTell(t, heap, w, list)
				turned, done := impl.ToWheel(heap, step)
				back, alsoDone := impl.ToHeap(w)
				if !done || !alsoDone || !sameWheel(turned, w) {
					t.Fatalf("%v turns into %v, %v into %v", heap, turned, w, back)
				}
				bothTell(t, back, turned, list)
			}
		}
	}
}

// mixed is in any order.
func (d *drawer) mixed(list []impl.Due) []impl.Due {
	own := append([]impl.Due{}, list...)
	for k := range own {
		other := d.below(int64(len(own)))
		own[k], own[other] = own[other], own[k]
	}
	return own
}

// dueBelow has a Time and an Id of so many.
func (d *drawer) dueBelow(times, ids int64) impl.Due { return due(d.below(times), 1+d.below(ids)) }

// There and back is the same wheel, and of a heap what tells the same.
func TestThereAndBack(t *testing.T) {
	for _, w := range rightWheels() {
		heap, done := impl.ToHeap(w)
		toWheelIs(t, heap, w.Step, w, true)
		if !done || !impl.HeapOk(heap) {
			t.Fatalf("ToHeap(%v) = %v, %v", w, heap, done)
		}
	}
	for _, heap := range rightHeaps() {
		for _, step := range []int64{1, 8, 1000} {
			w, done := impl.ToWheel(heap, step)
			toHeapIs(t, w, inDueOrder(heap), true)
			back, _ := impl.ToHeap(w)
			if !done || !impl.WheelOk(w) {
				t.Fatalf("ToWheel(%v, %d) = %v, %v", heap, step, w, done)
			}
			bothTell(t, back, w, heap)
		}
	}
}

// What is put and taken in turns, from none to full and back.
func TestDrawnPutsAndTakes(t *testing.T) {
	draw := &drawer{state: 141}
	for run := range int64(90) {
		times := []int64{3, 20, 90, 8001, mostTime + 1}[run%5]
		ids := []int64{2, 5, mostId}[run%3]
		step := []int64{1, 2, 13, 999, 1000}[run/5%5]
		heap, w := []impl.Due{}, wheelAt(step, nil)
		var there []impl.Due
		for k := range int64(400) {
			heapAsByWords(t, heap)
			wheelAsByWords(t, w)
			// It fills up, is emptied, and fills up again.
			if draw.below(4) < 3-k/100%2*2 {
				d := draw.dueBelow(times, ids)
				putsAsByWords(t, heap, d)
				wheelPutsAsByWords(t, w, d)
				var done, alsoDone bool
				heap, done = impl.HeapPut(heap, d)
				w, alsoDone = impl.WheelPut(w, d)
				if want := !slices.Contains(there, d) && len(there) < mostDues; done != want || alsoDone != want {
					t.Fatalf("%v is put into %v and %v: %v and %v", d, heap, w, done, alsoDone)
				}
				if done {
					there = inDueOrder(append(there, d))
				}
				continue
			}
			var one, other impl.Due
			var done, alsoDone bool
			heap, one, done = impl.HeapTake(heap)
			w, other, alsoDone = impl.WheelTake(w)
			if one != other || done != alsoDone || done != (len(there) > 0) {
				t.Fatalf("heap and wheel tell %v and %v: %v and %v are left", one, other, heap, w)
			}
			if done {
				if one != there[0] {
					t.Fatalf("%v is taken, want %v", one, there[0])
				}
				there = there[1:]
			}
		}
		bothTell(t, heap, w, there)
	}
}

// Up to 60 and no further, all in one Slot or in each.
func TestPutUntilThereIsNoRoom(t *testing.T) {
	for kind := range int64(8) {
		for _, step := range []int64{1, 1000} {
			heap, w := bothPut(t, step, someDues(kind, mostDues))
			for _, d := range []impl.Due{due(0, 77777), due(6, 1), due(mostTime, 99999)} {
				heapPutIs(t, heap, d, heap, false)
				wheelPutIs(t, w, d, w, false)
			}
			less, _, _ := impl.HeapTake(heap)
			lessTurned, _, _ := impl.WheelTake(w)
			putsAsByWords(t, less, due(0, 77777), due(6, 1), due(mostTime, 99999))
			wheelPutsAsByWords(t, lessTurned, due(0, 77777), due(6, 1), due(mostTime, 99999))
			if _, done := impl.HeapPut(less, due(6, 12345)); !done {
				t.Fatalf("%v has room", less)
			}
			if _, done := impl.WheelPut(lessTurned, due(6, 12345)); !done {
				t.Fatalf("%v has room", lessTurned)
			}
		}
	}
}

// Times eight Steps apart are in one Slot; one Step apart, in the next.
func TestEightStepsApart(t *testing.T) {
	for _, step := range someSteps() {
		for slot := range int64(slotCount) {
			want := wheelAt(step, nil)
			var list []impl.Due
			for round := range int64(mostDues) {
				list = append(list, due((slot+8*round)*step+round%step, 4))
			}
			want.Slots[slot] = list
			toWheelIs(t, list, step, want, true)
			wheelAsByWords(t, want)
			bothTell(t, list, want, list)
		}
		for n := range mostDues + 1 {
			want := wheelAt(step, nil)
			var list []impl.Due
			for k := range n {
				d := due(int64(k)*step, 4)
				list = append(list, d)
				want.Slots[k%8] = append(want.Slots[k%8], d)
			}
			toWheelIs(t, list, step, want, true)
			toHeapIs(t, want, list, true)
		}
	}
}

// roomyHeap is the same with spare room behind it, with something written
// there.
func roomyHeap(heap []impl.Due) []impl.Due {
	room := append(append(make([]impl.Due, 0, len(heap)+3), heap...), due(901, 902), due(903, 904), due(905, 906))
	return room[:len(heap)]
}

func roomyWheel(w impl.Wheel) impl.Wheel {
	slots := make([][]impl.Due, 0, len(w.Slots)+2)
	for _, list := range w.Slots {
		slots = append(slots, roomyHeap(list))
	}
	behind := append(slots, duesAt(907, 908), duesAt(909, 910))
	return impl.Wheel{Step: w.Step, Slots: behind[:len(slots)]}
}

// wholeWheel is all of it, the spare room among it, as new memory.
func wholeWheel(w impl.Wheel) impl.Wheel {
	var slots [][]impl.Due
	for _, list := range w.Slots[:cap(w.Slots)] {
		slots = append(slots, append([]impl.Due{}, list[:cap(list)]...))
	}
	return impl.Wheel{Step: w.Step, Slots: slots}
}

func spoilDues(list []impl.Due) {
	for k := range list[:cap(list)] {
		list[:cap(list)][k] = due(-77, -78)
	}
}

func spoilWheel(w impl.Wheel) {
	for k, list := range w.Slots[:cap(w.Slots)] {
		spoilDues(list)
		w.Slots[:cap(w.Slots)][k] = nil
	}
}

// noDuesTwice tells whether heaps and wheels share any memory.
func noDuesTwice(t *testing.T, heaps [][]impl.Due, wheels ...impl.Wheel) {
	t.Helper()
	lists := append([][]impl.Due{}, heaps...)
	var slots [][][]impl.Due
	for _, w := range wheels {
		slots = append(slots, w.Slots)
		lists = append(lists, w.Slots[:cap(w.Slots)]...)
	}
	if inTwo(lists...) || inTwo(slots...) {
		t.Fatalf("%v and %v share memory", heaps, wheels)
	}
}

func TestHeapArgumentsStay(t *testing.T) {
	for _, heap := range slices.Concat(rightHeaps(), wrongHeaps()) {
		if len(heap) > 300 {
			continue
		}
		heap = roomyHeap(heap)
		all := append([]impl.Due{}, heap[:cap(heap)]...)
		for _, d := range []impl.Due{due(7, 77), due(0, 1), {}} {
			impl.HeapOk(heap)
			put, _ := impl.HeapPut(heap, d)
			putAgain, _ := impl.HeapPut(heap, d)
			taken, _, _ := impl.HeapTake(heap)
			takenAgain, _, _ := impl.HeapTake(heap)
			w, _ := impl.ToWheel(heap, 3)
			again, _ := impl.ToWheel(heap, 3)
			refused, _ := impl.ToWheel(heap, 0)
			noDuesTwice(t, [][]impl.Due{heap, put, putAgain, taken, takenAgain}, w, again, refused)
			keptPut, keptTaken, kept := append([]impl.Due{}, put...), append([]impl.Due{}, taken...), keptWheel(w)
			spoilDues(putAgain)
			spoilDues(takenAgain)
			spoilWheel(again)
			if !slices.Equal(put, keptPut) || !slices.Equal(taken, keptTaken) || !sameWheel(w, kept) {
				t.Fatalf("what %v made has become %v, %v and %v", all, put, taken, w)
			}
			spoilDues(put)
			spoilDues(taken)
			spoilWheel(w)
			if !slices.Equal(heap[:cap(heap)], all) {
				t.Fatalf("%v has become %v", all, heap[:cap(heap)])
			}
		}
	}
}

func TestWheelArgumentsStay(t *testing.T) {
	for _, w := range slices.Concat(rightWheels(), wrongWheels()) {
		w = roomyWheel(w)
		all := wholeWheel(w)
		for _, d := range []impl.Due{due(7, 77), due(0, 1), {}} {
			impl.WheelOk(w)
			put, _ := impl.WheelPut(w, d)
			putAgain, _ := impl.WheelPut(w, d)
			taken, _, _ := impl.WheelTake(w)
			takenAgain, _, _ := impl.WheelTake(w)
			heap, _ := impl.ToHeap(w)
			again, _ := impl.ToHeap(w)
			noDuesTwice(t, [][]impl.Due{heap, again}, w, put, putAgain, taken, takenAgain)
			keptPut, keptTaken, kept := keptWheel(put), keptWheel(taken), append([]impl.Due{}, heap...)
			spoilWheel(putAgain)
			spoilWheel(takenAgain)
			spoilDues(again)
			if !sameWheel(put, keptPut) || !sameWheel(taken, keptTaken) || !slices.Equal(heap, kept) {
				t.Fatalf("what %v made has become %v, %v and %v", all, put, taken, heap)
			}
			spoilWheel(put)
			spoilWheel(taken)
			spoilDues(heap)
			if !sameWheel(wholeWheel(w), all) {
				t.Fatalf("%v has become %v", all, w)
			}
		}
	}
}

// What is answered as it is owns its memory too.
func TestOrdersAsTheyAreAreNewMemory(t *testing.T) {
	heap := roomyHeap(heapByPuts(someDues(6, mostDues)))
	w := roomyWheel(wheelOfByWords(3, heap))
	kept, keptTurned := append([]impl.Due{}, heap...), keptWheel(w)
	for _, d := range []impl.Due{due(7, 77), heap[0], heap[59], due(-1, 1), due(1, 0), {}} {
		same, done := impl.HeapPut(heap, d)
		sameTurned, alsoDone := impl.WheelPut(w, d)
		if done || alsoDone || !slices.Equal(same, kept) || !sameWheel(sameTurned, keptTurned) {
			t.Fatalf("%v is put into %v and %v", d, kept, keptTurned)
		}
		noDuesTwice(t, [][]impl.Due{heap, same}, w, sameTurned)
		spoilDues(same)
		spoilWheel(sameTurned)
		if !slices.Equal(heap, kept) || !sameWheel(w, keptTurned) {
			t.Fatalf("%v and %v have become %v and %v", kept, keptTurned, heap, w)
		}
	}
	empty := roomyWheel(wheelAt(3, nil))
	same, _, done := impl.WheelTake(empty)
	noDuesTwice(t, nil, empty, same)
	spoilWheel(same)
	if done || !sameWheel(empty, wheelAt(3, nil)) {
		t.Fatalf("%v, %v", empty, same)
	}
}

// Slots that lie behind one another in one memory each have their own in the
// answer, and what is put into one stays in it.
func TestWheelOfOneMemory(t *testing.T) {
	room := duesAt(1, 0, 8, 1, 9, 2, 10, 3, 11, 4, 12, 5, 13, 6, 14, 7, 15)
	kept := append([]impl.Due{}, room...)
	w := wheelAt(1, nil)
	for slot := range slotCount {
		w.Slots[slot] = room[2*slot : 2*slot+2]
	}
	for time := range int64(24) {
		d := due(time, 2)
		wheelPutsAsByWords(t, w, d)
		put, _ := impl.WheelPut(w, d)
		noDuesTwice(t, [][]impl.Due{room}, put)
		spoilWheel(put)
	}
	wheelAsByWords(t, w)
	taken, _, _ := impl.WheelTake(w)
	refused, _ := impl.WheelPut(w, due(0, 1))
	noDuesTwice(t, [][]impl.Due{room}, taken, refused)
	spoilWheel(taken)
	spoilWheel(refused)
	if !slices.Equal(room, kept) {
		t.Fatalf("%v has become %v", kept, room)
	}
}

// What came first is not changed by what is made of it, twice.
func TestOrdersPartWays(t *testing.T) {
	heap := heapByPuts(someDues(5, 20))
	w := wheelOfByWords(2, heap)
	for range 20 {
		one, _, _ := impl.HeapTake(heap)
		other, _ := impl.HeapPut(heap, due(3, 999))
		third, _ := impl.HeapPut(one, due(4, 999))
		oneTurned, _, _ := impl.WheelTake(w)
		otherTurned, _ := impl.WheelPut(w, due(3, 999))
		thirdTurned, _ := impl.WheelPut(oneTurned, due(4, 999))
		noDuesTwice(t, [][]impl.Due{heap, one, other, third}, w, oneTurned, otherTurned, thirdTurned)
		kept, keptTurned := append([]impl.Due{}, one...), keptWheel(oneTurned)
		spoilDues(other)
		spoilDues(third)
		spoilWheel(otherTurned)
		spoilWheel(thirdTurned)
		if !slices.Equal(one, kept) || !sameWheel(oneTurned, keptTurned) {
			t.Fatalf("%v and %v have become %v and %v", kept, keptTurned, one, oneTurned)
		}
		heap, w = one, oneTurned
	}
}
