package tests

import (
	"math"
	"slices"
	"testing"

	"loop.example/g00316/impl"
)

const mostSize = 100000

// wrongSizes are no n and no room; some have the low bits of right ones.
var wrongSizes = []int64{-1, -2, -53, -mostSize, -mostSize - 1, mostSize + 1, mostSize + 2, 2 * mostSize, 1 << 17, 1 << 32, 1<<32 + 5, -1 << 32, 1 << 40, math.MinInt64, math.MinInt64 + 1, math.MinInt64 + 64, math.MaxInt64 - mostSize, math.MaxInt64 - 100, math.MaxInt64 - 47, math.MaxInt64 - 1, math.MaxInt64}

// someSizes have whole cells and words, one less and one more, and the edges.
var someSizes = []int64{0, 1, 2, 3, 39, 40, 41, 47, 48, 49, 52, 53, 54, 56, 63, 64, 65, 66, 95, 96, 97, 105, 106, 107, 127, 128, 129, 130, 1959, 1960, 1999, 2000, 2001, 2032, 49999, 50000, 90565, 90566, 90576, 98461, 98462, 99839, 99840, 99983, 99984, 99985, mostSize - 101, mostSize - 100, mostSize - 99, mostSize - 1, mostSize}

type lineField struct {
	of              func(l *impl.Line) *int64
	least, greatest int64
}

func lineFields() []lineField {
	return []lineField{
		{func(l *impl.Line) *int64 { return &l.Kind }, 1, 3},
		{func(l *impl.Line) *int64 { return &l.Extra }, 0, 100},
		{func(l *impl.Line) *int64 { return &l.Least }, 0, 2000},
	}
}

// rightLines are of each Kind, with Least above and not above what is carried.
func rightLines() []impl.Line {
	var list []impl.Line
	for kind := range int64(3) {
		for _, extra := range []int64{0, 1, 8, 47, 48, 64, 99, 100} {
			for _, least := range []int64{0, 1, 47, 48, 49, 63, 64, 65, 100, 1000, 1999, 2000} {
				list = append(list, impl.Line{Kind: kind + 1, Extra: extra, Least: least})
			}
		}
	}
	return list
}

// fewLines are those rightLines whose fields are at their edges, and some.
func fewLines() []impl.Line {
	return slices.DeleteFunc(rightLines(), func(l impl.Line) bool {
		return !slices.Contains([]int64{0, 8, 100}, l.Extra) || !slices.Contains([]int64{0, 64, 2000}, l.Least)
	})
}

// wrongLines have one field that is wrong.
func wrongLines() []impl.Line {
	list := []impl.Line{{}, {Extra: 8}, {Kind: 4, Extra: 101, Least: 2001}}
	for _, field := range lineFields() {
		for _, n := range []int64{
			field.least - 1, field.least - 2, field.greatest + 1, field.greatest + 2, -field.greatest - 1,
			1 << 32, 1<<32 + field.greatest, -1 << 32, 256 * (field.greatest + 1),
			math.MinInt64, math.MinInt64 + 1, math.MinInt64 + field.greatest, math.MaxInt64 - field.greatest, math.MaxInt64 - 1, math.MaxInt64,
		} {
			for _, l := range []impl.Line{{Kind: 1}, {Kind: 2, Extra: 8, Least: 64}, {Kind: 3, Extra: 100, Least: 2000}} {
				*field.of(&l) = n
				list = append(list, l)
			}
		}
	}
	return list
}

// takenByCounting has for each carried number, from 0 on, what it takes: one
// after another is laid on the line.
func takenByCounting(kind int64) []int64 {
	list := []int64{0}
	for i := range int64(mostSize + 100) {
		last := list[i]
		switch {
		case kind == 1:
			last++
		case kind == 2 && i%48 == 0:
			last += 53
		case kind == 3 && i%64 == 0:
			last += 2
		case kind == 3:
			last++
		}
		list = append(list, last)
	}
	return list
}

// onLineByCounting has OnLine of each n from 0 to the greatest.
func onLineByCounting(l impl.Line, counted []int64) []int64 {
	list := make([]int64, 0, mostSize+1)
	for n := range int64(mostSize + 1) {
		carried := n + l.Extra
		if carried < l.Least {
			carried = l.Least
		}
		list = append(list, counted[carried])
	}
	return list
}

// offLineBySearch has for each room from 0 to the greatest the greatest n of
// all whose number in takes is at most room; it goes by no order among takes.
func offLineBySearch(takes []int64) []int64 {
	list := slices.Repeat([]int64{-1}, mostSize+1)
	for n, room := range takes {
		if room <= mostSize {
			list[room] = max(list[room], int64(n))
		}
	}
	for room := 1; room <= mostSize; room++ {
		list[room] = max(list[room], list[room-1])
	}
	return list
}

func countedKinds() [4][]int64 {
	return [4][]int64{1: takenByCounting(1), 2: takenByCounting(2), 3: takenByCounting(3)}
}

func onLineIs(t *testing.T, l impl.Line, n, want int64) {
	t.Helper()
	if got := impl.OnLine(l, n); got != want {
		t.Fatalf("OnLine(%+v, %d) = %d, want %d", l, n, got, want)
	}
}

func offLineIs(t *testing.T, l impl.Line, room, want int64) {
	t.Helper()
	if got := impl.OffLine(l, room); got != want {
		t.Fatalf("OffLine(%+v, %d) = %d, want %d", l, room, got, want)
	}
}

func TestLineConstants(t *testing.T) {
	if impl.LnPlain != 1 || impl.LnCells != 2 || impl.LnWords != 3 || impl.MaxSize != mostSize {
		t.Fatal(impl.LnPlain, impl.LnCells, impl.LnWords, impl.MaxSize)
	}
}

func TestLineOk(t *testing.T) {
	for _, l := range rightLines() {
		if !impl.LineOk(l) {
			t.Fatalf("%+v is right", l)
		}
	}
	for _, l := range wrongLines() {
		if impl.LineOk(l) {
			t.Fatalf("%+v is wrong", l)
		}
	}
}

func TestLineOkAtEachNumber(t *testing.T) {
	for _, field := range lineFields() {
		for n := field.least - 300; n <= field.greatest+300; n++ {
			l := impl.Line{Kind: 2, Extra: 8, Least: 64}
			*field.of(&l) = n
			if got := impl.LineOk(l); got != within(n, field.least, field.greatest) {
				t.Fatalf("LineOk(%+v) = %v", l, got)
			}
		}
	}
}

func TestOnLineByHand(t *testing.T) {
	for _, c := range []struct {
		l       impl.Line
		n, want int64
	}{
		{impl.Line{Kind: 1}, 0, 0},
		{impl.Line{Kind: 1}, 9, 9},
		{impl.Line{Kind: 1}, mostSize, mostSize},
		{impl.Line{Kind: 1, Extra: 100}, 0, 100},
		{impl.Line{Kind: 1, Extra: 100}, mostSize, 100100},
		{impl.Line{Kind: 1, Extra: 14, Least: 60}, 45, 60},
		{impl.Line{Kind: 1, Extra: 14, Least: 60}, 46, 60},
		{impl.Line{Kind: 1, Extra: 14, Least: 60}, 47, 61},
		{impl.Line{Kind: 1, Extra: 100, Least: 2000}, 0, 2000},
		{impl.Line{Kind: 1, Extra: 100, Least: 2000}, 1901, 2001},
		{impl.Line{Kind: 2}, 0, 0},
		{impl.Line{Kind: 2}, 1, 53},
		{impl.Line{Kind: 2}, 47, 53},
		{impl.Line{Kind: 2}, 48, 53},
		{impl.Line{Kind: 2}, 49, 106},
		{impl.Line{Kind: 2}, 96, 106},
		{impl.Line{Kind: 2}, 97, 159},
		{impl.Line{Kind: 2}, 99984, 110399},
		{impl.Line{Kind: 2}, mostSize, 110452},
		{impl.Line{Kind: 2, Extra: 8}, 40, 53},
		{impl.Line{Kind: 2, Extra: 8}, 41, 106},
		{impl.Line{Kind: 2, Extra: 100}, 0, 159},
		{impl.Line{Kind: 2, Extra: 100}, mostSize, 110558},
		// Least is of what goes into the cells.
		{impl.Line{Kind: 2, Least: 48}, 0, 53},
		{impl.Line{Kind: 2, Least: 49}, 0, 106},
		{impl.Line{Kind: 2, Least: 53}, 5, 106},
		{impl.Line{Kind: 2, Extra: 8, Least: 64}, 0, 106},
		{impl.Line{Kind: 2, Least: 2000}, 0, 2226},
		{impl.Line{Kind: 3}, 0, 0},
		{impl.Line{Kind: 3}, 1, 2},
		{impl.Line{Kind: 3}, 63, 64},
		{impl.Line{Kind: 3}, 64, 65},
		{impl.Line{Kind: 3}, 65, 67},
		{impl.Line{Kind: 3}, 128, 130},
		{impl.Line{Kind: 3}, 129, 132},
		{impl.Line{Kind: 3}, mostSize, 101563},
		{impl.Line{Kind: 3, Extra: 4}, 60, 65},
		{impl.Line{Kind: 3, Extra: 4}, 61, 67},
		{impl.Line{Kind: 3, Extra: 100}, 0, 102},
		{impl.Line{Kind: 3, Least: 64}, 3, 65},
		{impl.Line{Kind: 3, Least: 65}, 3, 67},
		{impl.Line{Kind: 3, Extra: 100, Least: 2000}, mostSize, 101665},
		{impl.Line{Kind: 3, Extra: 100, Least: 2000}, 1900, 2032},
	} {
		onLineIs(t, c.l, c.n, c.want)
	}
}

func TestOffLineByHand(t *testing.T) {
	for _, c := range []struct {
		l          impl.Line
		room, want int64
	}{
		{impl.Line{Kind: 1}, 0, 0},
		{impl.Line{Kind: 1}, 9, 9},
		{impl.Line{Kind: 1}, mostSize, mostSize},
		{impl.Line{Kind: 1, Extra: 100}, 99, -1},
		{impl.Line{Kind: 1, Extra: 100}, 100, 0},
		{impl.Line{Kind: 1, Extra: 100}, mostSize, 99900},
		{impl.Line{Kind: 1, Extra: 14, Least: 60}, 59, -1},
		{impl.Line{Kind: 1, Extra: 14, Least: 60}, 60, 46},
		{impl.Line{Kind: 1, Least: 2000}, 1999, -1},
		{impl.Line{Kind: 1, Least: 2000}, 2000, 2000},
		{impl.Line{Kind: 2}, 0, 0},
		{impl.Line{Kind: 2}, 52, 0},
		{impl.Line{Kind: 2}, 53, 48},
		{impl.Line{Kind: 2}, 105, 48},
		{impl.Line{Kind: 2}, 106, 96},
		{impl.Line{Kind: 2}, mostSize, 90528},
		{impl.Line{Kind: 2, Extra: 8}, 0, -1},
		{impl.Line{Kind: 2, Extra: 8}, 52, -1},
		{impl.Line{Kind: 2, Extra: 8}, 53, 40},
		{impl.Line{Kind: 2, Extra: 8}, 105, 40},
		{impl.Line{Kind: 2, Extra: 8, Least: 49}, 105, -1},
		{impl.Line{Kind: 2, Extra: 8, Least: 49}, 106, 88},
		{impl.Line{Kind: 2, Extra: 100, Least: 2000}, 2225, -1},
		{impl.Line{Kind: 2, Extra: 100, Least: 2000}, 2226, 1916},
		{impl.Line{Kind: 3}, 0, 0},
		{impl.Line{Kind: 3}, 1, 0},
		{impl.Line{Kind: 3}, 2, 1},
		{impl.Line{Kind: 3}, 64, 63},
		{impl.Line{Kind: 3}, 65, 64},
		{impl.Line{Kind: 3}, 66, 64},
		{impl.Line{Kind: 3}, 67, 65},
		{impl.Line{Kind: 3}, mostSize, 98461},
		{impl.Line{Kind: 3, Least: 64}, 64, -1},
		{impl.Line{Kind: 3, Least: 64}, 65, 64},
		{impl.Line{Kind: 3, Extra: 100, Least: 2000}, 2031, -1},
		{impl.Line{Kind: 3, Extra: 100, Least: 2000}, 2032, 1900},
	} {
		offLineIs(t, c.l, c.room, c.want)
	}
}

// Every n of few lines, and a stretch of all, against what is counted.
func TestOnLineByCounting(t *testing.T) {
	kinds := countedKinds()
	for _, l := range fewLines() {
		for n, want := range onLineByCounting(l, kinds[l.Kind]) {
			onLineIs(t, l, int64(n), want)
		}
	}
	for _, l := range rightLines() {
		takes := onLineByCounting(l, kinds[l.Kind])
		for n := range int64(2500) {
			onLineIs(t, l, n, takes[n])
			onLineIs(t, l, mostSize-n, takes[mostSize-n])
		}
	}
}

// Every room of few lines, and a stretch of all, against a plain search.
func TestOffLineBySearch(t *testing.T) {
	kinds := countedKinds()
	for _, l := range fewLines() {
		for room, want := range offLineBySearch(onLineByCounting(l, kinds[l.Kind])) {
			offLineIs(t, l, int64(room), want)
		}
	}
	for _, l := range rightLines() {
		best := offLineBySearch(onLineByCounting(l, kinds[l.Kind]))
		for room := range int64(2500) {
			offLineIs(t, l, room, best[room])
			offLineIs(t, l, mostSize-room, best[mostSize-room])
		}
	}
}

// OffLine is also the greatest by the program's own OnLine.
func TestOffLineIsTheGreatest(t *testing.T) {
	for _, l := range rightLines() {
		for _, room := range someSizes {
			n := impl.OffLine(l, room)
			if n < -1 || n > mostSize {
				t.Fatalf("OffLine(%+v, %d) = %d", l, room, n)
			}
			if n >= 0 && impl.OnLine(l, n) > room {
				t.Fatalf("OffLine(%+v, %d) = %d, which takes %d", l, room, n, impl.OnLine(l, n))
			}
			if n < mostSize && impl.OnLine(l, n+1) <= room {
				t.Fatalf("OffLine(%+v, %d) = %d, but 1 more takes %d", l, room, n, impl.OnLine(l, n+1))
			}
		}
	}
}

// The room of 0, and one less: the edge between 0 or more, and none.
func TestOffLineWhereNoneFits(t *testing.T) {
	for _, l := range rightLines() {
		room := impl.OnLine(l, 0)
		if impl.OffLine(l, room) < 0 {
			t.Fatalf("OffLine(%+v, %d): 0 fits", l, room)
		}
		if room > 0 {
			offLineIs(t, l, room-1, -1)
			offLineIs(t, l, 0, -1)
		}
	}
}

// A plain line without Extra is the one where the greatest room holds the
// greatest n; where more would go in, no more is told.
func TestOffLineStopsAtTheGreatest(t *testing.T) {
	for _, least := range []int64{0, 1, 2000} {
		offLineIs(t, impl.Line{Kind: 1, Least: least}, mostSize, mostSize)
		offLineIs(t, impl.Line{Kind: 1, Least: least}, mostSize-1, mostSize-1)
	}
	for _, l := range rightLines() {
		for _, room := range []int64{mostSize + 1, mostSize + 101, 110558, 2 * mostSize, math.MaxInt64} {
			offLineIs(t, l, room, -1)
		}
	}
}

func connected(t *testing.T, l impl.Line, n, room int64) {
	t.Helper()
	on, off := impl.OnLine(l, n), impl.OffLine(l, room)
	if (n <= off) != (on <= room) {
		t.Fatalf("%+v: OnLine(%d) = %d, OffLine(%d) = %d", l, n, on, room, off)
	}
}

func TestLinesAreConnected(t *testing.T) {
	for _, l := range rightLines() {
		for _, n := range someSizes {
			for _, room := range someSizes {
				connected(t, l, n, room)
			}
		}
	}
	for _, l := range fewLines() {
		for n := range int64(260) {
			for room := range int64(260) {
				connected(t, l, n, room)
			}
		}
	}
}

func TestDrawnLinesAreConnected(t *testing.T) {
	d := &drawer{state: 7}
	for range 40000 {
		l := impl.Line{Kind: 1 + d.below(3), Extra: d.below(101), Least: d.below(2001)}
		n, room := d.below(mostSize+1), d.below(mostSize+1)
		connected(t, l, n, room)
		// Near each other is where they could part.
		near := impl.OnLine(l, n) - 3 + d.below(7)
		if within(near, 0, mostSize) {
			connected(t, l, n, near)
		}
		connected(t, l, n%3000, room%3000)
	}
}

// There is no OnLine less than one of a lesser n, no OffLine less than one of
// a lesser room.
func TestLinesGoUp(t *testing.T) {
	for _, l := range fewLines() {
		for n := range int64(3000) {
			if impl.OnLine(l, n) > impl.OnLine(l, n+1) || impl.OffLine(l, n) > impl.OffLine(l, n+1) {
				t.Fatalf("%+v: goes down behind %d", l, n)
			}
		}
	}
}

func TestLinesOfWrongNumbers(t *testing.T) {
	for _, l := range rightLines() {
		for _, n := range wrongSizes {
			onLineIs(t, l, n, -1)
			offLineIs(t, l, n, -1)
		}
	}
}

func TestWrongLines(t *testing.T) {
	for _, l := range wrongLines() {
		for _, n := range slices.Concat(someSizes, wrongSizes) {
			onLineIs(t, l, n, -1)
			offLineIs(t, l, n, -1)
		}
	}
}

func TestLineArgumentsStay(t *testing.T) {
	for _, l := range slices.Concat(rightLines(), wrongLines()) {
		asked, n := l, int64(41)
		impl.LineOk(asked)
		first, second := impl.OnLine(asked, n), impl.OffLine(asked, n)
		if asked != l || n != 41 {
			t.Fatalf("%+v has become %+v", l, asked)
		}
		// Nothing is kept from call to call either.
		onLineIs(t, l, n, first)
		offLineIs(t, l, n, second)
	}
}
