package tests

import (
	"fmt"
	"math"
	"slices"
	"strconv"
	"strings"
	"testing"

	"loop.example/g00316/impl"
)

const checkRound = 999983

// checkFromBehind adds what each byte comes to, from the last one on, and what
// the 15 at first comes to.
func checkFromBehind(s string) int64 {
	total, times := int64(0), int64(1)
	for k := len(s) - 1; k >= 0; k-- {
		total = (total + times*int64(s[k])) % checkRound
		times = times * 59 % checkRound
	}
	return (total + times*15) % checkRound
}

// withCheck has the right line of Check behind it, whatever it is.
func withCheck(ahead string) string { return ahead + textLine(checkFromBehind(ahead)) }

// textLine is one line of numbers.
func textLine(numbers ...int64) string {
	var words []string
	for _, n := range numbers {
		words = append(words, fmt.Sprint(n))
	}
	return strings.Join(words, " ") + "\n"
}

// aheadByWords is all but Check, of wrong gates too: a leaf that lacks a Steer
// or a Flow has a line without it.
func aheadByWords(g impl.Gate) string {
	lines := []string{textLine(g.Line.Kind, g.Line.Extra, g.Line.Least), textLine(int64(len(g.Routes)))}
	for _, r := range g.Routes {
		lines = append(lines, textLine(r.Net, r.Bits, r.Hop))
	}
	lines = append(lines, textLine(int64(len(g.Rules))))
	for _, r := range g.Rules {
		lines = append(lines, textLine(r.Id, r.Prio, r.SrcNet, r.SrcBits, r.DstNet, r.DstBits, r.Proto, r.Low, r.High, r.Class))
	}
	lines = append(lines, textLine(int64(len(g.Tree))))
	for _, x := range g.Tree {
		lines = append(lines, textLine(x.Up, x.Purse.Rate, x.Purse.Burst, x.Purse.Level, x.Purse.At))
	}
	lines = append(lines, textLine(g.Leaves...), textLine(g.Rows.Most))
	for leaf, list := range g.Rows.Lists {
		var numbers []int64
		if leaf < len(g.Steers) {
			numbers = append(numbers, g.Steers[leaf].Target, g.Steers[leaf].Old, g.Steers[leaf].Prob)
		}
		if leaf < len(g.Fair.Flows) {
			numbers = append(numbers, g.Fair.Flows[leaf].Weight, g.Fair.Flows[leaf].Finish)
		}
		for _, i := range list {
			numbers = append(numbers, i.Id, i.Size, i.At)
		}
		lines = append(lines, textLine(numbers...))
	}
	return strings.Join(append(lines, textLine(g.Fair.Now), textLine(g.Next, g.Draw)), "")
}

func imageByWords(g impl.Gate) string { return withCheck(aheadByWords(g)) }

// inForm tells whether a word is a number as the conventions write it.
func inForm(word string) bool {
	digits := strings.TrimPrefix(word, "-")
	if digits == "" || strings.Trim(digits, "0123456789") != "" {
		return false
	}
	return digits[0] != '0' || word == "0"
}

// strictReader gives lines of numbers, and is wrong from the first thing on
// that is not as it must be.
type strictReader struct {
	lines [][]int64
	wrong bool
}

func strictReaderOf(s string) *strictReader {
	r := &strictReader{wrong: !strings.HasSuffix(s, "\n")}
	for line := range strings.SplitSeq(strings.TrimSuffix(s, "\n"), "\n") {
		var numbers []int64
		for word := range strings.SplitSeq(line, " ") {
			n, err := strconv.ParseInt(word, 10, 64)
			r.wrong = r.wrong || err != nil || !inForm(word)
			numbers = append(numbers, n)
		}
		r.lines = append(r.lines, numbers)
	}
	return r
}

// line gives the next one, if it has so many numbers.
func (r *strictReader) line(fits func(count int) bool) []int64 {
	if r.wrong || len(r.lines) == 0 || !fits(len(r.lines[0])) {
		r.wrong = true
		return nil
	}
	first := r.lines[0]
	r.lines = r.lines[1:]
	return first
}

// of gives a line of just so many numbers; where there is none they are 0.
func (r *strictReader) of(count int) []int64 {
	if line := r.line(func(n int) bool { return n == count }); line != nil {
		return line
	}
	return make([]int64, count)
}

// counted gives as many lines as the one ahead of them says.
func (r *strictReader) counted(count int) [][]int64 {
	var list [][]int64
	n := r.of(1)[0]
	for n > int64(len(list)) && !r.wrong {
		list = append(list, r.of(count))
	}
	r.wrong = r.wrong || n != int64(len(list))
	return list
}

// readByWords is what FromImage must tell: it takes nothing that is out of
// form, and asks whether the gate is right.
func readByWords(s string) (impl.Gate, bool) {
	var g impl.Gate
	r := strictReaderOf(s)
	n := r.of(3)
	g.Line = impl.Line{Kind: n[0], Extra: n[1], Least: n[2]}
	if !rightLineByFields(g.Line) {
		return impl.Gate{}, false
	}
	for _, n := range r.counted(3) {
		g.Routes = append(g.Routes, impl.Route{Net: n[0], Bits: n[1], Hop: n[2]})
	}
	for _, n := range r.counted(10) {
		g.Rules = append(g.Rules, impl.Rule{Id: n[0], Prio: n[1], SrcNet: n[2], SrcBits: n[3], DstNet: n[4], DstBits: n[5], Proto: n[6], Low: n[7], High: n[8], Class: n[9]})
	}
	for _, n := range r.counted(5) {
		g.Tree = append(g.Tree, impl.Node{Up: n[0], Purse: purse(n[1], n[2], n[3], n[4])})
	}
	g.Leaves = slices.Clone(r.line(func(n int) bool { return n >= 1 }))
	g.Rows.Most = r.of(1)[0]
	for range g.Leaves {
		n := r.line(func(n int) bool { return n >= 5 && n%3 == 2 })
		if r.wrong {
			return impl.Gate{}, false
		}
		var items []impl.Item
		flow := payer(n[3], n[4])
		for n := n[5:]; len(n) > 0; n = n[3:] {
			items = append(items, item(n[0], n[1], n[2]))
			if !within(n[1], 1, mostSize) {
				return impl.Gate{}, false
			}
			flow.Sizes = append(flow.Sizes, onLineByWords(g.Line, n[1]))
		}
		g.Steers = append(g.Steers, steer(n[0], n[1], n[2]))
		g.Fair.Flows = append(g.Fair.Flows, flow)
		g.Rows.Lists = append(g.Rows.Lists, items)
	}
	g.Fair.Now = r.of(1)[0]
	n = r.of(2)
	g.Next, g.Draw = n[0], n[1]
	check := r.of(1)[0]
	if r.wrong || len(r.lines) > 0 || !rightGateByWords(g) || !strings.HasSuffix(s, "\n"+textLine(check)) ||
		check != checkFromBehind(strings.TrimSuffix(s, textLine(check))) {
		return impl.Gate{}, false
	}
	return g, true
}

func checkIs(t *testing.T, s string, want int64) {
	t.Helper()
	if got := impl.Check(s); got != want {
		t.Fatalf("Check(%.60q), of %d bytes, is %d, want %d", s, len(s), got, want)
	}
}

func imageIs(t *testing.T, g impl.Gate, want string) {
	t.Helper()
	if got := impl.Image(g); got != want {
		t.Fatalf("Image(%+v) = %q, want %q", g, got, want)
	}
}

func fromImageIs(t *testing.T, s string, want impl.Gate, wantDone bool) {
	t.Helper()
	got, done := impl.FromImage(s)
	if done != wantDone || !sameGate(got, want) {
		t.Fatalf("FromImage(%.3000q) = %+v, %v, want %+v, %v", s, got, done, want, wantDone)
	}
}

func noImage(t *testing.T, s string) {
	t.Helper()
	fromImageIs(t, s, impl.Gate{}, false)
}

// fromImageAsByWords also asks that a text which is read is the one Image of
// what is read. It tells whether it is read.
func fromImageAsByWords(t *testing.T, s string) bool {
	t.Helper()
	g, done := readByWords(s)
	fromImageIs(t, s, g, done)
	if done {
		imageIs(t, g, s)
	}
	return done
}

// heldAsImage asks there and back of a right gate, and answers what is read.
func heldAsImage(t *testing.T, g impl.Gate) impl.Gate {
	t.Helper()
	s := imageByWords(g)
	imageIs(t, g, s)
	fromImageIs(t, s, g, true)
	back, _ := impl.FromImage(s)
	gateOkIs(t, back, true)
	imageIs(t, back, s)
	if read, right := readByWords(s); !right || !sameGate(read, g) {
		t.Fatalf("%q is read as %+v, %v, not as %+v", s, read, right, g)
	}
	return back
}

func TestCheckByHand(t *testing.T) {
	for _, c := range []struct {
		text string
		want int64
	}{
		{"", 15},
		{"\x00", 15 * 59},
		{"\n", 895},
		{"a", 982},
		{"\xff", 1140},
		{"ab", 58036},
		{"ba", 982*59 + 59 + 97},
		{"abc", 424274},
		{"\x00\x00\x00\x00", 763492},
		{"\xff\xff\xff\xff", 39010},
		{"1 0 0\n", 381760},
		{"Weighhouse", 116560},
	} {
		checkIs(t, c.text, c.want)
	}
}

func TestCheckOfEachByte(t *testing.T) {
	for a := range int64(256) {
		one := string([]byte{byte(a)})
		checkIs(t, one, 15*59+a)
		for b := range int64(256) {
			checkIs(t, one+string([]byte{byte(b)}), (15*59+a)*59+b)
		}
	}
}

// Just where a whole round is come to, one ahead of it and one behind it.
func TestCheckAtTheRound(t *testing.T) {
	seen := map[int64]int{}
	for a := range int64(256) {
		for b := range int64(256) {
			ahead := string([]byte{byte(a), byte(b), 7})
			times := checkFromBehind(ahead) * 59
			for whole := times / checkRound * checkRound; whole <= times+256; whole += checkRound {
				for _, c := range []int64{whole - times - 1, whole - times, whole - times + 1} {
					if within(c, 0, 255) {
						want := (times + c) % checkRound
						checkIs(t, ahead+string([]byte{byte(c)}), want)
						seen[want]++
					}
				}
			}
		}
	}
	if len(seen) != 3 || seen[0] == 0 || seen[1] == 0 || seen[checkRound-1] == 0 {
		t.Fatalf("seen: %v", seen)
	}
}

func TestCheckOfManyTexts(t *testing.T) {
	for _, s := range someTexts() {
		checkIs(t, s, checkFromBehind(s))
		// One byte more, and one byte less.
		checkIs(t, s+"\x80", (59*impl.Check(s)+0x80)%checkRound)
		if s != "" {
			checkIs(t, s, (59*impl.Check(s[:len(s)-1])+int64(s[len(s)-1]))%checkRound)
		}
	}
	draw := &drawer{state: 1701}
	for range 300 {
		s, h := "", int64(15)
		for range draw.below(60) {
			b := draw.below(256)
			s, h = s+string([]byte{byte(b)}), (59*h+b)%checkRound
			checkIs(t, s, h)
		}
	}
	// Bytes, and not what they are in some writing.
	checkIs(t, "ß–字\U0001f600", checkFromBehind("\xc3\x9f\xe2\x80\x93\xe5\xad\x97\xf0\x9f\x98\x80"))
}

// handGate has something in all its parts.
func handGate() impl.Gate {
	return impl.Gate{
		Line:   impl.Line{Kind: 2, Extra: 8, Least: 64},
		Routes: []impl.Route{{Hop: 4}, {Net: 1 << 31, Bits: 1, Hop: 99}},
		Rules: []impl.Rule{
			{Id: 3, Prio: 7, SrcNet: 10 << 24, SrcBits: 8, DstNet: mostAddr, DstBits: 32, Proto: -1, Low: 0, High: 65535, Class: 15},
			{Id: 9, Proto: 6, Low: 80, High: 90, Class: 2},
		},
		Tree:   treeOf([]int64{-1, 0, 1}, purse(10, 50, 20, 4), purse(2, 40, 30, 4), purse(1, 40, 5, 4)),
		Leaves: []int64{1, 2},
		Rows:   rowsOf(77, []impl.Item{item(5, 23, 4), item(8, 1700, 3)}, nil),
		Steers: []impl.Steer{steer(20, 13, 300000), steer(1000, 0, 1<<20)},
		Fair:   fairOf(12345678901, payer(3, mostFair, 106, 1908), payer(10, 0)),
		Next:   10,
		Draw:   847519,
	}
}

const handImage = "2 8 64\n" +
	"2\n0 0 4\n2147483648 1 99\n" +
	"2\n3 7 167772160 8 4294967295 32 -1 0 65535 15\n9 0 0 0 0 0 6 80 90 2\n" +
	"3\n-1 10 50 20 4\n0 2 40 30 4\n1 1 40 5 4\n" +
	"1 2\n" +
	"77\n" +
	"20 13 300000 3 1125899906842624 5 23 4 8 1700 3\n" +
	"1000 0 1048576 10 0\n" +
	"12345678901\n" +
	"10 847519\n" +
	"552337\n"

// bareGate has as little as may be; noughtGate has noughts where it may.
func bareGate() impl.Gate {
	return gateOf(plain(), treeOf([]int64{-1}, purse(2, 9, 9, 0)), 0)
}

const bareImage = "1 0 0\n0\n0\n1\n-1 2 9 9 0\n0\n100\n20 0 0 1 0\n0\n1 1\n"

func TestImageByHand(t *testing.T) {
	imageIs(t, handGate(), handImage)
	fromImageIs(t, handImage, handGate(), true)

	imageIs(t, bareGate(), withCheck(bareImage))
	fromImageIs(t, withCheck(bareImage), bareGate(), true)

	// The first Act of a gate: a Route for all.
	ruled, _ := impl.Ruled(bareGate(), []impl.Route{{}}, nil)
	s := "1 0 0\n1\n0 0 0\n0\n1\n-1 2 9 9 0\n0\n100\n20 0 0 1 0\n0\n1 1\n50043\n"
	imageIs(t, ruled, s)
	fromImageIs(t, s, ruled, true)

	last := gateOf(impl.Line{Kind: 3}, treeOf([]int64{-1}, purse(0, 1, 0, mostTime)), 0)
	last.Rows.Most, last.Steers[0], last.Draw = 1, steer(1, mostDelay, 0), 0
	last.Fair = fairOf(mostFair, payer(10, 7))
	s = "3 0 0\n0\n0\n1\n-1 0 1 0 1099511627776\n0\n1\n1 100000 0 10 7\n1125899906842624\n1 0\n912997\n"
	imageIs(t, last, s)
	fromImageIs(t, s, last, true)
}

// Each field of what is read is what was written, asked by itself.
func TestFromImageFieldByField(t *testing.T) {
	g, done := impl.FromImage(handImage)
	if !done || g.Line != (impl.Line{Kind: 2, Extra: 8, Least: 64}) || g.Next != 10 || g.Draw != 847519 {
		t.Fatalf("%+v", g)
	}
	if len(g.Routes) != 2 || g.Routes[0] != (impl.Route{Hop: 4}) || g.Routes[1] != (impl.Route{Net: 1 << 31, Bits: 1, Hop: 99}) {
		t.Fatalf("%+v", g.Routes)
	}
	if len(g.Rules) != 2 || g.Rules[0] != handGate().Rules[0] || g.Rules[1] != handGate().Rules[1] {
		t.Fatalf("%+v", g.Rules)
	}
	if len(g.Tree) != 3 || g.Tree[0] != (impl.Node{Up: -1, Purse: purse(10, 50, 20, 4)}) ||
		g.Tree[1] != (impl.Node{Up: 0, Purse: purse(2, 40, 30, 4)}) || g.Tree[2] != (impl.Node{Up: 1, Purse: purse(1, 40, 5, 4)}) {
		t.Fatalf("%+v", g.Tree)
	}
	if !slices.Equal(g.Leaves, []int64{1, 2}) || !slices.Equal(g.Steers, []impl.Steer{steer(20, 13, 300000), steer(1000, 0, 1<<20)}) {
		t.Fatalf("%+v, %+v", g.Leaves, g.Steers)
	}
	if g.Rows.Most != 77 || len(g.Rows.Lists) != 2 || len(g.Rows.Lists[1]) != 0 ||
		!slices.Equal(g.Rows.Lists[0], []impl.Item{item(5, 23, 4), item(8, 1700, 3)}) {
		t.Fatalf("%+v", g.Rows)
	}
	if g.Fair.Now != 12345678901 || len(g.Fair.Flows) != 2 || !slices.Equal(g.Fair.Flows[0].Sizes, []int64{106, 1908}) ||
		g.Fair.Flows[0].Weight != 3 || g.Fair.Flows[0].Finish != mostFair || g.Fair.Flows[1].Weight != 10 ||
		g.Fair.Flows[1].Finish != 0 || len(g.Fair.Flows[1].Sizes) != 0 {
		t.Fatalf("%+v", g.Fair)
	}
}

// The promise, and no two gates of all these have one Image.
func TestImagesOfRightGates(t *testing.T) {
	seen := map[string]impl.Gate{}
	for _, g := range rightGates() {
		for _, x := range []impl.Gate{
			g,
			withGate(g, func(g *impl.Gate) { g.Routes = nil }),
			withGate(g, func(g *impl.Gate) { g.Rules = nil }),
			withGate(g, func(g *impl.Gate) { g.Routes, g.Rules = nil, nil }),
		} {
			heldAsImage(t, x)
			s := impl.Image(x)
			if other, there := seen[s]; there && !sameGate(other, x) {
				t.Fatalf("%+v and %+v have one Image", other, x)
			}
			seen[s] = x
			if slices.Contains(strings.Fields(s), "-") {
				t.Fatalf("Image(%+v) = %q", x, s)
			}
		}
	}
	if len(seen) < 3000 {
		t.Fatalf("only %d", len(seen))
	}
}

// Nothing and an empty list are one and the same.
func TestImageOfEmptyLists(t *testing.T) {
	g := bareGate()
	g.Routes, g.Rules = []impl.Route{}, []impl.Rule{}
	g.Rows.Lists, g.Fair.Flows[0].Sizes = [][]impl.Item{{}}, []int64{}
	imageIs(t, g, withCheck(bareImage))
	g.Routes, g.Rules, g.Rows.Lists[0], g.Fair.Flows[0].Sizes = nil, nil, nil, nil
	imageIs(t, g, withCheck(bareImage))
}

// refit has for each Item the Size that the line makes of it.
func refit(g impl.Gate) impl.Gate {
	next := keptGate(g)
	for leaf, list := range next.Rows.Lists {
		sizes := []int64{}
		for _, i := range list {
			sizes = append(sizes, onLineByWords(g.Line, i.Size))
		}
		next.Fair.Flows[leaf].Sizes = sizes
	}
	return next
}

// gateNumber is one number of looseGate, and what it may be there.
type gateNumber struct {
	name            string
	set             func(g *impl.Gate, n int64)
	least, greatest int64
}

// looseGate leaves each of its numbers as free as its chapter does.
func looseGate() impl.Gate {
	g := gateOf(plain(), treeOf(lineUps(12), purse(9, mostSize, 0, 70)), 11)
	g.Routes = []impl.Route{{Bits: 32, Hop: 7}}
	g.Rules = []impl.Rule{{Id: 8, Prio: 7, SrcBits: 32, DstBits: 32, Proto: 3, High: 65535, Class: 6}}
	g.Rows.Most, g.Fair.Now, g.Draw = 55, 44, 33
	g.Steers[0], g.Fair.Flows[0] = steer(21, 22, 23), payer(4, 66)
	g = laden(g, 0, item(1, 25, 71))
	g.Next = mostId
	return g
}

func looseNumbers() []gateNumber {
	list := []gateNumber{
		{"Kind", func(g *impl.Gate, n int64) { g.Line.Kind = n }, 1, 3},
		{"Extra", func(g *impl.Gate, n int64) { g.Line.Extra = n }, 0, 100},
		{"Least", func(g *impl.Gate, n int64) { g.Line.Least = n }, 0, 2000},
		{"Net", func(g *impl.Gate, n int64) { g.Routes[0].Net = n }, 0, mostAddr},
		{"Bits", func(g *impl.Gate, n int64) { g.Routes[0].Bits = n }, 0, 32},
		{"Hop", func(g *impl.Gate, n int64) { g.Routes[0].Hop = n }, 0, 99},
		{"Up", func(g *impl.Gate, n int64) { g.Tree[11].Up = n }, 0, 10},
		{"At of the tree", func(g *impl.Gate, n int64) {
			for k := range g.Tree {
				g.Tree[k].Purse.At = n
			}
		}, 0, mostTime},
		{"Leaf", func(g *impl.Gate, n int64) { g.Leaves[0] = n }, 0, 11},
		{"Most", func(g *impl.Gate, n int64) { g.Rows.Most = n }, 1, 200},
		{"Weight", func(g *impl.Gate, n int64) { g.Fair.Flows[0].Weight = n }, 1, 10},
		{"Finish", func(g *impl.Gate, n int64) { g.Fair.Flows[0].Finish = n }, 0, mostFair},
		{"Item's Id", func(g *impl.Gate, n int64) { g.Rows.Lists[0][0].Id = n }, 1, mostId - 1},
		{"Item's Size", func(g *impl.Gate, n int64) { g.Rows.Lists[0][0].Size = n }, 1, 2000},
		{"Item's At", func(g *impl.Gate, n int64) { g.Rows.Lists[0][0].At = n }, 0, mostTime},
		{"Now", func(g *impl.Gate, n int64) { g.Fair.Now = n }, 0, mostFair},
		{"Next", func(g *impl.Gate, n int64) { g.Next = n }, 2, mostId},
		{"Draw", func(g *impl.Gate, n int64) { g.Draw = n }, 0, mostDraw},
	}
	for k, field := range ruleFields() {
		list = append(list, gateNumber{fmt.Sprint("Rule's number ", k), func(g *impl.Gate, n int64) { *field.of(&g.Rules[0]) = n }, field.least, field.greatest})
	}
	for k, field := range steerFields() {
		list = append(list, gateNumber{fmt.Sprint("Steer's number ", k), func(g *impl.Gate, n int64) { *field.of(&g.Steers[0]) = n }, field.least, field.greatest})
	}
	for number := range 12 {
		list = append(list,
			gateNumber{fmt.Sprint("Rate of ", number), func(g *impl.Gate, n int64) { g.Tree[number].Purse.Rate = n }, 0, 1000},
			gateNumber{fmt.Sprint("Burst of ", number), func(g *impl.Gate, n int64) { g.Tree[number].Purse.Burst = n }, 1, mostSize},
			gateNumber{fmt.Sprint("Level of ", number), func(g *impl.Gate, n int64) { g.Tree[number].Purse.Level = n }, 0, mostSize})
	}
	return list
}

// Each number alone at its least, at its greatest and between; no two gates
// that differ in it alone have one Image.
func TestImageOfEachNumberAtItsEdges(t *testing.T) {
	for _, x := range looseNumbers() {
		seen := map[string]int64{}
		for _, n := range []int64{x.least, x.least + 1, x.least + 2, (x.least + x.greatest) / 2, x.greatest - 1, x.greatest} {
			g := looseGate()
			x.set(&g, n)
			if g = refit(g); !rightGateByWords(g) {
				t.Fatalf("%s of %d: %+v is wrong", x.name, n, g)
			}
			heldAsImage(t, g)
			s := impl.Image(g)
			if other, there := seen[s]; there && other != n {
				t.Fatalf("%s of %d and of %d have one Image: %q", x.name, other, n, s)
			}
			seen[s] = n
		}
		if len(seen) < 3 {
			t.Fatalf("%s: only %v", x.name, seen)
		}
	}
	// Next of 1 is that of a gate into which none came.
	g := bareGate()
	g.Next, g.Draw = 1, 0
	heldAsImage(t, g)
	// All at their greatest, and all at their least, at once.
	for _, greatest := range []bool{false, true} {
		g := looseGate()
		for _, x := range looseNumbers() {
			if strings.HasPrefix(x.name, "Next") || strings.HasPrefix(x.name, "Level") && !greatest || strings.HasPrefix(x.name, "Kind") {
				continue
			}
			if greatest {
				x.set(&g, x.greatest)
			} else {
				x.set(&g, x.least)
			}
		}
		if !greatest {
			g.Routes[0].Bits, g.Rules[0].SrcBits, g.Rules[0].DstBits, g.Rules[0].Low = 32, 32, 32, 0
			g.Rules[0].High = 0
		} else {
			g.Line, g.Rules[0].Low = impl.Line{Kind: 1, Extra: 0, Least: 2000}, 65535
		}
		if g = refit(g); !rightGateByWords(g) {
			t.Fatalf("%+v is wrong", g)
		}
		heldAsImage(t, g)
	}
}

// 1 less than the least and 1 more than the greatest of each number: Image is
// empty, and the text that would be it is not read.
func TestImageOfEachNumberPastItsEdges(t *testing.T) {
	for _, x := range looseNumbers() {
		for _, n := range append(wrongAround(x.least, x.greatest), x.least-1, x.greatest+1) {
			if within(n, x.least, x.greatest) {
				continue
			}
			g := looseGate()
			x.set(&g, n)
			// Of a right line and a right Size the text tells the other Size too.
			if rightLineByFields(g.Line) && within(g.Rows.Lists[0][0].Size, 1, mostSize) {
				g = refit(g)
			}
			if rightGateByWords(g) {
				t.Fatalf("%s of %d: %+v is right", x.name, n, g)
			}
			imageIs(t, g, "")
			noImage(t, imageByWords(g))
			noImage(t, aheadByWords(g)+textLine(checkFromBehind(aheadByWords(looseGate()))))
		}
	}
}

// As many of each as there may be, and each count below it; 1 more is none.
func TestImageOfEachCount(t *testing.T) {
	good := laden(laden(goodGate(), 0, item(4, 30, 70)), 1, item(5, 31, 69))
	held := func(g impl.Gate, right bool) {
		t.Helper()
		if rightGateByWords(g) != right {
			t.Fatalf("%+v is right: %v", g, !right)
		}
		if right {
			heldAsImage(t, g)
			return
		}
		imageIs(t, g, "")
		noImage(t, imageByWords(g))
	}
	full := fullRoutes()
	for n := range len(full) + 1 {
		held(withGate(good, func(g *impl.Gate) { g.Routes = full[:n] }), true)
	}
	for _, n := range []int64{65, 66, 128, 200, 257} {
		held(withGate(good, func(g *impl.Gate) { g.Routes = singles(5, n) }), false)
	}
	for n := range int64(45) {
		held(withGate(good, func(g *impl.Gate) { g.Rules = numbered(closeRule(1), 900, n) }), n <= 40)
		held(withGate(good, func(g *impl.Gate) { g.Routes, g.Rules = full, numbered(openRule(1), 1, n) }), n <= 40)
	}
	for n := 1; n <= 14; n++ {
		for _, ups := range [][]int64{lineUps(n), starUps(n)} {
			g := gateOf(cellsLine(), treeOf(ups, purse(5, 3000, 2000, 50), purse(0, 1, 0, 50)), int64(n)-1)
			held(g, n <= 12)
		}
	}
	for n := 1; n <= 12; n++ {
		for kind := range int64(3) {
			g := gateOf(cellsLine(), treeOf(starUps(12), purse(5, 3000, 2000, 50)), leavesOf(n, 12, kind)...)
			held(g, n <= 8)
		}
	}
	// Items in one leaf, beside leaves with none, with one and with all.
	for count := range int64(44) {
		g := gateOf(plain(), treeOf(starUps(9), purse(5, 3000, 2000, 50)), leavesOf(8, 9, 0)...)
		g.Rows.Most = 200
		for k := range count {
			g = laden(g, 3, item(1000-2*k, 1+k, mostTime-k))
		}
		held(g, count <= 40)
		for leaf := range 4 {
			for k := range int64(40) {
				g = laden(g, 4+leaf, item(2000+int64(leaf)*100+k, 2000-k, k))
			}
		}
		held(g, count <= 40)
		g = laden(g, 0, item(3000, 7, 7))
		held(g, count < 40)
		g.Rows.Most = 160 + count
		held(g, false)
	}
}

// All that the four answer, again and again in any order; what is read goes on
// as what was written.
func TestImagesOfWhatTheGateAnswers(t *testing.T) {
	draw := &drawer{state: 1717}
	came, gone, count := 0, 0, 0
	for k, g := range rightGates() {
		if kind := k % purseKinds; kind != 1 && kind != 7 && k%9 > 0 {
			continue
		}
		l := guestsOf(g)
		for step := range 25 {
			g = draw.oneAct(t, g, l, 3+int64(k)/8%4)
			back := heldAsImage(t, g)
			if step%2 == 0 {
				g = back
			}
			count++
		}
		came, gone = came+len(l.came), gone+len(l.gone)
	}
	if came < 2000 || gone < 500 || count < 3000 {
		t.Fatalf("only %d came and %d went, %d in all", came, gone, count)
	}
}

// Every one of the first steps of a small gate, in any order.
func TestImagesOfAllFirstSteps(t *testing.T) {
	texts := []string{textTo(0, 100, 0), textTo(0, 101, 9), textTo(0, 100, 0)[:9]}
	images := map[string]bool{}
	var walk func(g impl.Gate, steps int)
	walk = func(g impl.Gate, steps int) {
		images[impl.Image(heldAsImage(t, g))] = true
		if steps == 0 {
			return
		}
		var nexts []impl.Gate
		for _, s := range texts {
			in, _ := impl.In(g, s)
			nexts = append(nexts, in)
		}
		out, _, _ := impl.Out(g)
		later, _ := impl.Later(g, treeTime(g)+4)
		back, _ := impl.Later(g, treeTime(g)-1)
		ruled, _ := impl.Ruled(g, g.Routes, rulesToAll()[:16-len(g.Rules)])
		wrong, _ := impl.Ruled(g, []impl.Route{{Bits: 33}}, nil)
		for _, next := range append(nexts, out, later, back, ruled, wrong) {
			walk(next, steps-1)
		}
	}
	for _, leaves := range [][]int64{{2}, {0, 1, 2}} {
		g, _ := impl.NewGate(cellsLine(), treeOf([]int64{-1, 0, 1}, purse(9, 120, 60, 5), purse(7, 110, 55, 5)), leaves)
		g, _ = impl.Ruled(g, []impl.Route{{}}, rulesToAll())
		walk(g, 4)
	}
	if len(images) < 150 {
		t.Fatalf("only %d", len(images))
	}
}

func TestImageOfWrongGates(t *testing.T) {
	read := 0
	for name, g := range wrongGates() {
		if got := impl.Image(g); got != "" {
			t.Errorf("%s: Image(%+v) = %q", name, g, got)
		}
		// What is wrong there may not stand in the text: a Size that is none of
		// its Item's, or a Flow of no leaf.
		if fromImageAsByWords(t, imageByWords(g)) {
			read++
		}
	}
	if all := len(wrongGates()); read == 0 || read > all/2 {
		t.Errorf("%d of %d are read", read, all)
	}
	good := goodGate()
	wrong := func(change func(g *impl.Gate)) {
		t.Helper()
		g := withGate(good, change)
		imageIs(t, g, "")
		noImage(t, imageByWords(g))
	}
	for _, l := range wrongLines() {
		wrong(func(g *impl.Gate) { g.Line = l })
	}
	for _, list := range wrongLists() {
		wrong(func(g *impl.Gate) { g.Routes = list })
	}
	for _, list := range wrongRuleLists() {
		wrong(func(g *impl.Gate) { g.Rules = list })
	}
	for k, tree := range wrongTrees() {
		if k%7 == 0 {
			wrong(func(g *impl.Gate) { *g = gateOf(plain(), tree, 0) })
		}
	}
	for _, s := range wrongSteers() {
		wrong(func(g *impl.Gate) { g.Steers[1] = s })
	}
	for _, i := range wrongItems() {
		wrong(func(g *impl.Gate) {
			g.Rows.Lists[1], g.Fair.Flows[1].Sizes, g.Next = []impl.Item{i}, []int64{1}, mostId
		})
	}
	for _, n := range []int64{math.MinInt64, -1, 0, mostId + 1, math.MaxInt64} {
		wrong(func(g *impl.Gate) { g.Next = n })
	}
	imageIs(t, impl.Gate{}, "")
	noImage(t, imageByWords(impl.Gate{}))
}
