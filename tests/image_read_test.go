package tests

import (
	"fmt"
	"math"
	"math/big"
	"slices"
	"strings"
	"testing"

	"loop.example/g00316/impl"
)

// aheadOf is an Image without its last line, which is that of Check.
func aheadOf(s string) string {
	return s[:1+strings.LastIndexByte(s[:len(s)-1], '\n')]
}

// imagesToChange are short ones, each with other things in it.
func imagesToChange() []string {
	one := laden(bareGate(), 0, item(1, 9, 0))
	two := laden(laden(goodGate(), 0, item(5, 30, 70), item(8, 40, 60)), 1, item(6, 50, mostTime))
	two.Rules = []impl.Rule{openRule(7)}
	return []string{withCheck(bareImage), imageByWords(one), imageByWords(two), handImage}
}

// richImages are long ones too, of one, of two and of eight leaves.
func richImages() []string {
	list := imagesToChange()
	for k, g := range fewGates() {
		if k%4 == 0 {
			list = append(list, imageByWords(g))
		}
	}
	return list
}

// tally counts what was read and what was not, so that a test asks for both.
type tally struct{ read, refused int }

// bothWays asks of a changed text as it is, and of one with that Check which
// it must have, where the last line is no part of what was changed.
func (c *tally) bothWays(t *testing.T, s, ahead string) {
	t.Helper()
	for _, text := range []string{ahead + s[len(aheadOf(s)):], withCheck(ahead)} {
		c.as(t, text)
	}
}

func (c *tally) as(t *testing.T, s string) {
	t.Helper()
	if fromImageAsByWords(t, s) {
		c.read++
	} else {
		c.refused++
	}
}

func (c *tally) atLeast(t *testing.T, read, refused int) {
	t.Helper()
	if c.read < read || c.refused < refused {
		t.Fatalf("too few: %+v", *c)
	}
}

func TestFromImageOfNothingMuch(t *testing.T) {
	for _, s := range []string{
		"", "\n", " ", "-", "-\n", "0", "0\n", "15", "15\n", "\x00", "\xff", "\n\n", "\n15\n", " \n", "1 0 0", "1 0 0\n", withCheck("1 0 0\n"),
		withCheck("1 0 0\n0\n0\n"), withCheck(strings.Repeat("0\n", 8)), withCheck(strings.Repeat("0\n", 9)), withCheck(strings.Repeat("1\n", 12)),
		withCheck("1 0 0\n0\n0\n0\n0\n100\n20 0 0 1 0\n0\n1 1\n"), withCheck("1 0 0\n0\n0\n0\n\n100\n0\n1 1\n"), withCheck("1 0 0\n0\n0\n1\n-1 2 9 9 0\n\n100\n0\n1 1\n"),
		withCheck("1 0 0\n0\n0\n1\n-1 2 9 9 0\n-\n100\n0\n1 1\n"), withCheck(""), bareImage,
	} {
		noImage(t, s)
		fromImageAsByWords(t, s)
	}
}

// Cut short anywhere, at the end or ahead, with Check as it was or as it must be.
func TestFromImageOfCuts(t *testing.T) {
	for _, s := range richImages() {
		ahead := aheadOf(s)
		for at := range len(s) {
			noImage(t, s[:at])
			if at > 0 {
				noImage(t, s[at:])
			}
		}
		count := tally{}
		for at := range len(ahead) {
			count.bothWays(t, s, ahead[:at])
			count.bothWays(t, s, ahead[at+1:])
			if at < len(ahead)-1 {
				noImage(t, withCheck(ahead[:at]))
			}
		}
	}
}

// One byte more, at the end, ahead or anywhere, and one less.
func TestFromImageOfByteMoreOrLess(t *testing.T) {
	count := tally{}
	for _, s := range richImages() {
		ahead := aheadOf(s)
		for b := range 256 {
			one := string([]byte{byte(b)})
			noImage(t, s+one)
			noImage(t, one+s)
			count.bothWays(t, s, one+ahead)
			count.bothWays(t, s, ahead+one)
		}
	}
	for _, s := range imagesToChange() {
		ahead := aheadOf(s)
		for at := range len(ahead) + 1 {
			for _, more := range []string{"0", "1", "9", "-", "+", " ", "\n", "\t", "\r", "\x00", "\xff", "_", ".", "x", "e", "\u00a0", "\u0660", "\u2212", ","} {
				count.bothWays(t, s, ahead[:at]+more+ahead[at:])
			}
			if at < len(ahead) {
				count.bothWays(t, s, ahead[:at]+ahead[at+1:])
			}
			if at+1 < len(ahead) {
				count.bothWays(t, s, ahead[:at]+ahead[at+1:at+2]+ahead[at:at+1]+ahead[at+2:])
			}
		}
		// In the last line too.
		for at := len(ahead); at <= len(s); at++ {
			for _, more := range []string{"0", "1", "9", "-", "+", " ", "\n", "\t", "\r", "\x00", "\xff", "_", "."} {
				noImage(t, s[:at]+more+s[at:])
			}
			if at < len(s) {
				noImage(t, s[:at]+s[at+1:])
			}
		}
	}
	count.atLeast(t, 100, 10000)
}

// One byte that is another, anywhere.
func TestFromImageOfChangedBytes(t *testing.T) {
	count := tally{}
	for _, s := range imagesToChange() {
		ahead := aheadOf(s)
		for at := range len(s) {
			for b := range 256 {
				if byte(b) == s[at] {
					continue
				}
				one := string([]byte{byte(b)})
				if at >= len(ahead) {
					noImage(t, s[:at]+one+s[at+1:])
					continue
				}
				count.bothWays(t, s, ahead[:at]+one+ahead[at+1:])
				// Check says of one byte that is another in any case.
				noImage(t, s[:at]+one+s[at+1:])
			}
		}
	}
	count.atLeast(t, 500, 10000)
}

// Check is just what it is: no other number stands for it.
func TestFromImageOfOtherChecks(t *testing.T) {
	for _, s := range richImages() {
		ahead := aheadOf(s)
		check := checkFromBehind(ahead)
		fromImageAsByWords(t, ahead+textLine(check))
		for _, n := range []int64{check - 1, check + 1, check - checkRound, check + checkRound, check + 10*checkRound, -check, 0, 1, 15, checkRound, checkFromBehind(ahead[:len(ahead)-1]), checkFromBehind(s), checkFromBehind(ahead[1:]), check + 1<<32, math.MaxInt64, math.MinInt64} {
			if n != check {
				noImage(t, ahead+textLine(n))
			}
		}
		for _, last := range []string{"", "\n", "-\n", "0" + textLine(check), "+" + textLine(check), " " + textLine(check), textLine(check, check), textLine(check) + textLine(check), textLine(check) + "\n", textLine(check)[:len(textLine(check))-1], textLine(check)[:len(textLine(check))-1] + " \n"} {
			noImage(t, ahead+last)
		}
	}
}

// Gates whose texts have one and the same Check are told apart all the same.
func TestFromImageOfAlikeChecks(t *testing.T) {
	first, alike := map[int64]impl.Gate{}, 0
	for draw := range int64(5000) {
		g := bareGate()
		g.Draw, g.Next = draw*197+draw%5, 1+draw*draw%mostId
		s := imageByWords(g)
		check := checkFromBehind(aheadOf(s))
		if other, there := first[check]; there {
			heldAsImage(t, g)
			heldAsImage(t, other)
			alike++
		}
		first[check] = g
	}
	if alike == 0 {
		t.Fatal("no two have one Check")
	}
}

// lastLineFor is one number behind which the whole text has this Check.
func lastLineFor(ahead string, want int64) string {
	begin := checkFromBehind(ahead)
	for n := range int64(100 * checkRound) {
		line, h := fmt.Sprint(n)+"\n", begin
		for _, b := range []byte(line) {
			h = (59*h + int64(b)) % checkRound
		}
		if h == want {
			return line
		}
	}
	return ""
}

// Nor does it help a wrong text that all of it has the Check of a right one.
func TestFromImageOfAlikeChecksOfAll(t *testing.T) {
	s := withCheck(bareImage)
	for _, ahead := range []string{
		"0" + bareImage, "+" + bareImage, "1 " + bareImage, "x" + bareImage[1:], bareImage[:len(bareImage)-1] + " \n",
		strings.Replace(bareImage, "0\n0\n", "-\n00\n", 1), strings.Replace(bareImage, "100", "1\t0", 1),
	} {
		last := lastLineFor(ahead, checkFromBehind(s))
		if last == "" {
			t.Fatalf("no last line for %q", ahead)
		}
		noImage(t, ahead+last)
	}
}

// linesOf are those ahead of the last one, each with its end.
func linesOf(s string) []string {
	return slices.Collect(strings.Lines(aheadOf(s)))
}

// A line that is left out, doubled, or moved.
func TestFromImageOfOtherLines(t *testing.T) {
	count := tally{}
	for _, s := range richImages() {
		lines := linesOf(s)
		for at := range lines {
			left := slices.Delete(slices.Clone(lines), at, at+1)
			count.bothWays(t, s, strings.Join(left, ""))
			noImage(t, withCheck(strings.Join(left, "")))
			for _, line := range []string{lines[at], "\n", "-\n", "0\n", "1\n", "0 0 0\n", " \n"} {
				count.bothWays(t, s, strings.Join(slices.Insert(slices.Clone(lines), at, line), ""))
			}
			for to := range lines {
				moved := slices.Insert(slices.Clone(left), to, lines[at])
				count.bothWays(t, s, strings.Join(moved, ""))
				if swapped := slices.Clone(lines); to < at {
					swapped[at], swapped[to] = swapped[to], swapped[at]
					count.bothWays(t, s, strings.Join(swapped, ""))
				}
			}
		}
		// The end of a line left out, or another one.
		for at := range len(lines) {
			for _, end := range []string{"", " ", "\r\n", "\n\n", " \n", "\n ", "\t\n", "\r", "\v", "\f", "\u2028", "\x00"} {
				other := slices.Clone(lines)
				other[at] = strings.TrimSuffix(other[at], "\n") + end
				count.bothWays(t, s, strings.Join(other, ""))
				noImage(t, withCheck(strings.Join(other, "")))
			}
		}
		noImage(t, strings.ReplaceAll(s, "\n", "\r\n"))
		noImage(t, withCheck(strings.ReplaceAll(aheadOf(s), "\n", "\r\n")))
		noImage(t, withCheck(strings.ReplaceAll(aheadOf(s), "\n", " ")))
		noImage(t, withCheck(strings.ReplaceAll(aheadOf(s), " ", "\n")))
		noImage(t, s+s)
		noImage(t, withCheck(aheadOf(s)+aheadOf(s)))
		noImage(t, withCheck(s))
	}
	count.atLeast(t, 50, 10000)
}

// eachWord gives the words of a text one by one, and the text around each. Of
// a long text some are enough, each at another place in its line.
func eachWord(s string, ask func(ahead, word, behind string)) {
	for at, count := 0, 0; at < len(s); count++ {
		size := strings.IndexAny(s[at:], " \n")
		if len(s) < 500 || count%13 == 0 {
			ask(s[:at], s[at:at+size], s[at+size:])
		}
		at += size + 1
	}
}

// outOfForm are ways to write a number that are not its one.
func outOfForm(word string) []string {
	list := []string{
		"0" + word, "00" + word, strings.Repeat("0", 30) + word, "+" + word, " " + word, word + " ", "  " + word, word + "  ", "\t" + word, word + "\t",
		"'" + word, word + ".", word + ".0", word + "e0", "0x" + word, "0b" + word, "0o" + word, "_" + word, word + "_", word + "_0", "0_" + word, "--" + word, "+-" + word, "-+" + word,
		"\"" + word + "\"", word + "\x00", "\x00" + word, "\ufeff" + word, "\u00a0" + word, "\u2212" + word, word + "\xff", "\xc0\xb0" + word,
		"-0", "+0", "-00", "- 1", "", "-", "+", "--", ".", "x", "one", "NaN", "Inf", "nil", "none", "\u0660", "\u0661", "\uff11", "\u00b9", "½",
	}
	if strings.HasPrefix(word, "-") {
		list = append(list, "-0"+word[1:], "\u2212"+word[1:], "- "+word[1:])
	} else {
		list = append(list, strings.Map(func(r rune) rune { return r - '0' + '\u0660' }, word), strings.Map(func(r rune) rune { return r - '0' + '\uff10' }, word))
	}
	return list
}

func TestFromImageOfNumbersOutOfForm(t *testing.T) {
	for _, s := range richImages() {
		eachWord(aheadOf(s), func(ahead, word, behind string) {
			for _, other := range outOfForm(word) {
				noImage(t, withCheck(ahead+other+behind))
				noImage(t, ahead+other+behind+s[len(aheadOf(s)):])
			}
		})
		eachWord(s[len(aheadOf(s)):], func(_, word, behind string) {
			for _, other := range outOfForm(word) {
				noImage(t, aheadOf(s)+other+behind)
			}
		})
	}
}

// tooLong are numbers with more digits than any of a gate has, some of which
// come to the same in 64 bits.
func tooLong(word string) []string {
	n, _ := new(big.Int).SetString(word, 10)
	list := []string{
		"10000000000000000", "-10000000000000000", "99999999999999999", "9223372036854775807", "9223372036854775808", "-9223372036854775808", "-9223372036854775809",
		"18446744073709551615", "18446744073709551616", "99999999999999999999", strings.Repeat("9", 100), "1" + strings.Repeat("0", 5000), "-" + strings.Repeat("9", 100),
	}
	for _, bits := range []uint{63, 64, 65, 128} {
		whole := new(big.Int).Lsh(big.NewInt(1), bits)
		list = append(list, new(big.Int).Add(n, whole).String(), new(big.Int).Sub(n, whole).String())
	}
	return list
}

// otherNumbers are in form but a few, and some are right.
func otherNumbers(word string) []string {
	list := []string{"0", "1", "2", "7", "9", "-1", "-2", "32", "33", "40", "41", "64", "65", "99", "100", "255", "256", "1000", "2000", "65535", "100000", "1000000", "999999999", "1000000000", "4294967295", "1099511627776", "1125899906842624", word + "0", word + "1", "1" + strings.TrimPrefix(word, "-"), "-" + strings.TrimPrefix(word, "-")}
	n, _ := new(big.Int).SetString(word, 10)
	for _, more := range []int64{-3, -1, 1, 2, 10, 1 << 32, -1 << 32} {
		list = append(list, new(big.Int).Add(n, big.NewInt(more)).String())
	}
	return list
}

// Each number of a text is another one: of what is read it is there, and two
// gates that differ in one number alone are never one.
func TestFromImageOfOtherNumbers(t *testing.T) {
	count := tally{}
	for _, s := range richImages() {
		first, _ := impl.FromImage(s)
		eachWord(aheadOf(s), func(ahead, word, behind string) {
			for _, other := range tooLong(word) {
				noImage(t, withCheck(ahead+other+behind))
			}
			for _, other := range otherNumbers(word) {
				if !inForm(other) {
					noImage(t, withCheck(ahead+other+behind))
					continue
				}
				text := withCheck(ahead + other + behind)
				count.bothWays(t, s, ahead+other+behind)
				if g, done := impl.FromImage(text); done && other != word && sameGate(g, first) {
					t.Fatalf("%q and %q are one gate", text, s)
				}
			}
		})
	}
	count.atLeast(t, 3000, 10000)
}

// A number that is left out, doubled, or moved to another place.
func TestFromImageOfMovedNumbers(t *testing.T) {
	count := tally{}
	for _, s := range richImages() {
		lines := linesOf(s)
		var all [][2]int
		for row, line := range lines {
			for place := range strings.Fields(line) {
				all = append(all, [2]int{row, place})
			}
		}
		// with has in one line other words.
		with := func(lines []string, row int, change func(words []string) []string) []string {
			next := slices.Clone(lines)
			next[row] = strings.Join(change(strings.Fields(lines[row])), " ") + "\n"
			return next
		}
		for k, at := range all {
			word := strings.Fields(lines[at[0]])[at[1]]
			left := with(lines, at[0], func(words []string) []string { return slices.Delete(words, at[1], at[1]+1) })
			noImage(t, withCheck(strings.Join(left, "")))
			count.bothWays(t, s, strings.Join(left, ""))
			count.bothWays(t, s, strings.Join(with(lines, at[0], func(words []string) []string { return slices.Insert(words, at[1], word) }), ""))
			for other, to := range all {
				if len(all) > 120 && (k*7+other)%101 > 0 {
					continue
				}
				moved := with(left, to[0], func(words []string) []string { return slices.Insert(words, min(to[1], len(words)), word) })
				count.bothWays(t, s, strings.Join(moved, ""))
			}
		}
	}
	count.atLeast(t, 50, 10000)
}

// Counts that are not those of the lines that follow, and - in their place.
func TestFromImageOfOtherCounts(t *testing.T) {
	routes := []string{"", "0 0 4\n", "0 0 4\n2147483648 1 99\n"}
	rules := []string{"", "3 7 167772160 8 4294967295 32 -1 0 65535 15\n", "3 7 167772160 8 4294967295 32 -1 0 65535 15\n9 0 0 0 0 0 6 80 90 2\n"}
	nodes := []string{"", "-1 10 50 20 4\n", "-1 10 50 20 4\n0 2 40 30 4\n"}
	behind := "0\n100\n20 0 0 1 0\n0\n1 1\n"
	counts := []string{"0", "1", "2", "3", "-1", "-2", "12", "13", "40", "41", "64", "65", "100", "1000000", "999999999", "4294967296", "4294967297", "1099511627776", "9223372036854775807", "-9223372036854775808", "18446744073709551616", "18446744073709551617", strings.Repeat("9", 50), "-", "", "00", "01", "+1", "x"}
	for n, lines := range routes {
		for m, others := range rules {
			for k, tree := range nodes {
				for _, count := range counts {
					for place, text := range []string{
						"2 8 64\n" + count + "\n" + lines + fmt.Sprint(m) + "\n" + others + fmt.Sprint(k) + "\n" + tree + behind,
						"2 8 64\n" + fmt.Sprint(n) + "\n" + lines + count + "\n" + others + fmt.Sprint(k) + "\n" + tree + behind,
						"2 8 64\n" + fmt.Sprint(n) + "\n" + lines + fmt.Sprint(m) + "\n" + others + count + "\n" + tree + behind,
					} {
						right := count == fmt.Sprint([]int{n, m, k}[place]) && k > 0
						if fromImageAsByWords(t, withCheck(text)) != right {
							t.Fatalf("%q is read: %v", withCheck(text), !right)
						}
					}
				}
			}
		}
	}
	// Leaf lines more or less than Leaves.
	leaf := "20 0 0 1 0\n"
	for n := range 10 {
		for lines := range 11 {
			var leaves []int64
			for k := range n {
				leaves = append(leaves, int64(k))
			}
			text := "1 0 0\n0\n0\n12\n-1 2 9 9 0\n" + strings.Repeat("0 2 9 9 0\n", 11) + textLine(leaves...) + "100\n" + strings.Repeat(leaf, lines) + "0\n1 1\n"
			if fromImageAsByWords(t, withCheck(text)) != (n == lines && within(int64(n), 1, 8)) {
				t.Fatalf("%d leaves, %d lines: %q", n, lines, text)
			}
		}
	}
}

// Nowhere does a - stand for what is none, since a 0 or nothing does.
func TestFromImageOfNone(t *testing.T) {
	s := withCheck(bareImage)
	fromImageIs(t, s, bareGate(), true)
	for _, text := range []string{
		"1 0 0\n-\n0\n1\n-1 2 9 9 0\n0\n100\n20 0 0 1 0\n0\n1 1\n",
		"1 0 0\n0\n-\n1\n-1 2 9 9 0\n0\n100\n20 0 0 1 0\n0\n1 1\n",
		"1 0 0\n-\n-\n1\n-1 2 9 9 0\n0\n100\n20 0 0 1 0\n0\n1 1\n",
		"1 0 0\n0\n-\n0\n1\n-1 2 9 9 0\n0\n100\n20 0 0 1 0\n0\n1 1\n",
		"1 0 0\n0\n0\n-\n1\n-1 2 9 9 0\n0\n100\n20 0 0 1 0\n0\n1 1\n",
		"1 0 0\n0\n0\n1\n- 2 9 9 0\n0\n100\n20 0 0 1 0\n0\n1 1\n",
		"1 0 0\n0\n0\n1\n-1 2 9 9 0\n-\n100\n20 0 0 1 0\n0\n1 1\n",
		"1 0 0\n0\n0\n1\n-1 2 9 9 0\n0\n100\n20 0 0 1 0 -\n0\n1 1\n",
		"1 0 0\n0\n0\n1\n-1 2 9 9 0\n0\n100\n20 0 0 1 0 - - -\n0\n1 1\n",
		"1 0 0\n0\n0\n1\n-1 2 9 9 0\n0\n100\n20 0 0 1 0\n-\n0\n1 1\n",
		"1 0 0\n0\n0\n1\n-1 2 9 9 0\n0\n100\n20 0 0 1 0 0\n0\n1 1\n",
		"1 0 0\n0\n0\n1\n-1 2 9 9 0\n0\n100\n20 - - 1 -\n-\n1 1\n",
		"1 - -\n0\n0\n1\n-1 2 9 9 0\n0\n100\n20 0 0 1 0\n0\n1 1\n",
	} {
		noImage(t, withCheck(text))
	}
}

// Leaf lines with Items that are not whole.
func TestFromImageOfBrokenItems(t *testing.T) {
	for _, c := range []struct {
		line string
		next int64
		read bool
	}{
		{"20 0 0 1 0", 9, true}, {"20 0 0 1", 9, false}, {"20", 9, false}, {"", 9, false},
		{"20 0 0 1 0 5", 9, false}, {"20 0 0 1 0 5 30", 9, false}, {"20 0 0 1 0 5 30 0", 9, true}, {"20 0 0 1 0 5 30 0 8", 9, false},
		{"20 0 0 1 0 5 30 0 8 30", 9, false}, {"20 0 0 1 0 5 30 0 8 30 7", 9, true}, {"20 0 0 1 0 5 30 0 8 30 7", 8, false}, {"20 0 0 1 0 5 30 0 8 30 7", 10, true},
		{"20 0 0 1 0 5 30 0 5 30 7", 9, false}, {"20 0 0 1 0 8 30 0 5 30 7", 9, true}, {"20 0 0 1 0 0 30 0", 9, false}, {"20 0 0 1 0 5 0 0", 9, false},
		{"20 0 0 1 0 5 2000 0", 9, true}, {"20 0 0 1 0 5 2001 0", 9, false}, {"20 0 0 1 0 5 100000 0", 9, false}, {"20 0 0 1 0 5 100001 0", 9, false},
		{"20 0 0 1 0 5 30 1099511627776", 9, true}, {"20 0 0 1 0 5 30 1099511627777", 9, false}, {"20 0 0 1 0 5 30 -1", 9, false},
		{"20 0 0 11 0 5 30 0", 9, false}, {"20 0 0 0 0 5 30 0", 9, false}, {"0 0 0 1 0", 9, false}, {"20 0 1048577 1 0", 9, false},
	} {
		text := withCheck("1 0 0\n0\n0\n1\n-1 2 9 9 0\n0\n100\n" + c.line + "\n0\n" + textLine(c.next, 1))
		if fromImageAsByWords(t, text) != c.read {
			t.Fatalf("%q is read: %v", text, !c.read)
		}
	}
}

// What is long, and what is no text of a gate at all.
func TestFromImageOfAnyTexts(t *testing.T) {
	for _, piece := range []string{"0", "9", "-", " ", "\n", "0 ", "0\n", "1 0 0\n", "64\n", "9 \n", "\x00", "\xff", "a\n", "\n\n1", "5 30 0 ", "-1 2 9 9 0\n"} {
		for _, size := range []int{1, 2, 3, 100, 65536, 1 << 18} {
			s := strings.Repeat(piece, size)
			noImage(t, s)
			noImage(t, withCheck(s))
			noImage(t, withCheck("1 0 0\n"+s))
			noImage(t, withCheck("1 0 0\n0\n0\n1\n-1 2 9 9 0\n"+s))
			noImage(t, withCheck(bareImage)+s)
			noImage(t, withCheck("1 0 0\n0\n0\n1\n-1 2 9 9 0\n0\n100\n20 0 0 1 0 "+s))
		}
	}
	for _, s := range append(someTexts(), textTo(0, 0, 0), textTo(1<<31, 80, 1500)) {
		noImage(t, s)
		noImage(t, withCheck(s))
		noImage(t, s+"\x00"+withCheck(bareImage))
		noImage(t, withCheck(bareImage)+s[:min(len(s), 9)]+"\x00")
	}
	// Words as they stand in a text of a gate, drawn.
	draw, count := &drawer{state: 17170}, tally{}
	words := []string{"0", "1", "2", "9", "20", "100", "-1", "5", "30", "\n", "\n", "\n", " ", "0 0 0\n", "-1 2 9 9 0\n", "20 0 0 1 0\n"}
	for range 20000 {
		text := "1 0 0\n"
		for range 4 + draw.below(12) {
			text += words[draw.below(int64(len(words)))]
			if !strings.HasSuffix(text, "\n") {
				text += []string{" ", "\n", "\n"}[draw.below(3)]
			}
		}
		count.as(t, withCheck(text))
	}
	count.atLeast(t, 0, 19000)
}

// Drawn changes, some at once, of long Images; what is read is put down as it
// was, and is a right gate.
func TestFromImageOfDrawnChanges(t *testing.T) {
	draw, count := &drawer{state: 171717}, tally{}
	images := richImages()
	for round := range 12000 {
		lines := linesOf(images[round%len(images)])
		for range 1 + draw.below(3) {
			row := draw.below(int64(len(lines)))
			words := strings.Fields(lines[row])
			if len(words) == 0 {
				continue
			}
			at := int(draw.below(int64(len(words))))
			switch draw.below(8) {
			case 0:
				words = slices.Delete(words, at, at+1)
			case 1:
				words = slices.Insert(words, at, fmt.Sprint(draw.below(50)))
			case 2:
				words[at] = outOfForm(words[at])[draw.below(30)]
			default:
				words[at] = fmt.Sprint(draw.below([]int64{2, 10, 100, 5000, 1 << 20, 1 << 50}[draw.below(6)]))
			}
			lines[row] = strings.Join(words, " ") + "\n"
		}
		count.bothWays(t, images[round%len(images)], strings.Join(lines, ""))
	}
	count.atLeast(t, 1000, 10000)
}
