package tests

import (
	"bytes"
	"math"
	"reflect"
	"slices"
	"strings"
	"testing"

	"loop.example/g00316/impl"
)

const mostPair = 65535

// wrongPairs are not from 0 to 65535; some would pass if only their low bits
// were looked at, and some make a right one together with another.
var wrongPairs = []int64{-1, -2, -mostPair, -mostPair - 1, mostPair + 1, mostPair + 2, 2 * mostPair, 1 << 17, 1 << 32, 1<<32 + 5, -1 << 32, 1 << 40, math.MinInt64, math.MinInt64 + 1, math.MinInt64 + mostPair, math.MaxInt64 - mostPair, math.MaxInt64 - 1, math.MaxInt64}

var somePairs = []int64{0, 1, 2, 255, 256, 257, 32767, 32768, 32769, mostPair - 256, mostPair - 255, mostPair - 2, mostPair - 1, mostPair}

// foldedTotal is what pairs that come to total are when 65535 is taken off as
// often as it must be: only of nought there is nought left.
func foldedTotal(total int64) int64 {
	if total == 0 {
		return 0
	}
	return (total-1)%mostPair + 1
}

// sumByTotal adds all pairs first.
func sumByTotal(s string) int64 {
	total := int64(0)
	for i := range len(s) {
		if i%2 == 0 {
			total += 256 * int64(s[i])
		} else {
			total += int64(s[i])
		}
	}
	return mostPair - foldedTotal(total)
}

func pairText(n int64) string { return string([]byte{byte(n / 256), byte(n % 256)}) }

// someTexts are of each small length, of bytes 0 and 255 and of any bytes.
func someTexts() []string {
	var list []string
	var mixed []byte
	for _, n := range spread(400) {
		mixed = append(mixed, byte(n), byte(n>>8), byte(n>>16))
	}
	for size := 0; size <= 40; size++ {
		list = append(list, strings.Repeat("\x00", size), strings.Repeat("\xff", size), strings.Repeat("\x01", size), string(mixed[size*3:size*4]))
	}
	for _, size := range []int{999, 1000, 1001} {
		list = append(list, string(mixed[:size]), strings.Repeat("\xff", size), strings.Repeat("\x80", size))
	}
	return append(list, strings.Repeat("\xff", 1<<18), strings.Repeat("\xff", 1<<18+1), strings.Repeat("\xfe", 1<<18+1))
}

func TestSum16ByHand(t *testing.T) {
	for _, c := range []struct {
		text string
		want int64
	}{
		{"", 65535},
		{"\x00", 65535},
		{"\x00\x00", 65535},
		{"\x00\x00\x00", 65535},
		{"\x01", 65535 - 256},
		{"\xff", 255},
		{"\x00\x01", 65534},
		{"\x01\x00", 65535 - 256},
		{"\x01\x02", 65535 - 258},
		{"\x01\x02\x03", 65535 - 258 - 768},
		{"\x01\x02\x00\x03", 65535 - 258 - 3},
		{"\xff\xff", 0},
		{"\xff\xff\xff\xff", 0},
		{"\xff\xff\x00", 0},
		{"\xff\xfe\x00\x01", 0},
		{"\xff\xfe\x00\x02", 65534},
		{"\xff\xff\x00\x01", 65534},
		{"\xff\x00\xff", 65535 - 0xfe01},
		{"\x80\x00\x80\x00", 65534},
		{"\x80\x00\x7f\xff", 0},
		{"\x80\x00\x80\x00\x7f\xff", 65535 - 32768},
	} {
		if got := impl.Sum16(c.text); got != c.want {
			t.Errorf("Sum16(%q) = %d, not %d", c.text, got, c.want)
		}
	}
}

func TestSum16OfTexts(t *testing.T) {
	for _, s := range someTexts() {
		got := impl.Sum16(s)
		if want := sumByTotal(s); got != want {
			t.Errorf("Sum16 of %d bytes %.20q is %d, not %d", len(s), s, got, want)
		}
		if len(s)%2 == 1 && got != impl.Sum16(s+"\x00") {
			t.Errorf("%.20q: a byte 0 behind a single one changes the sum", s)
		}
		// Whole text and sum together come to nought, as long as pairs stay pairs.
		if len(s)%2 == 0 && impl.Sum16(s+pairText(got)) != 0 {
			t.Errorf("%.20q with its sum has sum %d", s, impl.Sum16(s+pairText(got)))
		}
	}
	for n := range int64(mostPair + 1) {
		if got := impl.Sum16(pairText(n)); got != mostPair-n {
			t.Fatalf("Sum16 of pair %d is %d", n, got)
		}
	}
}

func TestFold(t *testing.T) {
	for _, c := range []twoCase{
		{0, 0, 0}, {1, 2, 3}, {0, 65535, 65535}, {65535, 0, 65535},
		{65534, 1, 65535}, {65535, 1, 1}, {65534, 2, 1}, {65535, 2, 2},
		{32767, 32768, 65535}, {32768, 32768, 1}, {65535, 65535, 65535}, {65535, 65534, 65534},
	} {
		if got := impl.Fold(c.a, c.b); got != c.want {
			t.Errorf("Fold(%d, %d) = %d, not %d", c.a, c.b, got, c.want)
		}
	}
	for _, a := range somePairs {
		for b := range int64(mostPair + 1) {
			if got := impl.Fold(a, b); got != foldedTotal(a+b) || got != impl.Fold(b, a) {
				t.Fatalf("Fold(%d, %d) = %d, not %d", a, b, got, foldedTotal(a+b))
			}
		}
	}
}

func TestFoldOfWrongNumbers(t *testing.T) {
	for _, wrong := range wrongPairs {
		for _, other := range slices.Concat(somePairs, wrongPairs) {
			if got := impl.Fold(wrong, other); got != -1 {
				t.Errorf("Fold(%d, %d) = %d", wrong, other, got)
			}
			if got := impl.Fold(other, wrong); got != -1 {
				t.Errorf("Fold(%d, %d) = %d", other, wrong, got)
			}
		}
	}
}

func TestRenewedByHand(t *testing.T) {
	for _, c := range []struct{ sum, old, fresh, want int64 }{
		{65535 - 258, 258, 1284, 65535 - 1284},
		{100, 7, 7, 100},
		{0, 7, 7, 0},
		{0, 0, 0, 0},
		{0, 65535, 65535, 0},
		{1, 65535, 65535, 1},
		{65534, 1, 1, 65534},
		{65534, 1, 2, 65533},
		// Of nought the sum is 0 or 65535; by the words of the chapter it is these.
		{65535, 0, 0, 0},
		{65535, 7, 7, 0},
		{65535, 65535, 65535, 0},
		{65535, 65535, 0, 65535},
		{65534, 1, 0, 0},
		{65535, 0, 1, 65534},
		{65535, 0, 65535, 0},
		{0, 65535, 0, 0},
		{0, 65535, 1, 65534},
		{0, 0, 1, 65534},
		{0, 1, 0, 1},
		{65535, 65535, 1, 65534},
	} {
		if got := impl.Renewed(c.sum, c.old, c.fresh); got != c.want {
			t.Errorf("Renewed(%d, %d, %d) = %d, not %d", c.sum, c.old, c.fresh, got, c.want)
		}
	}
}

func TestRenewedByTotals(t *testing.T) {
	for _, sum := range somePairs {
		for _, old := range somePairs {
			for fresh := range int64(mostPair + 1) {
				want := mostPair - foldedTotal(mostPair-sum+mostPair-old+fresh)
				if got := impl.Renewed(sum, old, fresh); got != want {
					t.Fatalf("Renewed(%d, %d, %d) = %d, not %d", sum, old, fresh, got, want)
				}
			}
		}
	}
}

// heldAgainstAnew changes one pair of a text. Of nought both 0 and 65535 will
// do, of all else just one.
func heldAgainstAnew(t *testing.T, s string, at int, fresh int64) {
	t.Helper()
	old := 256*int64(s[at]) + int64(s[at+1])
	changed := s[:at] + pairText(fresh) + s[at+2:]
	got, want := impl.Renewed(impl.Sum16(s), old, fresh), impl.Sum16(changed)
	nought := strings.Trim(changed, "\x00") == ""
	if got == want || nought && (got == 0 || got == mostPair) {
		return
	}
	t.Fatalf("%q, then %q: renewed as %d, summed anew as %d", s, changed, got, want)
}

func TestRenewedIsSummedAnew(t *testing.T) {
	for _, s := range someTexts() {
		if len(s) > 1001 {
			continue
		}
		for at := 0; at+1 < len(s); at += 2 {
			for _, fresh := range somePairs {
				heldAgainstAnew(t, s, at, fresh)
			}
			heldAgainstAnew(t, s, at, 256*int64(s[at])+int64(s[at+1]))
		}
	}
	for fresh := range int64(mostPair + 1) {
		heldAgainstAnew(t, "\x12\x34\x56\x78\x9a", 2, fresh)
		heldAgainstAnew(t, "\x00\x00\x00\x00", 2, fresh)
		heldAgainstAnew(t, "\xff\xff", 0, fresh)
		heldAgainstAnew(t, pairText(fresh), 0, 0)
		heldAgainstAnew(t, pairText(fresh), 0, fresh)
	}
}

// Pair after pair is changed, and the sum is never taken anew in between.
func TestRenewedAgainAndAgain(t *testing.T) {
	text := []byte("a text whose pairs all become others, one by one, and again.")
	sum := impl.Sum16(string(text))
	for i, n := range spread(5000) {
		at := i * 7 % (len(text) / 2) * 2
		fresh := n % (mostPair + 1)
		sum = impl.Renewed(sum, 256*int64(text[at])+int64(text[at+1]), fresh)
		copy(text[at:], pairText(fresh))
		if want := impl.Sum16(string(text)); sum != want {
			t.Fatalf("change %d: renewed as %d, summed anew as %d", i, sum, want)
		}
	}
}

func TestRenewedOfWrongNumbers(t *testing.T) {
	for _, wrong := range wrongPairs {
		for _, a := range slices.Concat(somePairs, wrongPairs) {
			for _, b := range slices.Concat(somePairs, wrongPairs) {
				for _, args := range [][3]int64{{wrong, a, b}, {a, wrong, b}, {a, b, wrong}} {
					if got := impl.Renewed(args[0], args[1], args[2]); got != -1 {
						t.Fatalf("Renewed%v = %d", args, got)
					}
				}
			}
		}
	}
}

// sumOfByBinary is of right frames only.
func sumOfByBinary(f impl.Frame) int64 {
	f.To, f.From, f.Tags, f.Sum = 0, 0, nil, 0
	return sumByTotal(showByBinary(f)[5:])
}

func TestSumOfByHand(t *testing.T) {
	small := impl.Frame{To: 1, From: 2, Tags: []int64{258}, Src: 16909060, Dst: 5, Proto: 6, SPort: 7, DPort: 8, Mark: 1, Body: "hi"}
	for _, c := range []struct {
		name string
		f    impl.Frame
		want int64
	}{
		{"zero", impl.Frame{}, 65535},
		{"zero but what is not summed", impl.Frame{To: 1, From: 2, Tags: []int64{3, 4}, Sum: 5}, 65535},
		{"Mark alone", impl.Frame{Mark: 3}, 65535 - 3},
		{"comes to 65535", impl.Frame{Src: 65535}, 0},
		{"comes to 65536", impl.Frame{Src: 65535, Mark: 1}, 65534},
		{"one byte of Body", impl.Frame{Body: "\x02"}, 65535 - 1 - 512},
		{"two bytes of Body", impl.Frame{Body: "\x02\x03"}, 65535 - 2 - 512 - 3},
		{"a Body of MaxBody", impl.Frame{Body: strings.Repeat("\x00", 1500)}, 65535 - 1500},
		{"small", small, 65535 - 0x0102 - 0x0304 - 5 - 0x0600 - 0x0700 - 0x0801 - 2 - 0x6869},
	} {
		if got := impl.SumOf(c.f); got != c.want {
			t.Errorf("%s: SumOf is %d, not %d", c.name, got, c.want)
		}
	}
}

func TestSumOfRightFrames(t *testing.T) {
	for _, f := range rightFrames() {
		want := sumOfByBinary(f)
		if got := impl.SumOf(f); got != want {
			t.Errorf("SumOf(%v) = %d, not %d", f, got, want)
		}
		if fromSrc := impl.ShowFrame(withSum(f, 0))[5+3*len(f.Tags):]; impl.Sum16(fromSrc) != want {
			t.Errorf("Sum16 of %v from Src on is %d, not %d", f, impl.Sum16(fromSrc), want)
		}
	}
}

// Each field changed by 1 changes the sum, but those ahead of Src and Sum.
func TestWhatSumOfHangsOn(t *testing.T) {
	unsummed := []string{"To", "From", "first Tag", "second Tag", "Sum"}
	for _, field := range frameFields() {
		f := someFrame(2, "body")
		ahead := impl.SumOf(f)
		*field.of(&f)++
		if same := impl.SumOf(f) == ahead; same != slices.Contains(unsummed, field.name) {
			t.Errorf("%s changed: the sum stays: %t", field.name, same)
		}
	}
	if impl.SumOf(someFrame(0, "ab")) == impl.SumOf(someFrame(0, "ab\x00")) {
		t.Error("how many bytes Body has is not summed")
	}
	if impl.SumOf(someFrame(0, "ab")) == impl.SumOf(someFrame(0, "ba")) {
		t.Error("Body is not summed in its order")
	}
}

func withSum(f impl.Frame, sum int64) impl.Frame {
	f.Sum = sum
	return f
}

func TestSumOfWrongFrames(t *testing.T) {
	for _, f := range wrongFrames() {
		if got := impl.SumOf(f); got != -1 {
			t.Errorf("SumOf(%v) = %d", f, got)
		}
	}
}

func TestMarkedRightFrames(t *testing.T) {
	for _, f := range rightFrames() {
		f.Sum = sumOfByBinary(f)
		for mark := int64(0); mark <= 3; mark++ {
			want := f
			want.Mark = mark
			want.Sum = sumOfByBinary(want)
			got, is := impl.Marked(f, mark)
			if !is || !sameFrame(got, want) {
				t.Fatalf("Marked(%v, %d) = %v, %t", f, mark, got, is)
			}
			if back, is := impl.Marked(got, f.Mark); !is || !sameFrame(back, f) {
				t.Fatalf("%v marked %d and back is %v, %t", f, mark, back, is)
			}
		}
	}
}

// Where nought is summed the Sum is 65535, as SumOf says, and not 0.
func TestMarkedOfNought(t *testing.T) {
	nought := impl.Frame{Sum: 65535}
	for _, f := range []impl.Frame{nought, {Mark: 1, Sum: 65534}, {Mark: 3, Sum: 65532}} {
		if got, is := impl.Marked(f, 0); !is || !sameFrame(got, nought) {
			t.Errorf("Marked(%v, 0) = %v, %t", f, got, is)
		}
	}
	if got, is := impl.Marked(nought, 3); !is || !sameFrame(got, impl.Frame{Mark: 3, Sum: 65532}) {
		t.Errorf("Marked(%v, 3) = %v, %t", nought, got, is)
	}
	refused(t, impl.Frame{}, 0)
	refused(t, impl.Frame{}, 1)
	// And the other way round: here the Sum is 0, and not 65535.
	full := impl.Frame{Src: 65535}
	if got, is := impl.Marked(full, 0); !is || !sameFrame(got, full) {
		t.Errorf("Marked(%v, 0) = %v, %t", full, got, is)
	}
	refused(t, withSum(full, 65535), 0)
}

func refused(t *testing.T, f impl.Frame, mark int64) {
	t.Helper()
	if got, is := impl.Marked(f, mark); is || !sameFrame(got, impl.Frame{}) {
		t.Errorf("Marked(%v, %d) = %v, %t", f, mark, got, is)
	}
}

func TestMarkedRefuses(t *testing.T) {
	for _, f := range rightFrames() {
		sum := sumOfByBinary(f)
		for _, mark := range []int64{-1, -2, 4, 5, 255, 256, 1 << 32, 1<<32 + 1, math.MinInt64, math.MinInt64 + 1, math.MaxInt64} {
			refused(t, withSum(f, sum), mark)
		}
		for _, wrong := range []int64{(sum + 1) % 65536, (sum + 65535) % 65536, sum ^ 0x100, sum ^ 0xffff, sum ^ 0x8000} {
			for mark := int64(0); mark <= 3; mark++ {
				refused(t, withSum(f, wrong), mark)
			}
		}
	}
	for _, f := range wrongFrames() {
		for _, sum := range []int64{f.Sum, 0, 65535, -1} {
			for _, mark := range []int64{-1, 0, 2, 3, 4} {
				refused(t, withSum(f, sum), mark)
			}
		}
	}
}

// The Sum that the Mark to come would want is wrong for the Mark that is there.
func TestMarkedAsksForTheOldSum(t *testing.T) {
	f := someFrame(1, "body")
	f.Mark = 1
	next := f
	next.Mark = 2
	refused(t, withSum(f, sumOfByBinary(next)), 2)
}

func TestSumArgumentsStay(t *testing.T) {
	for tags := 0; tags <= 3; tags++ {
		room := []int64{258, 4095, 7, 8, 9}
		f := someFrame(0, "body")
		f.Tags = room[:tags]
		f.Sum = max(impl.SumOf(f), 0)
		ahead := f
		got, _ := impl.Marked(f, 3)
		impl.SumOf(f)
		for i := range got.Tags[:cap(got.Tags)] {
			got.Tags[:cap(got.Tags)][i] = -1
		}
		_ = append(got.Tags, -1, -1)
		if !slices.Equal(room, []int64{258, 4095, 7, 8, 9}) || !reflect.DeepEqual(f, ahead) {
			t.Errorf("%d Tags: %v, %v", tags, room, f)
		}
	}
}

func TestSumAnswersAreNewMemory(t *testing.T) {
	f := someFrame(2, string(bytes.Repeat([]byte("body"), 9)))
	f.Sum = impl.SumOf(f)
	first, _ := impl.Marked(f, 1)
	second, _ := impl.Marked(f, 1)
	first.Tags[0], first.Tags[1] = -1, -1
	if !slices.Equal(second.Tags, []int64{0x0132, 0x0f42}) || !slices.Equal(f.Tags, second.Tags) {
		t.Error(second, f)
	}
	if inside(second.Body, f.Body) || inside(second.Body, first.Body) {
		t.Error("a text is a piece of another")
	}
}
