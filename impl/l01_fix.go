package impl

import "math/bits"

const MaxFix = 1099511627776

// noFix is the fixed answer where an argument is no fix.
const noFix = -1

// maxRoot is the root of MaxFix: no fix has a greater one.
const maxRoot = 1 << 20

// fix is a number that stops at MaxFix. All methods but ok rely on fixes that
// are ok: the exported functions ask that first.
type fix int64

func (a fix) ok() bool { return 0 <= a && a <= MaxFix }

func (a fix) plus(b fix) fix { return min(a+b, MaxFix) }

func (a fix) minus(b fix) fix { return max(a-b, 0) }

// share keeps the product in two words, as it may pass what one word holds.
func (a fix) share(b fix, c fix) fix {
	high, low := bits.Mul64(uint64(a), uint64(b))
	// This also guards Div64, which panics where the quotient needs more than
	// one word or c is 0.
	if high >= uint64(c) {
		return MaxFix
	}
	quotient, _ := bits.Div64(high, low, uint64(c))
	return fix(min(quotient, MaxFix))
}

// holdsSquare is asked of numbers up to maxRoot only, whose squares don't wrap.
func (a fix) holdsSquare(n fix) bool { return n*n <= a }

func FixOk(a int64) bool { return fix(a).ok() }

func Plus(a int64, b int64) int64 { return ofTwo(fix.plus, a, b) }

func Minus(a int64, b int64) int64 { return ofTwo(fix.minus, a, b) }

func Share(a int64, b int64, c int64) int64 {
	if !allFixes(a, b, c) {
		return noFix
	}
	return int64(fix(a).share(fix(b), fix(c)))
}

func Root(a int64) int64 {
	if !FixOk(a) {
		return noFix
	}
	return int64(greatest(maxRoot, fix(a).holdsSquare))
}

func ofTwo(work func(fix, fix) fix, a int64, b int64) int64 {
	if !allFixes(a, b) {
		return noFix
	}
	return int64(work(fix(a), fix(b)))
}

func allFixes(list ...int64) bool {
	for _, a := range list {
		if !FixOk(a) {
			return false
		}
	}
	return true
}

// greatest halves what is left: it relies on holds being true of 0 and, once
// false, false of all that is greater.
func greatest(most fix, holds func(fix) bool) fix {
	low, high := fix(0), most
	for low < high {
		middle := (low + high + 1) / 2
		if holds(middle) {
			low = middle
		} else {
			high = middle - 1
		}
	}
	return low
}
