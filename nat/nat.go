// Package nat is layer 1: numbers that stay in bounds.
package nat

import (
	"math/bits"

	"winnower/api"
)

// Hold is n, held from lo to hi; lo, if hi is below lo.
func Hold(n, lo, hi int) int {
	// lo is asked last, so that it has the last word where hi is below it.
	return max(min(n, hi), lo)
}

// Sum is all numbers together, from the left, at most so much.
func Sum(most int, l ...int) (int, api.Errno) {
	if most < 0 && len(l) == 0 {
		return 0, api.ErrOver
	}
	sum := 0
	for _, n := range l {
		if n < 0 {
			return 0, api.ErrArg
		}
		// What is left of most is asked, for sum + n may be more than an int holds.
		if n > most-sum {
			return 0, api.ErrOver
		}
		sum += n
	}
	return sum, api.OK
}

// Least is the least of some; 0 of none.
func Least(l ...int) int {
	if len(l) == 0 {
		return 0
	}
	least := l[0]
	for _, n := range l[1:] {
		least = min(least, n)
	}
	return least
}

// Log is how often n is halved, rounded up, till it is 1; 0 of what is below.
func Log(n int) int {
	if n <= 1 {
		return 0
	}
	// Halving n rounded up is halving n-1 rounded down, so the bits of n-1 tell how often.
	return bits.Len(uint(n - 1))
}

// Middle is lo, and half of what hi has more, rounded down; lo, if hi isn't above it.
func Middle(lo, hi int) int {
	if hi <= lo {
		return lo
	}
	// What hi has more may be more than an int holds, but never more than a uint.
	more := uint(hi) - uint(lo)
	return lo + int(more/2)
}
