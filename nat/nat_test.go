package nat

import (
	"math"
	"math/big"
	"slices"
	"testing"

	"winnower/api"
)

// ends are the numbers at which an int's bounds, or a sign, may be got wrong.
var ends = []int{
	math.MinInt, math.MinInt + 1, math.MinInt + 2, math.MinInt / 2, math.MinInt/2 + 1,
	-1 << 48, -9, -3, -2, -1, 0, 1, 2, 3, 4, 9, 1 << 48,
	math.MaxInt / 2, math.MaxInt/2 + 1, math.MaxInt/2 + 2, math.MaxInt - 2, math.MaxInt - 1, math.MaxInt,
}

// P1.1: Hold.
func TestHold(t *testing.T) {
	for _, c := range []struct{ n, lo, hi, want int }{
		{3, 1, 9, 3},
		{1, 1, 9, 1},
		{9, 1, 9, 9},
		{0, 1, 9, 1},
		{10, 1, 9, 9},
		{-7, -5, -2, -5},
		{-1, -5, -2, -2},
		{4, 6, 6, 6},
		{3, 9, 1, 9},
		{0, 9, 1, 9},
		{20, 9, 1, 9},
		{math.MinInt, 0, math.MaxInt, 0},
		{math.MaxInt, math.MinInt, 0, 0},
		{math.MinInt, math.MinInt, math.MaxInt, math.MinInt},
		{math.MaxInt, math.MinInt, math.MaxInt, math.MaxInt},
		{0, math.MaxInt, math.MinInt, math.MaxInt},
	} {
		if got := Hold(c.n, c.lo, c.hi); got != c.want {
			t.Errorf("Hold(%d, %d, %d) = %d, want %d", c.n, c.lo, c.hi, got, c.want)
		}
	}
}

// heldByWords is what the chapter says Hold is, word by word.
func heldByWords(n, lo, hi int) int {
	switch {
	case hi < lo:
		return lo
	case n < lo:
		return lo
	case n > hi:
		return hi
	}
	return n
}

// P1.1: Hold, at all ends.
func TestHoldEnds(t *testing.T) {
	for _, n := range ends {
		for _, lo := range ends {
			for _, hi := range ends {
				if got, want := Hold(n, lo, hi), heldByWords(n, lo, hi); got != want {
					t.Errorf("Hold(%d, %d, %d) = %d, want %d", n, lo, hi, got, want)
				}
			}
		}
	}
}

// P1.1: Least.
func TestLeast(t *testing.T) {
	for _, c := range []struct {
		l    []int
		want int
	}{
		{nil, 0},
		{[]int{}, 0},
		{[]int{7}, 7},
		{[]int{-7}, -7},
		{[]int{3, 5, 4}, 3},
		{[]int{5, 3, 4}, 3},
		{[]int{5, 4, 3}, 3},
		{[]int{2, 2, 2}, 2},
		{[]int{0, -1, 1}, -1},
		{[]int{math.MaxInt}, math.MaxInt},
		{[]int{math.MaxInt, math.MinInt, 0}, math.MinInt},
		{ends, math.MinInt},
	} {
		if got := Least(c.l...); got != c.want {
			t.Errorf("Least(%v) = %d, want %d", c.l, got, c.want)
		}
	}
	if got := Least(); got != 0 {
		t.Errorf("Least() = %d, want 0", got)
	}
}

// P1.2: Sum.
func TestSum(t *testing.T) {
	for _, c := range []struct {
		name string
		most int
		l    []int
		want int
		e    api.Errno
	}{
		{"none", 10, nil, 0, api.OK},
		{"none, empty", 10, []int{}, 0, api.OK},
		{"none, most 0", 0, nil, 0, api.OK},
		{"none, most below 0", -1, nil, 0, api.ErrOver},
		{"none, most the least int", math.MinInt, nil, 0, api.ErrOver},
		{"just most", 10, []int{4, 6}, 10, api.OK},
		{"one above most", 10, []int{4, 7}, 0, api.ErrOver},
		{"all in order", 100, []int{1, 2, 3, 4}, 10, api.OK},
		{"noughts, most 0", 0, []int{0, 0}, 0, api.OK},
		{"1, most 0", 0, []int{1}, 0, api.ErrOver},
		{"noughts behind the most", 5, []int{5, 0, 0}, 5, api.OK},
		{"above in the middle", 10, []int{4, 7, 1}, 0, api.ErrOver},
		{"below 0 first", 10, []int{-1, 4}, 0, api.ErrArg},
		{"below 0 last", 10, []int{4, -1}, 0, api.ErrArg},
		{"below 0, though all would fit", 10, []int{9, 3, -5}, 0, api.ErrOver},
		{"above ahead of below 0", 10, []int{4, 7, -1}, 0, api.ErrOver},
		{"below 0 ahead of above", 10, []int{4, -1, 70}, 0, api.ErrArg},
		{"most below 0, a number", -1, []int{0}, 0, api.ErrOver},
		{"most below 0, a number below 0", -1, []int{-2}, 0, api.ErrArg},
		{"most below 0, below 0 behind", -1, []int{0, -2}, 0, api.ErrOver},
		{"most the least int, a number", math.MinInt, []int{math.MaxInt}, 0, api.ErrOver},
		{"most the least int, the least int", math.MinInt, []int{math.MinInt}, 0, api.ErrArg},
		{"the greatest int", math.MaxInt, []int{math.MaxInt}, math.MaxInt, api.OK},
		{"the greatest int of two", math.MaxInt, []int{math.MaxInt - 1, 1}, math.MaxInt, api.OK},
		{"one above the greatest int", math.MaxInt, []int{math.MaxInt, 1}, 0, api.ErrOver},
		{"twice the greatest int", math.MaxInt, []int{math.MaxInt, math.MaxInt}, 0, api.ErrOver},
		{"wraps round to 0 and more", math.MaxInt, []int{math.MaxInt, math.MaxInt, 2, 5}, 0, api.ErrOver},
		{"above ahead of the least int", math.MaxInt, []int{math.MaxInt, 1, math.MinInt}, 0, api.ErrOver},
	} {
		if got, e := Sum(c.most, c.l...); got != c.want || e != c.e {
			t.Errorf("%s: Sum(%d, %v) = %d, %d, want %d, %d", c.name, c.most, c.l, got, e, c.want, c.e)
		}
	}
}

// sumByWords is what the chapter says Sum is, word by word, of numbers without bounds.
func sumByWords(most int, l []int) (int, api.Errno) {
	if most < 0 && len(l) == 0 {
		return 0, api.ErrOver
	}
	sum := new(big.Int)
	for _, n := range l {
		sum.Add(sum, big.NewInt(int64(n)))
		if n < 0 {
			return 0, api.ErrArg
		}
		if sum.Cmp(big.NewInt(int64(most))) > 0 {
			return 0, api.ErrOver
		}
	}
	return int(sum.Int64()), api.OK
}

// P1.2: Sum, at all ends, of up to three numbers.
func TestSumEnds(t *testing.T) {
	check := func(most int, l ...int) {
		got, e := Sum(most, l...)
		if want, we := sumByWords(most, l); got != want || e != we {
			t.Errorf("Sum(%d, %v) = %d, %d, want %d, %d", most, l, got, e, want, we)
		}
	}
	for _, most := range ends {
		check(most)
		for _, a := range ends {
			check(most, a)
			for _, b := range ends {
				check(most, a, b)
				for _, c := range ends {
					check(most, a, b, c)
				}
			}
		}
	}
}

// P1.3: Log.
func TestLog(t *testing.T) {
	for _, c := range []struct{ n, want int }{
		{1, 0}, {2, 1}, {3, 2}, {4, 2}, {5, 3},
		{0, 0}, {-1, 0}, {-2, 0}, {-5, 0}, {math.MinInt, 0}, {math.MinInt + 1, 0},
		{8, 3}, {9, 4}, {1024, 10}, {1025, 11},
		{math.MaxInt/2 + 1, 62}, {math.MaxInt/2 + 2, 63}, {math.MaxInt - 1, 63}, {math.MaxInt, 63},
	} {
		if got := Log(c.n); got != c.want {
			t.Errorf("Log(%d) = %d, want %d", c.n, got, c.want)
		}
	}
}

// logByWords halves n till it is 1, as the chapter says.
func logByWords(n int) int {
	times := 0
	for n > 1 {
		n = n/2 + n%2
		times++
	}
	return times
}

// P1.3: Log, of many small numbers, and beside each power of two.
func TestLogHalves(t *testing.T) {
	check := func(n int) {
		if got, want := Log(n), logByWords(n); got != want {
			t.Errorf("Log(%d) = %d, want %d", n, got, want)
		}
	}
	for n := -10; n <= 1<<13; n++ {
		check(n)
	}
	for bit := range 63 {
		for off := -2; off <= 2; off++ {
			check(1<<bit + off)
		}
	}
	for _, n := range ends {
		check(n)
	}
}

// P1.3: Middle.
func TestMiddle(t *testing.T) {
	for _, c := range []struct{ lo, hi, want int }{
		{4, 9, 6},
		{4, 8, 6},
		{0, 1, 0},
		{0, 2, 1},
		{5, 5, 5},
		{9, 1, 9},
		{-9, -4, -7},
		{-3, 4, 0},
		{-4, 3, -1},
		{-1, 0, -1},
		{-9, -12, -9},
		{math.MinInt, math.MaxInt, -1},
		{math.MinInt, 0, math.MinInt / 2},
		{0, math.MaxInt, math.MaxInt / 2},
		{math.MaxInt - 1, math.MaxInt, math.MaxInt - 1},
		{math.MaxInt - 2, math.MaxInt, math.MaxInt - 1},
		{math.MinInt, math.MinInt + 1, math.MinInt},
		{math.MaxInt, math.MaxInt, math.MaxInt},
		{math.MaxInt, math.MinInt, math.MaxInt},
		{math.MinInt, math.MinInt, math.MinInt},
	} {
		if got := Middle(c.lo, c.hi); got != c.want {
			t.Errorf("Middle(%d, %d) = %d, want %d", c.lo, c.hi, got, c.want)
		}
	}
}

// middleByWords is what the chapter says Middle is, word by word, of numbers without bounds.
func middleByWords(lo, hi int) int {
	if hi <= lo {
		return lo
	}
	more := new(big.Int).Sub(big.NewInt(int64(hi)), big.NewInt(int64(lo)))
	half := more.Quo(more, big.NewInt(2))
	return int(half.Add(half, big.NewInt(int64(lo))).Int64())
}

// P1.3: Middle, at all ends, and of all small numbers.
func TestMiddleEnds(t *testing.T) {
	check := func(lo, hi int) {
		if got, want := Middle(lo, hi), middleByWords(lo, hi); got != want {
			t.Errorf("Middle(%d, %d) = %d, want %d", lo, hi, got, want)
		}
	}
	for _, lo := range ends {
		for _, hi := range ends {
			check(lo, hi)
		}
	}
	for lo := -20; lo <= 20; lo++ {
		for hi := -20; hi <= 20; hi++ {
			check(lo, hi)
		}
	}
}

// Rule 5: a list that is handed in is not changed.
func TestListsStay(t *testing.T) {
	l := []int{5, 3, -4, 9}
	was := slices.Clone(l)
	Least(l...)
	Sum(100, l...)
	if !slices.Equal(l, was) {
		t.Errorf("list became %v, was %v", l, was)
	}
}
