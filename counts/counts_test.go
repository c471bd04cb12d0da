package counts_test

import (
	"fmt"
	"math"
	"slices"
	"testing"

	"winnower/api"
	"winnower/counts"
	"winnower/sample"
)

// list is a short name of what all calls take.
type list = []api.Run

// last is the greatest count.
const last = 1 << 40

// What runs are made by, and what the words say of them, here: the tests of several layers have it together.
var (
	run, runs, numbers     = sample.Run, sample.Runs, sample.Numbers
	wrong, drawn           = sample.WrongRuns, sample.DrawnRuns
	rightRun, rightByWords = sample.RightRun, sample.RightRuns
	hasByWords, turns      = sample.HasCount, sample.Turns
	listOf                 = sample.RunsOf
)

// had is which of some counts a list has.
func had(l list, points []int) []bool {
	in := make([]bool, len(points))
	for i, n := range points {
		in[i] = hasByWords(l, n)
	}
	return in
}

// each is, count by count, what keep says of both.
func each(a, b []bool, keep func(a, b bool) bool) []bool {
	in := make([]bool, len(a))
	for i := range a {
		in[i] = keep(a[i], b[i])
	}
	return in
}

// ofByWords is the right list of what a list has.
func ofByWords(l list) list {
	points := turns(l)
	return listOf(had(l, points), points)
}

// check holds a list that was answered against what is wanted, run by run.
func check(t *testing.T, call string, got, want list, args ...any) {
	t.Helper()
	if !slices.Equal(got, want) {
		t.Fatalf("%s of %v = %v, want %v", call, args, got, want)
	}
	if !rightByWords(got) || !counts.Right(got) {
		t.Fatalf("%s of %v = %v, which isn't right", call, args, got)
	}
}

// checkNumbers holds Base, Most and Many of a list against what is wanted.
func checkNumbers(t *testing.T, l list, base, most, many int) {
	t.Helper()
	if got := counts.Base(l); got != base {
		t.Fatalf("Base(%v) = %d, want %d", l, got, base)
	}
	if got := counts.Most(l); got != most {
		t.Fatalf("Most(%v) = %d, want %d", l, got, most)
	}
	if got := counts.Many(l); got != many {
		t.Fatalf("Many(%v) = %d, want %d", l, got, many)
	}
}

// checkHas holds Has of a list and a number against the words.
func checkHas(t *testing.T, l list, n int) {
	t.Helper()
	if got, want := counts.Has(l, n), hasByWords(l, n); got != want {
		t.Fatalf("Has(%v, %d) = %t, want %t", l, n, got, want)
	}
}

// checkAdd holds Add of a list and some numbers against the words.
func checkAdd(t *testing.T, l list, add ...int) {
	t.Helper()
	with := slices.Clone(l)
	for _, n := range add {
		if n >= 1 && n <= last {
			with = append(with, run(n, n))
		}
	}
	check(t, "Add", counts.Add(l, add...), ofByWords(with), l, add)
}

// checkOne holds all that is asked of one list against the chapter's words.
func checkOne(t *testing.T, l list) {
	t.Helper()
	if got, want := counts.Right(l), rightByWords(l); got != want {
		t.Fatalf("Right(%v) = %t, want %t", l, got, want)
	}
	want := ofByWords(l)
	check(t, "Of", counts.Of(l...), want, l)
	checkAdd(t, l)
	base, most, many := 0, 0, 0
	for _, r := range want {
		if r.From == 1 {
			base = r.To
		}
		most = r.To
		many += r.To - r.From + 1
	}
	checkNumbers(t, l, base, most, many)
	for _, n := range append(turns(l), numbers()...) {
		checkHas(t, l, n)
	}
}

// checkTwo holds all that is asked of two lists against the chapter's words.
func checkTwo(t *testing.T, a, b list) {
	t.Helper()
	points := turns(a, b)
	inA, inB := had(a, points), had(b, points)
	check(t, "Union", counts.Union(a, b), listOf(each(inA, inB, func(a, b bool) bool { return a || b }), points), a, b)
	check(t, "Meet", counts.Meet(a, b), listOf(each(inA, inB, func(a, b bool) bool { return a && b }), points), a, b)
	check(t, "Less", counts.Less(a, b), listOf(each(inA, inB, func(a, b bool) bool { return a && !b }), points), a, b)
}

// P13.1 to P13.3: the chapter's example.
func TestExample(t *testing.T) {
	want := list{run(1, 5), run(8, 9)}
	for _, l := range []list{
		{run(1, 4), run(5, 5), run(8, 9)}, {run(8, 9), run(5, 5), run(1, 4)}, {run(5, 5), run(8, 9), run(1, 4)}, {run(1, 5), run(8, 9)},
	} {
		check(t, "Of", counts.Of(l...), want, l)
		checkNumbers(t, l, 5, 9, 7)
		checkOne(t, l)
	}
	if !counts.Right(want) || counts.Right(list{run(1, 4), run(5, 5), run(8, 9)}) {
		t.Error("1 to 5, and 8 to 9 is the right list")
	}
	for n := -2; n < 20; n++ {
		if got, in := counts.Has(want, n), 1 <= n && n <= 5 || n == 8 || n == 9; got != in {
			t.Errorf("Has(%v, %d) = %t", want, n, got)
		}
	}
	check(t, "Add", counts.Add(list{run(1, 4), run(8, 9)}, 5), want)
	check(t, "Add", counts.Add(nil, 9, 1, 5, 3, 8, 2, 4, 3), want)
	check(t, "Union", counts.Union(list{run(1, 4), run(8, 9)}, list{run(5, 5)}), want)
	check(t, "Meet", counts.Meet(list{run(1, 9)}, list{run(0, 0), run(1, 5), run(8, 20)}), want)
	check(t, "Less", counts.Less(list{run(1, 9)}, list{run(6, 7), run(10, 12)}), want)
}

// P13.1: Right, of lists that the words name.
func TestRight(t *testing.T) {
	for _, l := range []list{
		nil, {}, {run(1, 1)}, {run(1, 2)}, {run(2, 2)}, {run(1, last)}, {run(last, last)}, {run(last-1, last)}, {run(7, 1<<32)}, {run(1<<32+1, 1<<32+1)},
		// The next one begins two above the end, or more.
		{run(1, 1), run(3, 3)}, {run(1, 2), run(4, 4)}, {run(1, 5), run(8, 9)}, {run(1, 1), run(last, last)}, {run(1, last-2), run(last, last)}, {run(2, 2), run(4, 4), run(6, 6), run(8, last)},
		{run(1, 1<<32), run(1<<32+2, 1<<33), run(1<<33+3, last)},
	} {
		if !counts.Right(l) {
			t.Errorf("Right(%v) = false, want true", l)
		}
	}
	for _, l := range []list{
		// It begins one above the end.
		{run(1, 2), run(3, 4)}, {run(1, 1), run(2, 2)}, {run(5, 5), run(6, 6)}, {run(1, last-1), run(last, last)}, {run(1, 1<<32), run(1<<32+1, last)},
		// It begins at the end, or ahead of it.
		{run(1, 2), run(2, 3)}, {run(1, 5), run(3, 9)}, {run(1, 9), run(3, 5)}, {run(3, 5), run(1, 9)}, {run(1, last), run(last, last)}, {run(1, last), run(2, 3)},
		// They are the same, or the one begins as the other does.
		{run(1, 1), run(1, 1)}, {run(4, 7), run(4, 7)}, {run(1, last), run(1, last)}, {run(1, 2), run(1, 3)}, {run(1, 3), run(1, 2)}, {run(last, last), run(last, last)},
		// They aren't in order.
		{run(3, 3), run(1, 1)}, {run(8, 9), run(1, 5)}, {run(last, last), run(1, 1)}, {run(5, 6), run(1, 2), run(9, 9)},
		// Any two beside each other.
		{run(1, 1), run(3, 3), run(4, 4)}, {run(1, 1), run(2, 2), run(4, 4)}, {run(3, 3), run(5, 5), run(1, 1)}, {run(1, 3), run(5, 7), run(9, 9), run(8, 8)},
	} {
		if counts.Right(l) {
			t.Errorf("Right(%v) = true, want false", l)
		}
	}
}

// P13.1 to P13.3: a run's edges: of each it is written out whether it is right.
func TestEdgesOfRuns(t *testing.T) {
	for _, c := range []struct {
		r    api.Run
		want bool
	}{
		{run(0, 1), false}, {run(1, 1), true}, {run(2, 1), false}, {run(2, 2), true}, {run(2, 3), true}, {run(-1, 1), false}, {run(0, 0), false}, {run(1, 0), false}, {run(1, -1), false},
		{run(1, last), true}, {run(1, last+1), false}, {run(1, last-1), true}, {run(last, last), true}, {run(last, last-1), false}, {run(last, last+1), false}, {run(last-1, last), true},
		{run(last+1, last+1), false}, {run(last+1, last), false}, {run(0, last), false},
		{run(math.MinInt, 1), false}, {run(1, math.MaxInt), false}, {run(math.MinInt, math.MaxInt), false}, {run(math.MaxInt, math.MinInt), false}, {run(1, math.MinInt), false}, {run(math.MaxInt, 1), false},
	} {
		own := list{c.r}
		if !c.want {
			own = nil
		}
		if got := counts.Right(list{c.r}); got != c.want {
			t.Errorf("Right(%v) = %t, want %t", c.r, got, c.want)
		}
		for _, n := range []int{c.r.From, c.r.To} {
			if got := counts.Has(list{c.r}, n); got != c.want {
				t.Errorf("Has(%v, %d) = %t, want %t", c.r, n, got, c.want)
			}
		}
		check(t, "Of", counts.Of(c.r), own, c.r)
		check(t, "Add", counts.Add(list{c.r}), own, c.r)
	}
	for _, r := range wrong() {
		if counts.Right(list{r}) {
			t.Errorf("Right(%v) = true, want false", r)
		}
	}
}

// P13.1: a list isn't right, if one of its runs isn't, wherever it stands.
func TestRightWrong(t *testing.T) {
	for _, r := range wrong() {
		for _, l := range []list{{r}, {r, r}, {r, run(11, 12)}, {r, run(last, last)}, {run(1, 1), r}, {run(1, 1), r, run(20, 21)}, {run(1, 1), run(3, 3), r}, {r, run(1, 1), run(3, 3)}} {
			if counts.Right(l) {
				t.Errorf("Right(%v) = true, want false", l)
			}
		}
	}
}

// P13.1: Has, of lists and counts that the words name.
func TestHas(t *testing.T) {
	for _, c := range []struct {
		l    list
		n    int
		want bool
	}{
		{nil, 0, false}, {nil, 1, false}, {list{}, 1, false}, {list{}, last, false}, {nil, math.MinInt, false}, {nil, math.MaxInt, false},
		{list{run(1, 1)}, 0, false}, {list{run(1, 1)}, 1, true}, {list{run(1, 1)}, 2, false},
		{list{run(1, last)}, 0, false}, {list{run(1, last)}, 1, true}, {list{run(1, last)}, 1 << 32, true}, {list{run(1, last)}, last, true}, {list{run(1, last)}, last + 1, false},
		{list{run(1, last)}, -1, false}, {list{run(1, last)}, math.MinInt, false}, {list{run(1, last)}, math.MaxInt, false}, {list{run(1, last)}, math.MinInt + 1, false},
		{list{run(last, last)}, last - 1, false}, {list{run(last, last)}, last, true}, {list{run(last, last)}, last + 1, false}, {list{run(last, last)}, 1, false},
		{list{run(3, 5), run(8, 9)}, 2, false}, {list{run(3, 5), run(8, 9)}, 3, true}, {list{run(3, 5), run(8, 9)}, 4, true}, {list{run(3, 5), run(8, 9)}, 5, true}, {list{run(3, 5), run(8, 9)}, 6, false},
		{list{run(3, 5), run(8, 9)}, 7, false}, {list{run(3, 5), run(8, 9)}, 8, true}, {list{run(3, 5), run(8, 9)}, 9, true}, {list{run(3, 5), run(8, 9)}, 10, false}, {list{run(3, 5), run(8, 9)}, -4, false},
		// In any order, one within the other, the same more than once.
		{list{run(8, 9), run(3, 5)}, 4, true}, {list{run(8, 9), run(3, 5)}, 9, true}, {list{run(8, 9), run(3, 5)}, 6, false},
		{list{run(4, 4), run(1, 9)}, 8, true}, {list{run(1, 9), run(4, 4)}, 8, true}, {list{run(1, 9), run(4, 4)}, 4, true}, {list{run(1, 9), run(4, 4)}, 10, false},
		{list{run(4, 4), run(4, 4)}, 4, true}, {list{run(4, 4), run(4, 4)}, 5, false}, {list{run(1, 2), run(3, 4)}, 3, true},
		// Numbers that shorter ones would take for others.
		{list{run(1, 5)}, 1<<32 + 1, false}, {list{run(1, 5)}, 256 + 1, false}, {list{run(1<<32+1, 1<<32+5)}, 1, false}, {list{run(1<<32+1, 1<<32+5)}, 1<<32 + 3, true},
	} {
		if got := counts.Has(c.l, c.n); got != c.want {
			t.Errorf("Has(%v, %d) = %t, want %t", c.l, c.n, got, c.want)
		}
	}
}

// P13.1: what isn't right, has nothing, and takes nothing away from the others.
func TestHasWrong(t *testing.T) {
	for _, r := range wrong() {
		for _, n := range append(numbers(), r.From, r.To, 5) {
			if counts.Has(list{r}, n) || counts.Has(list{r, r}, n) {
				t.Errorf("Has(%v, %d) = true, want false", r, n)
			}
			for _, l := range []list{{r, run(3, 4), run(1<<31, last)}, {run(3, 4), r, run(1<<31, last)}, {run(3, 4), run(1<<31, last), r}} {
				if got, want := counts.Has(l, n), n == 3 || n == 4 || n >= 1<<31 && n <= last; got != want {
					t.Errorf("Has(%v, %d) = %t, want %t", l, n, got, want)
				}
			}
		}
	}
}

// P13.1: Of, of runs that the words name.
func TestOf(t *testing.T) {
	for _, c := range []struct{ l, want list }{
		{nil, nil}, {list{}, nil}, {list{run(1, 1)}, list{run(1, 1)}}, {list{run(4, 7)}, list{run(4, 7)}}, {list{run(1, last)}, list{run(1, last)}}, {list{run(last, last)}, list{run(last, last)}},
		// Apart, by one count and by more.
		{list{run(1, 2), run(4, 5)}, list{run(1, 2), run(4, 5)}}, {list{run(4, 5), run(1, 2)}, list{run(1, 2), run(4, 5)}}, {list{run(1, 1), run(3, 3)}, list{run(1, 1), run(3, 3)}},
		{list{run(9, 9), run(1, 1), run(5, 5)}, list{run(1, 1), run(5, 5), run(9, 9)}}, {list{run(last, last), run(1, last-2)}, list{run(1, last-2), run(last, last)}},
		// Next to each other.
		{list{run(1, 2), run(3, 4)}, list{run(1, 4)}}, {list{run(3, 4), run(1, 2)}, list{run(1, 4)}}, {list{run(1, 1), run(2, 2), run(3, 3)}, list{run(1, 3)}}, {list{run(3, 3), run(1, 1), run(2, 2)}, list{run(1, 3)}},
		{list{run(1, last-1), run(last, last)}, list{run(1, last)}}, {list{run(last, last), run(last-1, last-1)}, list{run(last-1, last)}},
		{list{run(1, 1<<32), run(1<<32+1, last)}, list{run(1, last)}}, {list{run(1, 2), run(5, 6), run(3, 4)}, list{run(1, 6)}},
		// Within each other.
		{list{run(1, 9), run(3, 5)}, list{run(1, 9)}}, {list{run(3, 5), run(1, 9)}, list{run(1, 9)}}, {list{run(1, 9), run(1, 5)}, list{run(1, 9)}}, {list{run(1, 5), run(1, 9)}, list{run(1, 9)}},
		{list{run(1, 9), run(5, 9)}, list{run(1, 9)}}, {list{run(5, 9), run(1, 9)}, list{run(1, 9)}}, {list{run(1, last), run(7, 7), run(9, 9)}, list{run(1, last)}},
		{list{run(1, 9), run(2, 3), run(5, 6), run(11, 12)}, list{run(1, 9), run(11, 12)}}, {list{run(1, 9), run(2, 3), run(10, 12)}, list{run(1, 12)}}, {list{run(1, 9), run(2, 3), run(5, 12)}, list{run(1, 12)}},
		// One over the other.
		{list{run(1, 5), run(3, 9)}, list{run(1, 9)}}, {list{run(3, 9), run(1, 5)}, list{run(1, 9)}}, {list{run(1, 3), run(3, 5)}, list{run(1, 5)}}, {list{run(2, 4), run(3, 6), run(5, 8), run(10, 11)}, list{run(2, 8), run(10, 11)}},
		// The same more than once.
		{list{run(4, 7), run(4, 7)}, list{run(4, 7)}}, {list{run(1, 1), run(1, 1), run(1, 1)}, list{run(1, 1)}}, {list{run(8, 9), run(1, 5), run(8, 9), run(1, 5)}, list{run(1, 5), run(8, 9)}},
		{list{run(1, last), run(1, last)}, list{run(1, last)}},
		// What isn't right beside them.
		{list{run(5, 7), run(1, 2), run(3, 3), run(9, 8), run(0, 4)}, list{run(1, 3), run(5, 7)}}, {list{run(1, last+1), run(3, 3)}, list{run(3, 3)}}, {list{run(0, last), run(-1, 9)}, nil},
	} {
		check(t, "Of", counts.Of(c.l...), c.want, c.l)
		checkOne(t, c.l)
	}
	check(t, "Of", counts.Of(), nil)
}

// P13.1: Of leaves out what isn't right, wherever it stands.
func TestOfWrong(t *testing.T) {
	check(t, "Of", counts.Of(wrong()...), nil, wrong())
	for _, r := range wrong() {
		check(t, "Of", counts.Of(r), nil, r)
		want := list{run(3, 4), run(last-1, last)}
		for _, l := range []list{{r, run(3, 4), run(last-1, last)}, {run(3, 4), r, run(last-1, last)}, {run(last-1, last), r, run(3, 4), r}} {
			check(t, "Of", counts.Of(l...), want, l)
		}
	}
}

// P13.1: Add, of lists and counts that the words name.
func TestAdd(t *testing.T) {
	for _, c := range []struct {
		l    list
		add  []int
		want list
	}{
		// No count.
		{nil, nil, nil}, {list{}, []int{}, nil}, {list{run(3, 5)}, nil, list{run(3, 5)}}, {list{run(3, 3), run(1, 2), {}}, nil, list{run(1, 3)}}, {list{run(1, last)}, nil, list{run(1, last)}},
		// To no run.
		{nil, []int{1}, list{run(1, 1)}}, {nil, []int{last}, list{run(last, last)}}, {nil, []int{4, 2, 3, 0, -1}, list{run(2, 4)}}, {nil, []int{1, last}, list{run(1, 1), run(last, last)}},
		{list{}, []int{7, 7, 7}, list{run(7, 7)}}, {nil, []int{3, 1}, list{run(1, 1), run(3, 3)}}, {nil, []int{3, 1, 2}, list{run(1, 3)}},
		// Which are none.
		{nil, []int{0}, nil}, {nil, []int{-1}, nil}, {nil, []int{last + 1}, nil}, {nil, []int{math.MinInt}, nil}, {nil, []int{math.MaxInt}, nil}, {nil, []int{-last, last + 1, 1 << 48, math.MaxInt, math.MinInt, 0}, nil},
		{list{run(1, 2)}, []int{0, -1, math.MinInt}, list{run(1, 2)}}, {list{run(5, last)}, []int{last + 1, last + 2, math.MaxInt}, list{run(5, last)}}, {list{run(1, 2)}, []int{0, 3, last + 1}, list{run(1, 3)}},
		{list{run(1, last)}, []int{0, last + 1}, list{run(1, last)}},
		// At a run's ends, within it, and next to it.
		{list{run(3, 5)}, []int{1}, list{run(1, 1), run(3, 5)}}, {list{run(3, 5)}, []int{2}, list{run(2, 5)}}, {list{run(3, 5)}, []int{3}, list{run(3, 5)}}, {list{run(3, 5)}, []int{4}, list{run(3, 5)}},
		{list{run(3, 5)}, []int{5}, list{run(3, 5)}}, {list{run(3, 5)}, []int{6}, list{run(3, 6)}}, {list{run(3, 5)}, []int{7}, list{run(3, 5), run(7, 7)}}, {list{run(3, 5)}, []int{6, 2}, list{run(2, 6)}},
		{list{run(1, last-1)}, []int{last}, list{run(1, last)}}, {list{run(1, last-2)}, []int{last}, list{run(1, last-2), run(last, last)}}, {list{run(2, last)}, []int{1}, list{run(1, last)}},
		// Between two.
		{list{run(1, 2), run(4, 5)}, []int{3}, list{run(1, 5)}}, {list{run(1, 2), run(5, 6)}, []int{3}, list{run(1, 3), run(5, 6)}}, {list{run(1, 2), run(5, 6)}, []int{4}, list{run(1, 2), run(4, 6)}},
		{list{run(1, 2), run(5, 6)}, []int{4, 3}, list{run(1, 6)}}, {list{run(1, 2), run(6, 7)}, []int{4}, list{run(1, 2), run(4, 4), run(6, 7)}},
		// To lists that aren't right.
		{list{run(4, 5), run(1, 2)}, []int{3}, list{run(1, 5)}}, {list{run(1, 2), run(3, 4)}, []int{6}, list{run(1, 4), run(6, 6)}}, {list{run(0, 9), run(9, 8), run(1, last+1)}, []int{5}, list{run(5, 5)}},
		{list{run(0, 0)}, []int{0}, nil},
	} {
		check(t, "Add", counts.Add(c.l, c.add...), c.want, c.l, c.add)
		checkAdd(t, c.l, c.add...)
		turned := slices.Clone(c.add)
		slices.Reverse(turned)
		check(t, "Add", counts.Add(c.l, append(turned, c.add...)...), c.want, c.l, c.add)
	}
	check(t, "Add", counts.Add(nil), nil)
}

// P13.1: Add of each number that is none, to each wrong run, alone and beside others.
func TestAddWrong(t *testing.T) {
	for _, r := range wrong() {
		for _, n := range numbers() {
			checkAdd(t, list{r}, n)
			checkAdd(t, list{run(4, 5), r, run(2, 2), run(last-1, last)}, n, 3, n)
		}
	}
}

// two are two lists, and what they make: what one of both has, what both have, what a and not b has, and what b and not a has.
type two struct{ a, b, union, meet, less, more list }

// check holds what both make against what is wanted, and against the words.
func (c two) check(t *testing.T) {
	t.Helper()
	check(t, "Union", counts.Union(c.a, c.b), c.union, c.a, c.b)
	check(t, "Union", counts.Union(c.b, c.a), c.union, c.b, c.a)
	check(t, "Meet", counts.Meet(c.a, c.b), c.meet, c.a, c.b)
	check(t, "Meet", counts.Meet(c.b, c.a), c.meet, c.b, c.a)
	check(t, "Less", counts.Less(c.a, c.b), c.less, c.a, c.b)
	check(t, "Less", counts.Less(c.b, c.a), c.more, c.b, c.a)
	checkTwo(t, c.a, c.b)
	checkTwo(t, c.b, c.a)
}

// P13.2: what two lists make, of those that the words name.
func TestTwo(t *testing.T) {
	for _, c := range []two{
		{nil, nil, nil, nil, nil, nil},
		{list{}, nil, nil, nil, nil, nil},
		{list{}, list{}, nil, nil, nil, nil},
		{list{run(1, 3)}, nil, list{run(1, 3)}, nil, list{run(1, 3)}, nil},
		{list{run(1, last)}, list{}, list{run(1, last)}, nil, list{run(1, last)}, nil},
		{list{run(1, last)}, list{run(1, last)}, list{run(1, last)}, list{run(1, last)}, nil, nil},
		// All, and some of them.
		{list{run(1, last)}, list{run(3, 4)}, list{run(1, last)}, list{run(3, 4)}, list{run(1, 2), run(5, last)}, nil},
		{list{run(1, last)}, list{run(1, 1)}, list{run(1, last)}, list{run(1, 1)}, list{run(2, last)}, nil},
		{list{run(1, last)}, list{run(last, last)}, list{run(1, last)}, list{run(last, last)}, list{run(1, last-1)}, nil},
		{list{run(1, last)}, list{run(1, 1), run(last, last)}, list{run(1, last)}, list{run(1, 1), run(last, last)}, list{run(2, last-1)}, nil},
		// Apart, by one count and by more.
		{list{run(1, 1)}, list{run(3, 3)}, list{run(1, 1), run(3, 3)}, nil, list{run(1, 1)}, list{run(3, 3)}},
		{list{run(1, 2)}, list{run(6, 7)}, list{run(1, 2), run(6, 7)}, nil, list{run(1, 2)}, list{run(6, 7)}},
		{list{run(1, 1)}, list{run(last, last)}, list{run(1, 1), run(last, last)}, nil, list{run(1, 1)}, list{run(last, last)}},
		// Next to each other.
		{list{run(1, 2)}, list{run(3, 4)}, list{run(1, 4)}, nil, list{run(1, 2)}, list{run(3, 4)}},
		{list{run(1, last-1)}, list{run(last, last)}, list{run(1, last)}, nil, list{run(1, last-1)}, list{run(last, last)}},
		{list{run(1, 1), run(3, 3)}, list{run(2, 2)}, list{run(1, 3)}, nil, list{run(1, 1), run(3, 3)}, list{run(2, 2)}},
		{list{run(1, 1), run(3, 3), run(5, 5)}, list{run(2, 2), run(4, 4), run(6, 6)}, list{run(1, 6)}, nil, list{run(1, 1), run(3, 3), run(5, 5)}, list{run(2, 2), run(4, 4), run(6, 6)}},
		// One over the other, by one count and by more.
		{list{run(1, 3)}, list{run(3, 5)}, list{run(1, 5)}, list{run(3, 3)}, list{run(1, 2)}, list{run(4, 5)}},
		{list{run(1, 5)}, list{run(3, 9)}, list{run(1, 9)}, list{run(3, 5)}, list{run(1, 2)}, list{run(6, 9)}},
		{list{run(1, 2)}, list{run(2, 3)}, list{run(1, 3)}, list{run(2, 2)}, list{run(1, 1)}, list{run(3, 3)}},
		{list{run(1, last-1)}, list{run(2, last)}, list{run(1, last)}, list{run(2, last-1)}, list{run(1, 1)}, list{run(last, last)}},
		// Within each other, or they begin or end alike.
		{list{run(1, 9)}, list{run(3, 5)}, list{run(1, 9)}, list{run(3, 5)}, list{run(1, 2), run(6, 9)}, nil},
		{list{run(1, 9)}, list{run(1, 5)}, list{run(1, 9)}, list{run(1, 5)}, list{run(6, 9)}, nil},
		{list{run(1, 9)}, list{run(5, 9)}, list{run(1, 9)}, list{run(5, 9)}, list{run(1, 4)}, nil},
		{list{run(4, 7)}, list{run(4, 7)}, list{run(4, 7)}, list{run(4, 7)}, nil, nil},
		{list{run(4, 7)}, list{run(5, 6)}, list{run(4, 7)}, list{run(5, 6)}, list{run(4, 4), run(7, 7)}, nil},
		{list{run(1, 2), run(4, 4)}, list{run(1, 1), run(4, 5)}, list{run(1, 2), run(4, 5)}, list{run(1, 1), run(4, 4)}, list{run(2, 2)}, list{run(5, 5)}},
	} {
		c.check(t)
	}
}

// P13.2: what two lists of several runs make, by turns, in any order, and more than once.
func TestTwoOfSeveral(t *testing.T) {
	for _, c := range []two{
		// By turns.
		{
			list{run(1, 2), run(5, 6), run(9, 10)}, list{run(3, 4), run(7, 8)},
			list{run(1, 10)}, nil, list{run(1, 2), run(5, 6), run(9, 10)}, list{run(3, 4), run(7, 8)},
		},
		{
			list{run(1, 3), run(5, 7)}, list{run(2, 5), run(9, last)},
			list{run(1, 7), run(9, last)}, list{run(2, 3), run(5, 5)}, list{run(1, 1), run(6, 7)}, list{run(4, 4), run(9, last)},
		},
		{
			list{run(1, 20)}, list{run(2, 2), run(4, 4), run(6, 19)},
			list{run(1, 20)}, list{run(2, 2), run(4, 4), run(6, 19)}, list{run(1, 1), run(3, 3), run(5, 5), run(20, 20)}, nil,
		},
		{list{run(1, 1), run(4, 4)}, list{run(7, 7), run(9, 9)}, list{run(1, 1), run(4, 4), run(7, 7), run(9, 9)}, nil, list{run(1, 1), run(4, 4)}, list{run(7, 7), run(9, 9)}},
		// In any order, the same more than once, runs that touch.
		{list{run(5, 7), run(1, 3), run(1, 3)}, list{run(9, last), run(4, 5), run(2, 3)}, list{run(1, 7), run(9, last)}, list{run(2, 3), run(5, 5)}, list{run(1, 1), run(6, 7)}, list{run(4, 4), run(9, last)}},
		{list{run(3, 4), run(1, 2)}, list{run(2, 2), run(3, 3)}, list{run(1, 4)}, list{run(2, 3)}, list{run(1, 1), run(4, 4)}, nil},
		{list{run(1, 2), run(1, 9), run(3, 4)}, list{run(4, 6), run(5, 5)}, list{run(1, 9)}, list{run(4, 6)}, list{run(1, 3), run(7, 9)}, nil},
	} {
		c.check(t)
	}
}

// P13.2: what isn't right, in each list of each call, wherever it stands: as if it weren't there.
func TestTwoWrong(t *testing.T) {
	a, b := list{run(2, 5), run(last-3, last)}, list{run(1, 3), run(5, 6), run(last-1, last-1)}
	for _, r := range wrong() {
		for i := range len(b) + 1 {
			p, q := slices.Insert(slices.Clone(a), min(i, len(a)), r), slices.Insert(slices.Clone(b), i, r)
			for _, c := range [][2]list{{p, b}, {a, q}, {p, q}} {
				check(t, "Union", counts.Union(c[0], c[1]), list{run(1, 6), run(last-3, last)}, c[0], c[1])
				check(t, "Meet", counts.Meet(c[0], c[1]), list{run(2, 3), run(5, 5), run(last-1, last-1)}, c[0], c[1])
				check(t, "Less", counts.Less(c[0], c[1]), list{run(4, 4), run(last-3, last-2), run(last, last)}, c[0], c[1])
				check(t, "Less", counts.Less(c[1], c[0]), list{run(1, 1), run(6, 6)}, c[1], c[0])
			}
		}
		for _, none := range []list{nil, {}, {r}, {r, r}, wrong()} {
			check(t, "Union", counts.Union(none, a), a, none, a)
			check(t, "Union", counts.Union(a, none), a, a, none)
			check(t, "Union", counts.Union(none, list{r}), nil, none, r)
			check(t, "Meet", counts.Meet(none, a), nil, none, a)
			check(t, "Meet", counts.Meet(a, none), nil, a, none)
			check(t, "Less", counts.Less(none, a), nil, none, a)
			check(t, "Less", counts.Less(a, none), a, a, none)
		}
	}
}

// P13.3: Base, Most and Many, of lists that the words name.
func TestNumbers(t *testing.T) {
	for _, c := range []struct {
		l                list
		base, most, many int
	}{
		{nil, 0, 0, 0}, {list{}, 0, 0, 0},
		// With 1, and without it.
		{list{run(1, 1)}, 1, 1, 1}, {list{run(2, 2)}, 0, 2, 1}, {list{run(1, 5)}, 5, 5, 5}, {list{run(2, 5)}, 0, 5, 4}, {list{run(2, 3), run(5, 5)}, 0, 5, 3},
		{list{run(1, last)}, last, last, last}, {list{run(2, last)}, 0, last, last - 1}, {list{run(last, last)}, 0, last, 1}, {list{run(1, last-1)}, last - 1, last - 1, last - 1},
		{list{run(1, 3), run(5, 9)}, 3, 9, 8}, {list{run(1, 1), run(3, 3)}, 1, 3, 2}, {list{run(1, 1), run(last, last)}, 1, last, 2}, {list{run(1, last-2), run(last, last)}, last - 2, last, last - 1},
		// Next to each other, so that the base goes on.
		{list{run(1, 3), run(4, 9)}, 9, 9, 9}, {list{run(1, 1), run(2, 2), run(3, 3), run(5, 5)}, 3, 5, 4}, {list{run(1, last-1), run(last, last)}, last, last, last},
		// In any order.
		{list{run(5, 9), run(1, 3)}, 3, 9, 8}, {list{run(4, 9), run(1, 3)}, 9, 9, 9}, {list{run(3, 3), run(1, 1), run(2, 2)}, 3, 3, 3}, {list{run(last, last), run(1, last-1)}, last, last, last}, {list{run(9, 9), run(7, 7), run(2, 3)}, 0, 9, 4},
		{list{run(8, 9), run(1, 2), run(5, 5)}, 2, 9, 5},
		// One over the other, within each other, and the same more than once: each count is one.
		{list{run(1, 5), run(3, 9)}, 9, 9, 9}, {list{run(1, 9), run(3, 5)}, 9, 9, 9}, {list{run(3, 5), run(1, 9)}, 9, 9, 9}, {list{run(2, 9), run(3, 5)}, 0, 9, 8}, {list{run(1, 2), run(1, 2), run(1, 2)}, 2, 2, 2},
		{list{run(4, 4), run(4, 4)}, 0, 4, 1}, {list{run(1, last), run(1, last), run(1, last), run(7, 7)}, last, last, last}, {list{run(1, 1), run(1, 7)}, 7, 7, 7}, {list{run(1, 7), run(1, 1)}, 7, 7, 7},
		// What isn't right beside them.
		{list{run(0, 9)}, 0, 0, 0}, {list{run(0, 9), run(2, 3)}, 0, 3, 2}, {list{run(1, last+1)}, 0, 0, 0}, {list{run(2, 3), run(9, 8)}, 0, 3, 2}, {list{run(1, 3), run(4, last+1)}, 3, 3, 3},
		{list{run(1, 3), run(0, 4)}, 3, 3, 3}, {list{run(math.MinInt, math.MaxInt), run(1, 2)}, 2, 2, 2}, {list{run(last+1, last+1), run(5, 5)}, 0, 5, 1},
	} {
		checkNumbers(t, c.l, c.base, c.most, c.many)
		checkOne(t, c.l)
	}
	many := 0
	for _, n := range []int{1, 2, 3, 5, 8, 13} {
		many += n
	}
	checkNumbers(t, list{run(1, 1), run(3, 4), run(6, 8), run(10, 14), run(16, 23), run(25, 37)}, 1, 37, many)
}

// P13.3: what isn't right, wherever it stands, has nothing to be reckoned.
func TestNumbersWrong(t *testing.T) {
	checkNumbers(t, wrong(), 0, 0, 0)
	for _, r := range wrong() {
		checkNumbers(t, list{r}, 0, 0, 0)
		for i := range 3 {
			checkNumbers(t, slices.Insert(list{run(1, 2), run(6, 7)}, i, r), 2, 7, 4)
			checkNumbers(t, slices.Insert(list{run(6, 7), run(2, 3)}, i, r), 0, 7, 4)
			checkNumbers(t, slices.Insert(list{run(last, last), run(1, last-1)}, i, r), last, last, last)
		}
	}
}

// P13.1 to P13.3: all runs by numbers at which an answer may turn, alone and in pairs of lists, as the words say; how many are right is reckoned by hand.
func TestRunsByWords(t *testing.T) {
	all := runs(numbers())
	right := 0
	for _, r := range all {
		if counts.Right(list{r}) {
			right++
		}
		checkOne(t, list{r})
		for _, other := range []api.Run{run(1, 1), run(3, 4), run(1<<32, last-1), run(last, last), run(1, last), {}} {
			checkOne(t, list{r, other})
			checkOne(t, list{other, r})
			checkTwo(t, list{r}, list{other})
			checkTwo(t, list{other}, list{r})
		}
	}
	// 14 of the numbers are counts: each two of them, and each with itself, are a right run's.
	if right != 14*15/2 {
		t.Errorf("%d runs are right, want %d", right, 14*15/2)
	}
}

// counted is which of the counts up to some number a list has, reckoned one by one.
func counted(l list, most int) []bool {
	in := make([]bool, most+1)
	for _, r := range l {
		if !rightRun(r) {
			continue
		}
		for n := r.From; n <= r.To; n++ {
			in[n] = true
		}
	}
	return in
}

// checkCounted holds a list against which counts it is to have, one by one, and that it is right.
func checkCounted(t *testing.T, call string, got list, want []bool, args ...list) {
	t.Helper()
	if !rightByWords(got) {
		t.Fatalf("%s of %v = %v, which isn't right", call, args, got)
	}
	if len(got) > 0 && got[len(got)-1].To >= len(want) || !slices.Equal(counted(got, len(want)-1), want) {
		t.Fatalf("%s of %v = %v, want %v", call, args, got, want)
	}
}

// P13.1 and P13.3: all lists of up to three runs, right or not, by few numbers, count by count.
func TestOneCounted(t *testing.T) {
	for _, l := range sample.Lists(runs([]int{0, 1, 2, 3, 4, 6}), 3) {
		in := counted(l, 8)
		checkCounted(t, "Of", counts.Of(l...), in, l)
		base, most, many := 0, 0, 0
		for n := 0; n <= 8; n++ {
			if counts.Has(l, n) != in[n] {
				t.Fatalf("Has(%v, %d) = %t", l, n, !in[n])
			}
			if !in[n] {
				continue
			}
			if base == n-1 {
				base = n
			}
			most = n
			many++
		}
		checkNumbers(t, l, base, most, many)
		if got, want := counts.Right(l), rightByWords(l); got != want {
			t.Fatalf("Right(%v) = %t, want %t", l, got, want)
		}
	}
}

// P13.1: all lists of up to two runs by few numbers, and all lists of up to two numbers, count by count.
func TestAddCounted(t *testing.T) {
	for _, l := range sample.Lists(runs([]int{0, 1, 2, 3, 5}), 2) {
		for _, add := range sample.Lists([]int{-1, 0, 1, 2, 3, 4, 6, 7}, 2) {
			in := counted(l, 8)
			for _, n := range add {
				if n > 0 {
					in[n] = true
				}
			}
			checkCounted(t, fmt.Sprintf("Add of %v", add), counts.Add(l, add...), in, l)
		}
	}
}

// P13.2: all pairs of lists of up to two runs, right or not, by few numbers, count by count.
func TestTwoCounted(t *testing.T) {
	some := sample.Lists(append(runs([]int{1, 2, 3, 5}), run(0, 2)), 2)
	for _, a := range some {
		inA := counted(a, 6)
		for _, b := range some {
			inB := counted(b, 6)
			checkCounted(t, "Union", counts.Union(a, b), each(inA, inB, func(a, b bool) bool { return a || b }), a, b)
			checkCounted(t, "Meet", counts.Meet(a, b), each(inA, inB, func(a, b bool) bool { return a && b }), a, b)
			checkCounted(t, "Less", counts.Less(a, b), each(inA, inB, func(a, b bool) bool { return a && !b }), a, b)
		}
	}
}

// P13.1 to P13.3: drawn lists of more runs, as the words say, by all numbers that matter, and by small ones.
func TestDrawnByWords(t *testing.T) {
	var small []int
	for n := range 30 {
		small = append(small, n)
	}
	for seed := range 10000 {
		for _, some := range [][]int{numbers(), small} {
			roll := sample.Draw(seed)
			a, b := drawn(roll, some), drawn(roll, some)
			checkOne(t, a)
			checkTwo(t, a, b)
			checkTwo(t, counts.Of(a...), counts.Of(b...))
			var add []int
			for range roll(6) {
				add = append(add, some[roll(len(some))])
			}
			checkAdd(t, a, add...)
		}
	}
}

// P13.4: each set of counts has one right list, and no other one: so right lists are the same, if they have the same counts.
func TestRightOnce(t *testing.T) {
	var right []list
	for _, l := range sample.Lists(runs([]int{0, 1, 2, 3, 4, 5, 6}), 3) {
		if counts.Right(l) {
			right = append(right, l)
		}
	}
	// Runs of counts up to 6 that are apart number three at most, so each set of six counts has its list.
	if len(right) != 64 {
		t.Errorf("%d right lists of counts up to 6, want 64", len(right))
	}
	for i, a := range right {
		for j, b := range right {
			alike := slices.Equal(counted(a, 6), counted(b, 6))
			if alike != (i == j) || slices.Equal(a, b) != alike || slices.Equal(counts.Of(a...), counts.Of(b...)) != alike {
				t.Fatalf("%v and %v: alike %t", a, b, alike)
			}
			if less, more := counts.Less(a, b), counts.Less(b, a); (len(less) == 0 && len(more) == 0) != alike {
				t.Fatalf("%v and %v: less %v, more %v", a, b, less, more)
			}
		}
	}
}

// P13.4: what is answered for the same counts, on whatever way, is the same, run by run.
func TestWays(t *testing.T) {
	for seed := range 5000 {
		roll := sample.Draw(seed)
		a, b := drawn(roll, numbers()), drawn(roll, numbers())
		turned := slices.Clone(a)
		slices.Reverse(turned)
		of := counts.Of(a...)
		for _, l := range []list{
			counts.Of(turned...), counts.Of(append(slices.Clone(turned), a...)...), counts.Of(of...), counts.Add(a), counts.Add(turned), counts.Union(a, nil), counts.Union(nil, turned),
			counts.Union(turned, a), counts.Meet(a, turned), counts.Meet(a, list{run(1, last)}), counts.Less(a, nil), counts.Union(counts.Meet(a, b), counts.Less(a, b)),
			counts.Less(counts.Union(a, b), counts.Less(b, a)), counts.Less(list{run(1, last)}, counts.Less(list{run(1, last)}, a)),
		} {
			check(t, "another way", l, of, a, b)
		}
		for _, l := range []list{a, turned, of} {
			checkNumbers(t, l, counts.Base(a), counts.Most(a), counts.Many(a))
		}
		if got, want := counts.Many(counts.Union(a, b))+counts.Many(counts.Meet(a, b)), counts.Many(a)+counts.Many(b); got != want {
			t.Fatalf("%v and %v have %d together, want %d", a, b, got, want)
		}
		if got := counts.Many(counts.Less(a, b)) + counts.Many(counts.Meet(a, b)); got != counts.Many(a) {
			t.Fatalf("%v, and %v: %d", a, b, got)
		}
	}
}

// P13.4: counts that are added one by one, in any order, make the same list as all at once.
func TestOneByOne(t *testing.T) {
	for seed := range 500 {
		roll := sample.Draw(seed)
		var add []int
		for range roll(60) {
			add = append(add, roll(40)-2)
		}
		var l list
		for i, n := range add {
			l = counts.Add(l, n)
			check(t, "Add", l, counts.Add(nil, add[:i+1]...), add[:i+1])
		}
		turned := slices.Clone(add)
		slices.Reverse(turned)
		check(t, "Add", counts.Add(nil, turned...), l, turned)
		slices.Sort(turned)
		check(t, "Add", counts.Add(l, turned...), l, turned)
	}
}

// calls are all calls that answer lists, of two lists and some counts.
func calls() []func(a, b list, add []int) list {
	return []func(a, b list, add []int) list{
		func(a, _ list, _ []int) list { return counts.Of(a...) },
		func(a, _ list, add []int) list { return counts.Add(a, add...) },
		func(a, _ list, _ []int) list { return counts.Add(a) },
		func(_, _ list, add []int) list { return counts.Add(nil, add...) },
		func(a, b list, _ []int) list { return counts.Union(a, b) },
		func(a, _ list, _ []int) list { return counts.Union(a, nil) },
		func(_, b list, _ []int) list { return counts.Union(nil, b) },
		func(a, b list, _ []int) list { return counts.Meet(a, b) },
		func(a, _ list, _ []int) list { return counts.Meet(a, a) },
		func(a, b list, _ []int) list { return counts.Less(a, b) },
		func(a, _ list, _ []int) list { return counts.Less(a, nil) },
	}
}

// P13.1 to P13.3, and rule 5: what is handed in is as it was, also ahead of it and behind its end, and shares nothing with the answers.
func TestHandedIn(t *testing.T) {
	other := run(70, 77)
	for _, kept := range []list{
		{run(5, 7), run(1, 2), {}, run(3, 3), run(9, 8), run(0, 4), run(12, last), run(5, 7)},
		{run(1, 2), run(4, 5), run(7, 7), run(9, last)},
		{run(1, 2), run(3, 4), run(5, 6)},
		{run(1, 9), run(2, 3)},
		{run(9, 9), run(5, 5), run(1, 1)},
	} {
		a, b, add, keptAdd := slices.Clone(kept), slices.Clone(kept), []int{4, 0, 11, 3, last, 3}, []int{4, 0, 11, 3, last, 3}
		for n := range len(kept) + 1 {
			for m := range n + 1 {
				counts.Right(a[m:n])
				counts.Has(a[m:n], 4)
				counts.Base(a[m:n])
				counts.Most(a[m:n])
				counts.Many(a[m:n])
				for _, call := range calls() {
					got, again := call(a[m:n], b[:m], add[:3]), call(a[m:n], b[:m], add[:3])
					want := slices.Clone(got)
					for i := range got {
						got[i] = other
					}
					_ = append(got, other, other)
					if !slices.Equal(a, kept) || !slices.Equal(b, kept) || !slices.Equal(add, keptAdd) {
						t.Fatalf("of the runs from %d to %d: %v, %v and %v, was %v and %v", m, n, a, b, add, kept, keptAdd)
					}
					if !slices.Equal(again, want) {
						t.Fatalf("of the runs from %d to %d: %v, and again %v", m, n, want, again)
					}
				}
			}
		}
		for _, call := range calls() {
			p, q, some := slices.Clone(a), slices.Clone(b), slices.Clone(add)
			got := call(p, q, some)
			want := slices.Clone(got)
			for i := range p {
				p[i], q[i] = other, other
			}
			clear(some)
			if !slices.Equal(got, want) {
				t.Fatalf("the answer became %v, was %v", got, want)
			}
		}
	}
}

// P13.1 to P13.3, and rule 1: many runs, and many counts, in an order that is none.
func TestMany(t *testing.T) {
	const n = 1 << 16
	var odd, even list
	var add []int
	for i := range n {
		// 5 and n have nothing in common, so each place comes once.
		k := i * 5 % n
		odd, even, add = append(odd, run(2*k+1, 2*k+1)), append(even, run(2*k+2, 2*k+2)), append(add, 2*k+2)
	}
	of := counts.Of(odd...)
	if len(of) != n || !counts.Right(of) || counts.Right(odd) {
		t.Errorf("Of %d runs apart: %d", n, len(of))
	}
	checkNumbers(t, odd, 1, 2*n-1, n)
	checkNumbers(t, even, 0, 2*n, n)
	checkNumbers(t, append(slices.Clone(odd), even...), 2*n, 2*n, 2*n)
	check(t, "Union", counts.Union(odd, even), list{run(1, 2*n)})
	check(t, "Meet", counts.Meet(odd, even), nil)
	check(t, "Less", counts.Less(list{run(1, 2*n)}, odd), counts.Of(even...))
	check(t, "Add", counts.Add(odd, add...), list{run(1, 2*n)})
	check(t, "Add", counts.Add(nil, add...), counts.Of(even...))
	check(t, "Of", counts.Of(slices.Repeat(list{run(1, last)}, n)...), list{run(1, last)})
}

// Rule 6: each answer hangs on nothing that was called ahead of it.
func TestSameEachTime(t *testing.T) {
	for range 3 {
		for _, l := range []list{nil, {run(1, last)}, {run(5, 7), run(1, 2), run(3, 3)}, wrong(), {run(last, last), run(0, 1)}} {
			checkOne(t, l)
			checkTwo(t, l, list{run(2, 6), run(last, last)})
			checkTwo(t, list{run(2, 6), run(last, last)}, l)
			checkAdd(t, l, 4, 9, last)
		}
	}
}
