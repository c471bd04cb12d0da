package sample

import (
	"math"
	"slices"

	"winnower/api"
)

// lastCount is the greatest count.
const lastCount = 1 << 40

// Run is the run of the counts from one number to another.
func Run(from, to int) api.Run {
	return api.Run{From: from, To: to}
}

// Numbers are those at which an answer about counts may turn, in order: counts and others.
func Numbers() []int {
	return []int{
		math.MinInt, math.MinInt + 1, -1 << 40, -2, -1, 0, 1, 2, 3, 4, 6, 255, 256, 1<<31 - 1, 1 << 31, 1 << 32, 1<<32 + 1,
		lastCount - 2, lastCount - 1, lastCount, lastCount + 1, lastCount + 2, 1 << 48, math.MaxInt - 1, math.MaxInt,
	}
}

// Runs are those from each of some numbers to each, right or not.
func Runs(numbers []int) []api.Run {
	var l []api.Run
	for _, from := range numbers {
		for _, to := range numbers {
			l = append(l, Run(from, to))
		}
	}
	return l
}

// WrongRuns are runs that aren't right, each for another reason.
func WrongRuns() []api.Run {
	return []api.Run{
		{},
		// From below 1.
		Run(0, 1), Run(0, 5), Run(0, lastCount), Run(-1, 1), Run(-1, 5), Run(-5, -1), Run(-1, -1), Run(-lastCount, lastCount), Run(-lastCount, 5),
		Run(math.MinInt, 1), Run(math.MinInt, 5), Run(math.MinInt, lastCount), Run(math.MinInt, math.MinInt), Run(math.MinInt, -1), Run(math.MinInt, 0),
		// To below From.
		Run(1, 0), Run(2, 1), Run(9, 8), Run(9, 1), Run(9, 0), Run(5, -1), Run(5, -5), Run(lastCount, lastCount-1), Run(lastCount, 1), Run(1, math.MinInt), Run(lastCount, math.MinInt),
		// To above the greatest count.
		Run(1, lastCount+1), Run(5, lastCount+1), Run(lastCount, lastCount+1), Run(lastCount-1, lastCount+2), Run(1, 1<<48), Run(2, 1<<62), Run(1, math.MaxInt), Run(lastCount, math.MaxInt),
		// Both out of the counts.
		Run(0, 0), Run(lastCount+1, lastCount+1), Run(lastCount+1, lastCount+5), Run(0, lastCount+1), Run(math.MaxInt, math.MaxInt), Run(math.MaxInt-1, math.MaxInt), Run(math.MinInt, math.MaxInt),
		Run(lastCount+1, lastCount), Run(lastCount+2, lastCount+1), Run(0, -1), Run(math.MaxInt, math.MinInt), Run(math.MaxInt, 0), Run(math.MaxInt, 5),
	}
}

// DrawnRuns is a list of runs by some numbers, right or not, that hangs on a draw.
func DrawnRuns(roll func(int) int, numbers []int) []api.Run {
	var l []api.Run
	for range roll(9) {
		r := Run(numbers[roll(len(numbers))], numbers[roll(len(numbers))])
		if r.From > r.To && roll(8) > 0 {
			r.From, r.To = r.To, r.From
		}
		l = append(l, r)
	}
	return l
}

// RightRun is what the chapter of counts says that a right run is.
func RightRun(r api.Run) bool {
	return r.From >= 1 && r.To >= r.From && r.To <= lastCount
}

// RightRuns is what the chapter of counts says that a right list is.
func RightRuns(l []api.Run) bool {
	for i, r := range l {
		if !RightRun(r) || i > 0 && r.From < l[i-1].To+2 {
			return false
		}
	}
	return true
}

// HasCount is whether a list has a count, as the chapter of counts says it.
func HasCount(l []api.Run, n int) bool {
	return slices.ContainsFunc(l, func(r api.Run) bool { return RightRun(r) && n >= r.From && n <= r.To })
}

// Turns are the counts from which on some lists may have others than ahead of them, in order, 1 first.
func Turns(l ...[]api.Run) []int {
	points := []int{1}
	for _, r := range slices.Concat(l...) {
		if r.From >= 1 && r.From <= lastCount {
			points = append(points, r.From)
		}
		if r.To >= 1 && r.To < lastCount {
			points = append(points, r.To+1)
		}
	}
	slices.Sort(points)
	return slices.Compact(points)
}

// RunsOf is the right list that has those of some counts that are in, each with all behind it up to the next one.
func RunsOf(in []bool, points []int) []api.Run {
	var l []api.Run
	for i, n := range points {
		end := lastCount
		if i+1 < len(points) {
			end = points[i+1] - 1
		}
		switch {
		case in[i] && i > 0 && in[i-1]:
			l[len(l)-1].To = end
		case in[i]:
			l = append(l, Run(n, end))
		}
	}
	return l
}
