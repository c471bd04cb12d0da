package sample

import (
	"math"
	"slices"

	"winnower/api"
)

// Known is a replica with runs of its counts.
func Known(replica int, runs ...api.Run) api.Known {
	return api.Known{Replica: replica, Runs: runs}
}

// One is a replica with one count.
func One(replica, count int) api.Known {
	return Known(replica, Run(count, count))
}

// Ver is the count-th write of a replica.
func Ver(replica, count int) api.Version {
	return api.Version{Replica: replica, Count: count}
}

// NoReplicas are numbers that are no replica's.
func NoReplicas() []int {
	return []int{math.MinInt, math.MinInt + 1, -1 << 32, -256, -17, -16, -2, -1, 0, 17, 18, 32, 255, 256, 257, 272, 1 << 32, 1<<32 + 1, 1<<32 + 16, lastCount, math.MaxInt - 1, math.MaxInt}
}

// Nothing are Known that have nothing, each for another reason.
func Nothing() []api.Known {
	l := []api.Known{{}, Known(1), Known(2), Known(16), {Replica: 2, Runs: []api.Run{}}}
	for _, n := range NoReplicas() {
		l = append(l, Known(n), One(n, 1), Known(n, Run(1, lastCount)), Known(n, Run(1, 2), Run(4, 9)))
	}
	for _, r := range WrongRuns() {
		l = append(l, Known(1, r), Known(2, r, r), Known(16, r))
	}
	return append(l, Known(2, WrongRuns()...))
}

// Bent are Known that aren't right, and have just 2.3 and 2.4.
func Bent() []api.Known {
	l := []api.Known{
		Known(2, Run(3, 3), Run(4, 4)), Known(2, Run(4, 4), Run(3, 3)), Known(2, Run(3, 4), Run(3, 4)), Known(2, Run(3, 4), Run(4, 4)), Known(2, Run(3, 4), Run(3, 3)),
		Known(2, Run(3, 3), Run(3, 4)), Known(2, Run(4, 4), Run(3, 4)), Known(2, Run(3, 3), Run(4, 4), Run(3, 3)),
	}
	for _, r := range WrongRuns() {
		l = append(l, Known(2, r, Run(3, 4)), Known(2, Run(3, 4), r), Known(2, Run(4, 4), r, Run(3, 3)))
	}
	return l
}

// DrawnSet is a set by some numbers, right or not, that hangs on a draw.
func DrawnSet(roll func(int) int, numbers []int) []api.Known {
	var s []api.Known
	for range roll(7) {
		n := []int{1, 2, 3, 16, 1 + roll(16), NoReplicas()[roll(len(NoReplicas()))]}[roll(6)]
		s = append(s, Known(n, DrawnRuns(roll, numbers)...))
	}
	return s
}

// DrawnVersions are versions by some numbers, right or not, that hang on a draw.
func DrawnVersions(roll func(int) int, numbers []int) []api.Version {
	var l []api.Version
	for range roll(6) {
		l = append(l, Ver(roll(19)-1, numbers[roll(len(numbers))]))
	}
	return l
}

// EqualSets is whether two sets are the same, in all their numbers.
func EqualSets(a, b []api.Known) bool {
	return slices.EqualFunc(a, b, func(a, b api.Known) bool { return a.Replica == b.Replica && slices.Equal(a.Runs, b.Runs) })
}

// CloneSet is a set that shares nothing with another one.
func CloneSet(s []api.Known) []api.Known {
	var out []api.Known
	for _, k := range s {
		out = append(out, Known(k.Replica, slices.Clone(k.Runs)...))
	}
	return out
}

// TurnedSet is a set with its Known, and the runs of each, the last one first.
func TurnedSet(s []api.Known) []api.Known {
	out := CloneSet(s)
	slices.Reverse(out)
	for _, k := range out {
		slices.Reverse(k.Runs)
	}
	return out
}

// RightVersion is what the chapter of versions says that a right one is.
func RightVersion(v api.Version) bool {
	return v.Replica >= 1 && v.Replica <= 16 && v.Count >= 1 && v.Count <= 1099511627776
}

// RightSet is what the chapter of sets says that a right one is.
func RightSet(s []api.Known) bool {
	for i, k := range s {
		if k.Replica < 1 || k.Replica > 16 || len(k.Runs) == 0 || !RightRuns(k.Runs) {
			return false
		}
		if slices.ContainsFunc(s[:i], func(ahead api.Known) bool { return ahead.Replica >= k.Replica }) {
			return false
		}
	}
	return true
}

// HasVersion is what the chapter of sets says that one has.
func HasVersion(s []api.Known, v api.Version) bool {
	return RightVersion(v) && slices.ContainsFunc(s, func(k api.Known) bool { return k.Replica == v.Replica && HasCount(k.Runs, v.Count) })
}

// SetTurns are the counts from which on some sets may have others than ahead of them, of whatever replica, in order, 1 first.
func SetTurns(l ...[]api.Known) []int {
	var runs []api.Run
	for _, k := range slices.Concat(l...) {
		runs = append(runs, k.Runs...)
	}
	return Turns(runs)
}

// SetOf is the right set of the versions of which keep says so, by whether a has them, and b.
func SetOf(a, b []api.Known, keep func(inA, inB bool) bool) []api.Known {
	points := SetTurns(a, b)
	var s []api.Known
	for replica := 1; replica <= 16; replica++ {
		var in []bool
		for _, n := range points {
			v := Ver(replica, n)
			in = append(in, keep(HasVersion(a, v), HasVersion(b, v)))
		}
		if runs := RunsOf(in, points); len(runs) > 0 {
			s = append(s, Known(replica, runs...))
		}
	}
	return s
}

// OwnSet is the right set of what a set has.
func OwnSet(s []api.Known) []api.Known {
	return SetOf(s, nil, func(in, _ bool) bool { return in })
}

// Roomy is a set whose runs are the first ones of a longer list, and the list: behind the runs of each there is room, and behind that room the runs of the next one.
func Roomy(s []api.Known) ([]api.Known, []api.Run) {
	var runs [][]api.Run
	for _, k := range s {
		runs = append(runs, k.Runs)
	}
	rows, all := Laid(runs, Run(70, 77))
	var out []api.Known
	for i, k := range s {
		out = append(out, Known(k.Replica, rows[i]...))
	}
	return out, all
}

// Spoil writes over all of a set, and over what stands behind its lists.
func Spoil(s []api.Known) {
	for i, k := range s {
		for j := range k.Runs {
			k.Runs[j] = Run(90, 99)
		}
		_ = append(k.Runs, Run(90, 99), Run(90, 99))
		s[i].Replica = 9
	}
	_ = append(s, One(9, 9), One(9, 9))
}
