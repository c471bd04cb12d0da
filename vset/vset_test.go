package vset_test

import (
	"fmt"
	"maps"
	"math"
	"slices"
	"testing"

	"winnower/api"
	"winnower/sample"
	"winnower/vset"
)

// Short names of what all calls take.
type (
	list = []api.Run
	set  = []api.Known
)

// vector is what Vector answers: of each of the 16 replicas a number.
type vector = [16]int

// last is the greatest count.
const last = 1 << 40

// What sets are made by here: the tests of several layers have it together.
var (
	run, numbers     = sample.Run, sample.Numbers
	known, one, ver  = sample.Known, sample.One, sample.Ver
	others           = sample.NoReplicas
	nothing, bent    = sample.Nothing, sample.Bent
	equal, clone     = sample.EqualSets, sample.CloneSet
	drawnSet         = sample.DrawnSet
	drawnVersions    = sample.DrawnVersions
	turnedRound      = sample.TurnedSet
	rightVersion     = sample.RightVersion
	rightByWords     = sample.RightSet
	hasByWords       = sample.HasVersion
	turns            = sample.SetTurns
	setOf, ofByWords = sample.SetOf, sample.OwnSet
	roomy, spoil     = sample.Roomy, sample.Spoil
)

// check holds a set that was answered against what is wanted, number by number.
func check(t *testing.T, call string, got, want set, args ...any) {
	t.Helper()
	if !equal(got, want) {
		t.Fatalf("%s of %v = %v, want %v", call, args, got, want)
	}
	if !rightByWords(got) || !vset.Right(got) {
		t.Fatalf("%s of %v = %v, which isn't right", call, args, got)
	}
}

// checkNumbers holds Vector, and Most of each replica, and of what is none, against what is wanted.
func checkNumbers(t *testing.T, s set, bases, most vector) {
	t.Helper()
	if got := vset.Vector(s); got != bases {
		t.Fatalf("Vector(%v) = %v, want %v", s, got, bases)
	}
	for i, want := range most {
		if got := vset.Most(s, i+1); got != want {
			t.Fatalf("Most(%v, %d) = %d, want %d", s, i+1, got, want)
		}
	}
	for _, n := range others() {
		if got := vset.Most(s, n); got != 0 {
			t.Fatalf("Most(%v, %d) = %d, want 0", s, n, got)
		}
	}
}

// checkHas holds Has of a set and a version against the words.
func checkHas(t *testing.T, s set, v api.Version) {
	t.Helper()
	if got, want := vset.Has(s, v), hasByWords(s, v); got != want {
		t.Fatalf("Has(%v, %v) = %t, want %t", s, v, got, want)
	}
}

// checkAdd holds Add of a set and some versions against the words.
func checkAdd(t *testing.T, s set, l ...api.Version) {
	t.Helper()
	with := slices.Clone(s)
	for _, v := range l {
		if rightVersion(v) {
			with = append(with, one(v.Replica, v.Count))
		}
	}
	check(t, "Add", vset.Add(s, l...), ofByWords(with), s, l)
}

// checkOne holds all that is asked of one set against the chapter's words.
func checkOne(t *testing.T, s set) {
	t.Helper()
	if got, want := vset.Right(s), rightByWords(s); got != want {
		t.Fatalf("Right(%v) = %t, want %t", s, got, want)
	}
	want := ofByWords(s)
	check(t, "Of", vset.Of(s...), want, s)
	check(t, "Add", vset.Add(s), want, s)
	var bases, most vector
	for _, k := range want {
		if k.Runs[0].From == 1 {
			bases[k.Replica-1] = k.Runs[0].To
		}
		most[k.Replica-1] = k.Runs[len(k.Runs)-1].To
	}
	checkNumbers(t, s, bases, most)
	for _, n := range append(turns(s), 0, last, last+1) {
		for replica := range 19 {
			checkHas(t, s, ver(replica, n))
		}
	}
}

// checkTwo holds all that is asked of two sets against the chapter's words.
func checkTwo(t *testing.T, a, b set) {
	t.Helper()
	less := setOf(a, b, func(a, b bool) bool { return a && !b })
	more := setOf(a, b, func(a, b bool) bool { return b && !a })
	two{
		a: a, b: b, less: less, more: more,
		union: setOf(a, b, func(a, b bool) bool { return a || b }),
		meet:  setOf(a, b, func(a, b bool) bool { return a && b }),
	}.check(t)
}

// two are two sets, and what they make: what one of both has, what both have, what a and not b has, and what b and not a has.
type two struct{ a, b, union, meet, less, more set }

// check holds what both make, either way round, against what is wanted.
func (c two) check(t *testing.T) {
	t.Helper()
	check(t, "Union", vset.Union(c.a, c.b), c.union, c.a, c.b)
	check(t, "Union", vset.Union(c.b, c.a), c.union, c.b, c.a)
	check(t, "Meet", vset.Meet(c.a, c.b), c.meet, c.a, c.b)
	check(t, "Meet", vset.Meet(c.b, c.a), c.meet, c.b, c.a)
	check(t, "Less", vset.Less(c.a, c.b), c.less, c.a, c.b)
	check(t, "Less", vset.Less(c.b, c.a), c.more, c.b, c.a)
	within, round := len(c.less) == 0, len(c.more) == 0
	if got := vset.Within(c.a, c.b); got != within {
		t.Fatalf("Within(%v, %v) = %t, want %t", c.a, c.b, got, within)
	}
	if got := vset.Within(c.b, c.a); got != round {
		t.Fatalf("Within(%v, %v) = %t, want %t", c.b, c.a, got, round)
	}
	for _, got := range []bool{vset.Same(c.a, c.b), vset.Same(c.b, c.a)} {
		if got != (within && round) {
			t.Fatalf("Same of %v and %v = %t, want %t", c.a, c.b, got, within && round)
		}
	}
}

// P14.1 and P14.3: the chapter's example.
func TestExample(t *testing.T) {
	want := set{one(1, 5), known(2, run(1, 2))}
	s := vset.Add(nil, ver(2, 1), ver(2, 2), ver(1, 5))
	check(t, "Add", s, want)
	checkNumbers(t, s, vector{0, 2}, vector{5, 2})
	checkOne(t, s)
	for _, v := range []api.Version{ver(1, 5), ver(2, 1), ver(2, 2)} {
		if !vset.Has(s, v) {
			t.Errorf("Has(%v, %v) = false, want true", s, v)
		}
	}
	for _, v := range []api.Version{ver(1, 1), ver(1, 2), ver(1, 4), ver(1, 6), ver(2, 0), ver(2, 3), ver(2, 5), ver(3, 1), ver(3, 5), {}} {
		if vset.Has(s, v) {
			t.Errorf("Has(%v, %v) = true, want false", s, v)
		}
	}
	check(t, "Of", vset.Of(one(2, 2), one(1, 5), one(2, 1)), want)
	check(t, "Union", vset.Union(set{known(2, run(1, 2))}, set{one(1, 5)}), want)
}

// P14.1: Right, of sets that the words name.
func TestRight(t *testing.T) {
	var all set
	for n := 1; n <= 16; n++ {
		all = append(all, known(n, run(1, n), run(2*n+1, last)))
	}
	for _, s := range []set{
		nil, {}, {one(1, 1)}, {one(2, 1)}, {one(15, 7)}, {one(16, 1)}, {one(1, last)}, {known(1, run(1, last))}, {known(16, run(1, last))}, {known(3, run(1, 2), run(4, 4))}, {known(3, run(1, 1), run(3, last))},
		// Replicas that rise.
		{one(1, 1), one(2, 1)}, {one(1, 9), one(16, 1)}, {one(15, 9), one(16, 1)}, {one(1, 1), one(2, 1), one(3, 1)}, {one(2, last), one(3, 2), one(7, 2), one(16, 1)},
		{known(1, run(1, 2), run(4, 9)), known(2, run(1, 2), run(4, 9))}, all, all[3:], all[:1],
	} {
		if !vset.Right(s) {
			t.Errorf("Right(%v) = false, want true", s)
		}
		checkOne(t, s)
	}
	for _, s := range []set{
		// Replicas that fall.
		{one(2, 1), one(1, 1)}, {one(16, 1), one(1, 1)}, {one(16, 1), one(15, 1)}, {one(1, 1), one(3, 1), one(2, 1)}, {one(2, 1), one(1, 1), one(3, 1)}, {one(3, 1), one(2, 1), one(1, 1)}, {one(2, 1), one(3, 1), one(1, 1)},
		// The same one twice.
		{one(1, 1), one(1, 1)}, {one(16, 1), one(16, 1)}, {one(1, 1), one(1, 3)}, {one(1, 1), one(2, 1), one(2, 3)}, {one(1, 1), one(1, 3), one(2, 3)}, {one(1, 1), one(2, 1), one(1, 3)},
		// Ahead of the first one, and behind the last one.
		{one(0, 1)}, {one(17, 1)}, {one(0, 1), one(1, 1)}, {one(16, 1), one(17, 1)}, {one(-1, 1), one(1, 1)}, {one(1, 1), one(17, 1)},
		// No runs.
		{{}}, {known(1)}, {{Replica: 1, Runs: list{}}}, {known(16)}, {known(1), one(2, 1)}, {one(1, 1), known(2)}, {one(1, 1), known(2), one(3, 1)},
		// Runs that touch, stand over one another, or in no order.
		{known(1, run(1, 2), run(3, 4))}, {known(1, run(1, 3), run(3, 4))}, {known(1, run(1, 1), run(1, 1))}, {known(1, run(4, 4), run(1, 2))}, {one(1, 1), known(2, run(1, 2), run(3, 3))}, {known(1, run(3, 3), run(1, 1)), one(2, 1)},
		// Runs that aren't right.
		{known(1, run(0, 1))}, {known(1, run(2, 1))}, {known(1, run(1, last+1))}, {known(1, run(1, 1), run(3, last+1))}, {one(1, 0)}, {one(1, last+1)}, {one(1, 1), one(2, 0)}, {one(1, 0), one(2, 1)},
	} {
		if vset.Right(s) {
			t.Errorf("Right(%v) = true, want false", s)
		}
		checkOne(t, s)
	}
}

// P14.1: a set isn't right, if one of its Known isn't, wherever it stands.
func TestRightWrong(t *testing.T) {
	for _, k := range append(nothing(), bent()...) {
		for _, s := range []set{{k}, {k, k}, {one(1, 1), k}, {k, one(3, 1)}, {one(1, 1), k, one(3, 1)}, {one(1, 1), one(3, 1), k}, {k, one(1, 1), one(3, 1)}} {
			if vset.Right(s) {
				t.Errorf("Right(%v) = true, want false", s)
			}
		}
	}
}

// P14.1 to P14.3: each number as a replica, with right runs: of each it is written out whether it is one.
func TestEdgesOfReplicas(t *testing.T) {
	for _, c := range []struct {
		replica int
		want    bool
	}{
		{-1, false}, {0, false}, {1, true}, {2, true}, {8, true}, {15, true}, {16, true}, {17, false}, {18, false}, {256, false}, {257, false}, {1 << 32, false}, {1<<32 + 1, false},
		{math.MinInt, false}, {math.MaxInt, false}, {math.MinInt + 1, false}, {math.MaxInt - 14, false}, {-15, false}, {-16, false},
	} {
		s := set{known(c.replica, run(1, 3), run(5, last))}
		var own set
		var most int
		if c.want {
			own, most = s, last
		}
		if got := vset.Right(s); got != c.want {
			t.Errorf("Right(%v) = %t, want %t", s, got, c.want)
		}
		if got := vset.Has(s, ver(c.replica, 5)); got != c.want {
			t.Errorf("Has(%v, %d.5) = %t, want %t", s, c.replica, got, c.want)
		}
		if got := vset.Most(s, c.replica); got != most {
			t.Errorf("Most(%v, %d) = %d, want %d", s, c.replica, got, most)
		}
		check(t, "Of", vset.Of(s...), own, s)
		check(t, "Add", vset.Add(s), own, s)
		check(t, "Add", vset.Add(nil, ver(c.replica, 1), ver(c.replica, 3)), vset.Meet(own, set{known(c.replica, run(1, 1), run(3, 3))}), c.replica)
		two{a: s, b: nil, union: own, less: own}.check(t)
		two{a: s, b: s, union: own, meet: own}.check(t)
		checkOne(t, s)
	}
}

// P14.1: Has, of sets and versions that the words name.
func TestHas(t *testing.T) {
	for _, c := range []struct {
		s    set
		v    api.Version
		want bool
	}{
		{nil, ver(1, 1), false}, {set{}, ver(1, 1), false}, {nil, ver(16, last), false}, {nil, api.Version{}, false}, {set{{}}, api.Version{}, false},
		// Counts.
		{set{known(1, run(1, last))}, ver(1, 0), false}, {set{known(1, run(1, last))}, ver(1, 1), true}, {set{known(1, run(1, last))}, ver(1, last), true}, {set{known(1, run(1, last))}, ver(1, last+1), false},
		{set{known(1, run(1, last))}, ver(1, -1), false}, {set{known(1, run(1, last))}, ver(1, math.MinInt), false}, {set{known(1, run(1, last))}, ver(1, math.MaxInt), false},
		{set{known(1, run(3, 5), run(8, 9))}, ver(1, 2), false}, {set{known(1, run(3, 5), run(8, 9))}, ver(1, 3), true}, {set{known(1, run(3, 5), run(8, 9))}, ver(1, 6), false}, {set{known(1, run(3, 5), run(8, 9))}, ver(1, 9), true}, {set{known(1, run(3, 5), run(8, 9))}, ver(1, 10), false},
		// Replicas.
		{set{one(1, 7)}, ver(1, 7), true}, {set{one(1, 7)}, ver(2, 7), false}, {set{one(2, 7)}, ver(1, 7), false}, {set{one(16, 7)}, ver(16, 7), true}, {set{one(16, 7)}, ver(17, 7), false}, {set{one(1, 7)}, ver(0, 7), false},
		{set{one(0, 7)}, ver(0, 7), false}, {set{one(17, 7)}, ver(17, 7), false}, {set{one(-1, 7)}, ver(-1, 7), false}, {set{one(1, 7)}, ver(257, 7), false}, {set{one(1, 7)}, ver(1<<32+1, 7), false}, {set{one(257, 7)}, ver(1, 7), false},
		{set{one(7, 2)}, ver(2, 7), false},
		// Each replica by its own counts.
		{set{one(1, 7), one(2, 9)}, ver(1, 7), true}, {set{one(1, 7), one(2, 9)}, ver(1, 9), false}, {set{one(1, 7), one(2, 9)}, ver(2, 9), true}, {set{one(1, 7), one(2, 9)}, ver(2, 7), false}, {set{one(1, 7), one(3, 9)}, ver(2, 8), false},
		// In any order, the same replica more than once.
		{set{one(2, 9), one(1, 7)}, ver(1, 7), true}, {set{one(2, 9), one(1, 7)}, ver(2, 9), true}, {set{one(2, 9), one(1, 7), one(2, 4)}, ver(2, 4), true}, {set{one(2, 9), one(1, 7), one(2, 4)}, ver(2, 9), true}, {set{one(2, 9), one(1, 7), one(2, 4)}, ver(2, 7), false},
		{set{one(1, 1), one(1, 1)}, ver(1, 1), true}, {set{one(1, 1), one(1, 2)}, ver(1, 2), true}, {set{known(1), one(1, 2)}, ver(1, 2), true}, {set{one(1, 2), known(1)}, ver(1, 2), true},
		// Runs that aren't right, alone and beside others.
		{set{known(1, run(0, 9))}, ver(1, 5), false}, {set{known(1, run(1, last+1))}, ver(1, 5), false}, {set{known(1, run(9, 1))}, ver(1, 5), false}, {set{known(1, run(0, 9), run(5, 6))}, ver(1, 5), true}, {set{known(1, run(0, 9), run(5, 6))}, ver(1, 4), false},
		{set{known(1, run(5, 6), run(1, 2), run(2, 3))}, ver(1, 3), true}, {set{known(1, run(5, 6), run(1, 2), run(2, 3))}, ver(1, 4), false}, {set{one(1, 0)}, ver(1, 0), false}, {set{one(1, last+1)}, ver(1, last+1), false},
	} {
		if got := vset.Has(c.s, c.v); got != c.want {
			t.Errorf("Has(%v, %v) = %t, want %t", c.s, c.v, got, c.want)
		}
	}
}

// P14.1: no set has a version that isn't right.
func TestHasWrong(t *testing.T) {
	var all set
	for _, n := range append(others(), 1, 2, 3, 15, 16) {
		all = append(all, known(n, run(1, last)), known(n, run(0, last+1)), known(n, run(math.MinInt, math.MaxInt)), one(n, 0), one(n, last+1))
	}
	for _, replica := range append(others(), 1, 2, 15, 16) {
		for _, count := range numbers() {
			v := ver(replica, count)
			if got, want := vset.Has(all, v), rightVersion(v); got != want {
				t.Errorf("Has(%v, %v) = %t, want %t", all, v, got, want)
			}
			for _, k := range nothing() {
				if vset.Has(set{k}, v) || vset.Has(set{k, k}, v) {
					t.Errorf("Has(%v, %v) = true, want false", k, v)
				}
			}
		}
	}
}

// P14.1: Of, of sets that the words name.
func TestOf(t *testing.T) {
	for _, c := range []struct{ s, want set }{
		{nil, nil}, {set{}, nil}, {set{one(1, 1)}, set{one(1, 1)}}, {set{one(16, last)}, set{one(16, last)}}, {set{known(3, run(1, 2), run(4, 5))}, set{known(3, run(1, 2), run(4, 5))}},
		// In order, falling, and in no order.
		{set{one(1, 1), one(2, 2)}, set{one(1, 1), one(2, 2)}}, {set{one(2, 2), one(1, 1)}, set{one(1, 1), one(2, 2)}}, {set{one(16, 1), one(1, 1)}, set{one(1, 1), one(16, 1)}},
		{set{one(9, 3), one(16, 4), one(1, 1), one(2, 9)}, set{one(1, 1), one(2, 9), one(9, 3), one(16, 4)}}, {set{one(3, 1), one(2, 1), one(1, 1)}, set{one(1, 1), one(2, 1), one(3, 1)}},
		// The same replica more than once: beside another, next to another, over another, the same.
		{set{one(1, 1), one(1, 3)}, set{known(1, run(1, 1), run(3, 3))}}, {set{one(1, 3), one(1, 1)}, set{known(1, run(1, 1), run(3, 3))}}, {set{one(1, 1), one(1, 2)}, set{known(1, run(1, 2))}}, {set{one(1, 2), one(1, 1)}, set{known(1, run(1, 2))}},
		{set{known(1, run(1, 5)), known(1, run(3, 9))}, set{known(1, run(1, 9))}}, {set{one(1, 1), one(1, 1)}, set{one(1, 1)}}, {set{one(2, 1), one(1, 4), one(2, 2), one(1, 4), one(2, 3)}, set{one(1, 4), known(2, run(1, 3))}},
		{set{known(2, run(1, 1), run(5, 5)), one(1, 1), known(2, run(2, 4))}, set{one(1, 1), known(2, run(1, 5))}}, {set{known(16, run(1, last-1)), one(16, last)}, set{known(16, run(1, last))}},
		// Replicas that are next to each other, with counts that are, stay apart.
		{set{known(1, run(1, 2)), known(2, run(3, 4))}, set{known(1, run(1, 2)), known(2, run(3, 4))}}, {set{one(2, 1), one(1, 1)}, set{one(1, 1), one(2, 1)}}, {set{one(1, last), one(2, 1)}, set{one(1, last), one(2, 1)}},
		// Runs in any order, and such as touch.
		{set{known(1, run(3, 4), run(1, 2))}, set{known(1, run(1, 4))}}, {set{known(1, run(8, 9), run(1, 2), run(2, 3))}, set{known(1, run(1, 3), run(8, 9))}}, {set{known(1, run(1, 1), run(1, 1))}, set{one(1, 1)}},
		// What has nothing: no replica, no runs, wrong ones; alone and beside others.
		{set{{}}, nil}, {set{known(1)}, nil}, {set{{Replica: 16, Runs: list{}}}, nil}, {set{one(0, 1)}, nil}, {set{one(17, 1)}, nil}, {set{one(1, 0)}, nil}, {set{one(1, last+1)}, nil}, {set{known(1, run(2, 1))}, nil},
		{set{known(1), one(2, 1)}, set{one(2, 1)}}, {set{one(1, 1), known(2)}, set{one(1, 1)}}, {set{one(0, 1), one(1, 1), one(16, 1), one(17, 1)}, set{one(1, 1), one(16, 1)}}, {set{known(1, run(0, 2), run(5, 6)), known(2, run(9, 8))}, set{known(1, run(5, 6))}},
		{set{known(1), one(1, 1), known(1)}, set{one(1, 1)}}, {set{one(1, 0), one(1, 1)}, set{one(1, 1)}}, {set{one(1, last), one(1, last+1)}, set{one(1, last)}},
		{set{known(2, run(1, 3)), one(1, 4), known(2, run(4, 6)), one(17, 1), known(3)}, set{one(1, 4), known(2, run(1, 6))}},
	} {
		check(t, "Of", vset.Of(c.s...), c.want, c.s)
		check(t, "Of", vset.Of(turnedRound(c.s)...), c.want, c.s)
		check(t, "Of", vset.Of(append(clone(c.s), turnedRound(c.s)...)...), c.want, c.s)
		checkOne(t, c.s)
		two{a: c.s, b: c.want, union: c.want, meet: c.want}.check(t)
	}
	check(t, "Of", vset.Of(), nil)
}

// P14.1: Of leaves out what has nothing, wherever it stands, and takes what the others have.
func TestOfWrong(t *testing.T) {
	check(t, "Of", vset.Of(nothing()...), nil)
	check(t, "Of", vset.Of(bent()...), set{known(2, run(3, 4))})
	check(t, "Of", vset.Of(append(nothing(), append(bent(), nothing()...)...)...), set{known(2, run(3, 4))})
	own := set{known(1, run(4, 4), run(9, last)), known(2, run(1, 1), run(6, 6)), one(16, last)}
	for i := range len(own) + 1 {
		for _, k := range nothing() {
			check(t, "Of", vset.Of(k), nil, k)
			check(t, "Of", vset.Of(k, k), nil, k)
			check(t, "Of", vset.Of(slices.Insert(clone(own), i, k)...), own, i, k)
			check(t, "Of", vset.Of(slices.Insert(clone(own), i, k, k)...), own, i, k)
		}
		for _, k := range bent() {
			check(t, "Of", vset.Of(k), set{known(2, run(3, 4))}, k)
			check(t, "Of", vset.Of(slices.Insert(clone(own), i, k)...), set{own[0], known(2, run(1, 1), run(3, 4), run(6, 6)), own[2]}, i, k)
		}
	}
}

// P14.1: Add, of sets and versions that the words name.
func TestAdd(t *testing.T) {
	for _, c := range []struct {
		s    set
		l    []api.Version
		want set
	}{
		// No version.
		{nil, nil, nil}, {set{}, []api.Version{}, nil}, {set{one(1, 1)}, nil, set{one(1, 1)}}, {set{one(2, 1), one(1, 1), known(3)}, nil, set{one(1, 1), one(2, 1)}},
		// To none.
		{nil, []api.Version{ver(1, 1)}, set{one(1, 1)}}, {nil, []api.Version{ver(16, last)}, set{one(16, last)}}, {nil, []api.Version{ver(1, last)}, set{one(1, last)}}, {nil, []api.Version{ver(16, 1)}, set{one(16, 1)}},
		{nil, []api.Version{ver(2, 1), ver(2, 2), ver(1, 5)}, set{one(1, 5), known(2, run(1, 2))}}, {nil, []api.Version{ver(3, 3), ver(3, 1)}, set{known(3, run(1, 1), run(3, 3))}}, {nil, []api.Version{ver(3, 3), ver(3, 1), ver(3, 2)}, set{known(3, run(1, 3))}},
		// The same more than once.
		{nil, []api.Version{ver(1, 1), ver(1, 1)}, set{one(1, 1)}}, {nil, []api.Version{ver(4, 7), ver(3, 7), ver(4, 7)}, set{one(3, 7), one(4, 7)}}, {set{one(1, 1)}, []api.Version{ver(1, 1), ver(1, 1)}, set{one(1, 1)}},
		// What isn't right.
		{nil, []api.Version{{}}, nil}, {nil, []api.Version{ver(0, 1)}, nil}, {nil, []api.Version{ver(17, 1)}, nil}, {nil, []api.Version{ver(1, 0)}, nil}, {nil, []api.Version{ver(1, last+1)}, nil}, {nil, []api.Version{ver(-1, 1), ver(1, -1)}, nil},
		{set{one(1, 1)}, []api.Version{ver(0, 2), ver(17, 2), ver(1, 0), ver(1, last+1), {}}, set{one(1, 1)}}, {nil, []api.Version{ver(0, 1), ver(1, 1), ver(17, 1), ver(16, 1), ver(2, 0), ver(2, 2)}, set{one(1, 1), one(2, 2), one(16, 1)}},
		{set{known(1, run(1, last))}, []api.Version{ver(1, 0), ver(1, last+1)}, set{known(1, run(1, last))}},
		// To a replica that it has: ahead, next to a run, in it, between two, behind.
		{set{known(5, run(3, 5))}, []api.Version{ver(5, 1)}, set{known(5, run(1, 1), run(3, 5))}}, {set{known(5, run(3, 5))}, []api.Version{ver(5, 2)}, set{known(5, run(2, 5))}}, {set{known(5, run(3, 5))}, []api.Version{ver(5, 3)}, set{known(5, run(3, 5))}},
		{set{known(5, run(3, 5))}, []api.Version{ver(5, 6)}, set{known(5, run(3, 6))}}, {set{known(5, run(3, 5))}, []api.Version{ver(5, 7)}, set{known(5, run(3, 5), run(7, 7))}}, {set{known(5, run(1, 2), run(4, 5))}, []api.Version{ver(5, 3)}, set{known(5, run(1, 5))}},
		{set{known(5, run(1, last-1))}, []api.Version{ver(5, last)}, set{known(5, run(1, last))}}, {set{known(5, run(2, last))}, []api.Version{ver(5, 1)}, set{known(5, run(1, last))}},
		// To one that it hasn't: ahead of those that it has, between them, behind.
		{set{one(5, 3)}, []api.Version{ver(4, 3)}, set{one(4, 3), one(5, 3)}}, {set{one(5, 3)}, []api.Version{ver(6, 4)}, set{one(5, 3), one(6, 4)}}, {set{one(1, 3), one(16, 3)}, []api.Version{ver(7, 3)}, set{one(1, 3), one(7, 3), one(16, 3)}},
		{set{one(2, 3)}, []api.Version{ver(16, 1), ver(1, 1)}, set{one(1, 1), one(2, 3), one(16, 1)}}, {set{one(2, 3)}, []api.Version{ver(3, 4), ver(2, 4), ver(1, 4)}, set{one(1, 4), known(2, run(3, 4)), one(3, 4)}},
		// To sets that aren't right.
		{set{one(2, 1), one(1, 1), one(2, 3)}, []api.Version{ver(2, 2)}, set{one(1, 1), known(2, run(1, 3))}}, {set{known(1), one(0, 1), one(17, 1)}, []api.Version{ver(1, 3)}, set{one(1, 3)}}, {set{known(1, run(0, 9), run(4, 4))}, []api.Version{ver(1, 5)}, set{known(1, run(4, 5))}},
		{set{one(0, 1), one(1, 0)}, []api.Version{ver(0, 1), ver(1, 0)}, nil},
	} {
		check(t, "Add", vset.Add(c.s, c.l...), c.want, c.s, c.l)
		checkAdd(t, c.s, c.l...)
		turned := slices.Clone(c.l)
		slices.Reverse(turned)
		check(t, "Add", vset.Add(turnedRound(c.s), append(turned, c.l...)...), c.want, c.s, c.l)
	}
	check(t, "Add", vset.Add(nil), nil)
}

// P14.1: Add of each version by numbers that matter, to what has nothing, and to sets that aren't right.
func TestAddWrong(t *testing.T) {
	own := set{known(1, run(1, 1), run(6, 6)), one(16, last)}
	for _, replica := range append(others(), 1, 2, 16) {
		for _, count := range numbers() {
			v := ver(replica, count)
			checkAdd(t, nil, v)
			checkAdd(t, nothing(), v, ver(3, 4), v)
			checkAdd(t, own, ver(1, 2), v, ver(2, 2))
			checkAdd(t, turnedRound(own), v, v)
		}
	}
	for i := range len(own) + 1 {
		for _, k := range nothing() {
			check(t, "Add", vset.Add(set{k}, ver(2, 7)), set{one(2, 7)}, k)
			check(t, "Add", vset.Add(slices.Insert(clone(own), i, k), ver(16, 1), ver(1, 2), ver(0, 1)), set{known(1, run(1, 2), run(6, 6)), known(16, run(1, 1), run(last, last))}, i, k)
		}
		for _, k := range bent() {
			check(t, "Add", vset.Add(slices.Insert(clone(own), i, k), ver(2, 2), ver(2, 6)), set{own[0], known(2, run(2, 4), run(6, 6)), own[1]}, i, k)
		}
	}
}

// P14.2: what two sets of one replica each make, and of none.
func TestTwo(t *testing.T) {
	all := func(replica int) set { return set{known(replica, run(1, last))} }
	for _, c := range []two{
		{a: nil, b: nil}, {a: set{}, b: nil}, {a: set{}, b: set{}}, {a: nil, b: set{{}}},
		{a: set{one(1, 1)}, union: set{one(1, 1)}, less: set{one(1, 1)}}, {a: all(16), b: set{}, union: all(16), less: all(16)}, {a: all(3), b: all(3), union: all(3), meet: all(3)},
		// The same replica.
		{set{one(1, 1)}, set{one(1, 1)}, set{one(1, 1)}, set{one(1, 1)}, nil, nil},
		{set{one(1, 1)}, set{one(1, 2)}, set{known(1, run(1, 2))}, nil, set{one(1, 1)}, set{one(1, 2)}},
		{set{one(1, 1)}, set{one(1, 3)}, set{known(1, run(1, 1), run(3, 3))}, nil, set{one(1, 1)}, set{one(1, 3)}},
		{set{known(4, run(1, 5))}, set{known(4, run(3, 9))}, set{known(4, run(1, 9))}, set{known(4, run(3, 5))}, set{known(4, run(1, 2))}, set{known(4, run(6, 9))}},
		{set{known(4, run(1, 9))}, set{known(4, run(3, 5))}, set{known(4, run(1, 9))}, set{known(4, run(3, 5))}, set{known(4, run(1, 2), run(6, 9))}, nil},
		{set{known(4, run(1, 9))}, set{known(4, run(1, 9))}, set{known(4, run(1, 9))}, set{known(4, run(1, 9))}, nil, nil},
		{all(16), set{one(16, last)}, all(16), set{one(16, last)}, set{known(16, run(1, last-1))}, nil},
		{all(16), set{one(16, 1)}, all(16), set{one(16, 1)}, set{known(16, run(2, last))}, nil},
		{
			set{known(2, run(1, 1), run(3, 3), run(5, 5))}, set{known(2, run(2, 2), run(4, 4), run(6, 6))}, set{known(2, run(1, 6))}, nil,
			set{known(2, run(1, 1), run(3, 3), run(5, 5))}, set{known(2, run(2, 2), run(4, 4), run(6, 6))},
		},
		// Another one, with the same counts, and with others.
		{set{one(1, 1)}, set{one(2, 1)}, set{one(1, 1), one(2, 1)}, nil, set{one(1, 1)}, set{one(2, 1)}},
		{set{one(16, 1)}, set{one(1, 1)}, set{one(1, 1), one(16, 1)}, nil, set{one(16, 1)}, set{one(1, 1)}},
		{set{known(1, run(1, 9))}, set{known(2, run(3, 4))}, set{known(1, run(1, 9)), known(2, run(3, 4))}, nil, set{known(1, run(1, 9))}, set{known(2, run(3, 4))}},
		{all(15), all(16), append(all(15), all(16)...), nil, all(15), all(16)},
		// What is no replica, and what has no right run, with the same numbers.
		{a: set{one(0, 1)}, b: set{one(0, 1)}}, {a: set{one(17, 1)}, b: set{one(17, 1)}}, {a: set{known(1)}, b: set{known(1)}}, {a: set{one(1, 0)}, b: set{one(1, 0)}}, {a: set{one(1, last+1)}, b: nil},
		{set{one(17, 1)}, set{one(1, 1)}, set{one(1, 1)}, nil, nil, set{one(1, 1)}},
	} {
		c.check(t)
		checkTwo(t, c.a, c.b)
	}
}

// P14.2: what two sets of several replicas make: with the same ones, with some in common, and with none.
func TestTwoOfSeveral(t *testing.T) {
	for _, c := range []two{
		// The same.
		{
			set{one(1, 1), one(2, 2)}, set{one(1, 1), one(2, 3)},
			set{one(1, 1), known(2, run(2, 3))}, set{one(1, 1)}, set{one(2, 2)}, set{one(2, 3)},
		},
		{
			set{known(1, run(1, 3)), known(2, run(1, 3)), known(3, run(1, 3))}, set{known(1, run(1, 3)), known(2, run(2, 2)), known(3, run(3, 4))},
			set{known(1, run(1, 3)), known(2, run(1, 3)), known(3, run(1, 4))}, set{known(1, run(1, 3)), known(2, run(2, 2)), one(3, 3)}, set{known(2, run(1, 1), run(3, 3)), known(3, run(1, 2))}, set{one(3, 4)},
		},
		{
			set{known(1, run(1, last)), known(16, run(1, last))}, set{known(1, run(1, last)), known(16, run(1, last))},
			set{known(1, run(1, last)), known(16, run(1, last))}, set{known(1, run(1, last)), known(16, run(1, last))}, nil, nil,
		},
		{set{one(1, 1), one(2, 2)}, set{one(1, 2), one(2, 1)}, set{known(1, run(1, 2)), known(2, run(1, 2))}, nil, set{one(1, 1), one(2, 2)}, set{one(1, 2), one(2, 1)}},
		// Some.
		{
			set{known(1, run(1, 5)), known(2, run(1, 5))}, set{known(2, run(4, 9)), known(3, run(4, 9))},
			set{known(1, run(1, 5)), known(2, run(1, 9)), known(3, run(4, 9))}, set{known(2, run(4, 5))}, set{known(1, run(1, 5)), known(2, run(1, 3))}, set{known(2, run(6, 9)), known(3, run(4, 9))},
		},
		{
			set{one(1, 7), one(8, 7), one(16, 7)}, set{one(8, 7)},
			set{one(1, 7), one(8, 7), one(16, 7)}, set{one(8, 7)}, set{one(1, 7), one(16, 7)}, nil,
		},
		{
			set{one(2, 4), known(6, run(1, 6))}, set{one(1, 3), one(2, 4), one(3, 5), one(6, 3), one(15, 1)},
			set{one(1, 3), one(2, 4), one(3, 5), known(6, run(1, 6)), one(15, 1)}, set{one(2, 4), one(6, 3)}, set{known(6, run(1, 2), run(4, 6))}, set{one(1, 3), one(3, 5), one(15, 1)},
		},
		// None.
		{set{one(1, 1), one(3, 1)}, set{one(2, 1), one(4, 1)}, set{one(1, 1), one(2, 1), one(3, 1), one(4, 1)}, nil, set{one(1, 1), one(3, 1)}, set{one(2, 1), one(4, 1)}},
		{set{one(15, 1), one(16, 1)}, set{one(1, 1), one(2, 1)}, set{one(1, 1), one(2, 1), one(15, 1), one(16, 1)}, nil, set{one(15, 1), one(16, 1)}, set{one(1, 1), one(2, 1)}},
		// In any order, the same replica more than once, runs that touch.
		{
			set{one(2, 2), one(1, 1), one(2, 1)}, set{one(3, 3), known(2, run(3, 4), run(2, 2)), one(3, 3)},
			set{one(1, 1), known(2, run(1, 4)), one(3, 3)}, set{one(2, 2)}, set{one(1, 1), one(2, 1)}, set{known(2, run(3, 4)), one(3, 3)},
		},
		{set{one(2, 2), one(1, 1), one(2, 1)}, set{known(2, run(1, 2)), one(1, 1)}, set{one(1, 1), known(2, run(1, 2))}, set{one(1, 1), known(2, run(1, 2))}, nil, nil},
		{set{one(1, 1), one(1, 3)}, set{known(1, run(1, 3)), known(2), one(17, 1)}, set{known(1, run(1, 3))}, set{known(1, run(1, 1), run(3, 3))}, nil, set{one(1, 2)}},
	} {
		c.check(t)
		checkTwo(t, c.a, c.b)
		c.a, c.b = turnedRound(c.a), append(clone(c.b), turnedRound(c.b)...)
		c.check(t)
	}
}

// P14.2: what has nothing, in each set of each call, wherever it stands: as if it weren't there; and what isn't right and has something.
func TestTwoWrong(t *testing.T) {
	c := two{
		set{known(1, run(2, 5)), one(2, 1), known(16, run(last-3, last))}, set{known(1, run(1, 3)), known(2, run(1, 6)), one(16, last-1)},
		set{known(1, run(1, 5)), known(2, run(1, 6)), known(16, run(last-3, last))}, set{known(1, run(2, 3)), one(2, 1), one(16, last-1)},
		set{known(1, run(4, 5)), known(16, run(last-3, last-2), run(last, last))}, set{one(1, 1), known(2, run(2, 6))},
	}
	with := func(s set, i int, k api.Known) set { return slices.Insert(clone(s), i, k) }
	for i := range len(c.a) + 1 {
		for _, k := range nothing() {
			p, q := with(c.a, i, k), with(c.b, i, k)
			for _, d := range [][2]set{{p, c.b}, {c.a, q}, {p, q}} {
				two{d[0], d[1], c.union, c.meet, c.less, c.more}.check(t)
			}
		}
		for _, k := range bent() {
			two{
				with(c.a, i, k), c.b, c.union, set{known(1, run(2, 3)), known(2, run(1, 1), run(3, 4)), one(16, last-1)},
				c.less, set{one(1, 1), known(2, run(2, 2), run(5, 6))},
			}.check(t)
			two{c.a, with(c.b, i, k), c.union, c.meet, c.less, c.more}.check(t)
		}
	}
	for _, k := range nothing() {
		for _, none := range []set{nil, {}, {k}, {k, k}, nothing()} {
			two{a: none, b: c.a, union: c.a, more: c.a}.check(t)
			two{a: none, b: set{k}}.check(t)
		}
	}
}

// P14.3: Vector and Most, of sets that the words name.
func TestNumbers(t *testing.T) {
	for _, c := range []struct {
		s           set
		bases, most vector
	}{
		{nil, vector{}, vector{}}, {set{}, vector{}, vector{}}, {set{{}}, vector{}, vector{}},
		// With 1, and without it.
		{set{one(1, 1)}, vector{1}, vector{1}}, {set{one(1, 2)}, vector{}, vector{2}}, {set{known(1, run(1, 5))}, vector{5}, vector{5}}, {set{known(1, run(2, 5))}, vector{}, vector{5}}, {set{known(1, run(1, 3), run(5, 9))}, vector{3}, vector{9}},
		{set{known(1, run(1, last))}, vector{last}, vector{last}}, {set{known(1, run(2, last))}, vector{}, vector{last}}, {set{one(1, last)}, vector{}, vector{last}}, {set{known(1, run(1, 1), run(last, last))}, vector{1}, vector{last}},
		// Each replica at its place.
		{set{one(2, 1)}, vector{0, 1}, vector{0, 1}}, {set{one(3, 7)}, vector{}, vector{0, 0, 7}}, {set{known(16, run(1, 4))}, vector{15: 4}, vector{15: 4}}, {set{known(15, run(1, 4)), one(16, 9)}, vector{14: 4}, vector{14: 4, 15: 9}},
		{set{known(1, run(1, 3)), known(2, run(2, 3)), known(3, run(1, 1), run(3, 3))}, vector{3, 0, 1}, vector{3, 3, 3}}, {set{one(1, 5), known(2, run(1, 2))}, vector{0, 2}, vector{5, 2}},
		// What is no replica.
		{set{known(0, run(1, 5))}, vector{}, vector{}}, {set{known(17, run(1, 5))}, vector{}, vector{}}, {set{known(-1, run(1, 5)), known(1, run(1, 2)), known(18, run(1, 5))}, vector{2}, vector{2}}, {set{known(257, run(1, 5))}, vector{}, vector{}},
		// No runs, and runs that aren't right.
		{set{known(1)}, vector{}, vector{}}, {set{known(1, run(0, 5))}, vector{}, vector{}}, {set{known(1, run(1, last+1))}, vector{}, vector{}}, {set{known(1, run(1, 2), run(9, 8), run(0, 4))}, vector{2}, vector{2}}, {set{known(4, run(1, 3), run(4, last+1))}, vector{3: 3}, vector{3: 3}},
		// In any order, the same replica more than once: the base goes on from one to the next, whichever comes first.
		{set{one(2, 1), one(1, 1)}, vector{1, 1}, vector{1, 1}}, {set{known(1, run(1, 3)), known(1, run(4, 9))}, vector{9}, vector{9}}, {set{known(1, run(4, 9)), known(1, run(1, 3))}, vector{9}, vector{9}}, {set{known(1, run(1, 3)), known(1, run(5, 9))}, vector{3}, vector{9}},
		{set{known(1, run(5, 9)), known(1, run(1, 3))}, vector{3}, vector{9}}, {set{known(1, run(2, 9)), one(1, 1)}, vector{9}, vector{9}}, {set{one(1, 7), one(2, 1), one(1, 2), one(1, 1)}, vector{2, 1}, vector{7, 1}}, {set{one(1, 1), known(1), one(1, 2)}, vector{2}, vector{2}},
		{set{known(1, run(1, 9)), known(1, run(2, 3))}, vector{9}, vector{9}}, {set{known(1, run(2, 3)), known(1, run(1, 9))}, vector{9}, vector{9}}, {set{one(2, 3), one(1, 1), one(2, 2)}, vector{1}, vector{1, 3}},
		{set{known(1, run(3, 4), run(1, 2))}, vector{4}, vector{4}}, {set{known(1, run(8, 9), run(2, 3))}, vector{}, vector{9}},
	} {
		checkNumbers(t, c.s, c.bases, c.most)
		checkOne(t, c.s)
	}
	var all set
	var bases, most vector
	for n := 16; n >= 1; n-- {
		all = append(all, known(n, run(1, 10*n), run(100*n, 100*n)))
		bases[n-1], most[n-1] = 10*n, 100*n
	}
	checkNumbers(t, all, bases, most)
}

// P14.3: what has nothing, wherever it stands, has no number; and what isn't right and has something.
func TestNumbersWrong(t *testing.T) {
	checkNumbers(t, nothing(), vector{}, vector{})
	checkNumbers(t, bent(), vector{}, vector{1: 4})
	own := set{known(1, run(1, 2), run(6, 7)), known(2, run(1, 2)), one(16, last)}
	for i := range len(own) + 1 {
		for _, k := range nothing() {
			checkNumbers(t, set{k}, vector{}, vector{})
			checkNumbers(t, slices.Insert(clone(own), i, k), vector{2, 2}, vector{7, 2, 15: last})
		}
		for _, k := range bent() {
			checkNumbers(t, slices.Insert(clone(own), i, k), vector{2, 4}, vector{7, 4, 15: last})
		}
	}
}

// P14.1 to P14.3: all runs by numbers at which an answer may turn, of each of some replicas, as the words say; how many are right is reckoned by hand.
func TestRunsByWords(t *testing.T) {
	right := 0
	for _, r := range sample.Runs(numbers()) {
		for _, replica := range []int{0, 1, 16, 17} {
			s := set{known(replica, r)}
			if vset.Right(s) {
				right++
			}
			checkOne(t, s)
			checkOne(t, append(s, known(1, run(1, 3), run(last, last))))
			checkTwo(t, s, set{known(1, run(2, 4), run(last-1, last)), known(16, run(1, 1<<32))})
		}
	}
	// 14 of the numbers are counts: each two of them, and each with itself, are a right run's; two of the four are replicas.
	if right != 2*14*15/2 {
		t.Errorf("%d sets are right, want %d", right, 2*14*15/2)
	}
}

// counted are the versions of small counts that a set has, reckoned one by one.
func counted(s set) map[api.Version]bool {
	in := map[api.Version]bool{}
	for _, k := range s {
		for _, r := range k.Runs {
			if k.Replica < 1 || k.Replica > 16 || r.From < 1 {
				continue
			}
			for n := r.From; n <= r.To; n++ {
				in[ver(k.Replica, n)] = true
			}
		}
	}
	return in
}

// checkCounted holds a set against which versions it is to have, one by one, and that it is right.
func checkCounted(t *testing.T, call string, got set, want map[api.Version]bool, args ...any) {
	t.Helper()
	if !rightByWords(got) {
		t.Fatalf("%s of %v = %v, which isn't right", call, args, got)
	}
	if !maps.Equal(counted(got), want) {
		t.Fatalf("%s of %v = %v, want %v", call, args, got, want)
	}
}

// few are Known of some replicas, right or not, by small counts.
func few(replicas ...int) set {
	var l set
	for _, n := range replicas {
		l = append(l, known(n), one(n, 1), known(n, run(2, 3)), known(n, run(3, 4), run(1, 1)), known(n, run(0, 2), run(2, 2)))
	}
	return l
}

// P14.1 and P14.3: all sets of up to three of a few Known, right or not, version by version.
func TestOneCounted(t *testing.T) {
	for _, s := range sample.Lists(few(0, 1, 2, 16, 17), 3) {
		in := counted(s)
		checkCounted(t, "Of", vset.Of(s...), in, s)
		var bases, most vector
		for i := range bases {
			for n := 1; n <= 5; n++ {
				v := ver(i+1, n)
				if vset.Has(s, v) != in[v] {
					t.Fatalf("Has(%v, %v) = %t", s, v, !in[v])
				}
				if in[v] && bases[i] == n-1 {
					bases[i] = n
				}
				if in[v] {
					most[i] = n
				}
			}
		}
		checkNumbers(t, s, bases, most)
		if got, want := vset.Right(s), rightByWords(s); got != want {
			t.Fatalf("Right(%v) = %t, want %t", s, got, want)
		}
	}
}

// P14.1: all sets of up to two of a few Known, and all lists of up to three of a few versions, version by version.
func TestAddCounted(t *testing.T) {
	some := sample.Lists([]api.Version{ver(0, 1), ver(1, 0), ver(1, 1), ver(1, 2), ver(2, 2), ver(16, 5), ver(17, 1), ver(2, last+1)}, 3)
	for _, s := range sample.Lists(few(1, 2, 17), 2) {
		for _, l := range some {
			in := counted(s)
			for _, v := range l {
				if rightVersion(v) {
					in[v] = true
				}
			}
			checkCounted(t, fmt.Sprintf("Add of %v", l), vset.Add(s, l...), in, s)
		}
	}
}

// P14.2: all pairs of sets of up to two of a few Known, right or not, version by version.
func TestTwoCounted(t *testing.T) {
	some := sample.Lists(few(1, 2, 17), 2)
	for _, a := range some {
		inA := counted(a)
		for _, b := range some {
			inB := counted(b)
			union, meet, less := maps.Clone(inA), map[api.Version]bool{}, map[api.Version]bool{}
			maps.Copy(union, inB)
			for v := range inA {
				if inB[v] {
					meet[v] = true
				} else {
					less[v] = true
				}
			}
			checkCounted(t, "Union", vset.Union(a, b), union, a, b)
			checkCounted(t, "Meet", vset.Meet(a, b), meet, a, b)
			checkCounted(t, "Less", vset.Less(a, b), less, a, b)
			if got, want := vset.Same(a, b), maps.Equal(inA, inB); got != want {
				t.Fatalf("Same(%v, %v) = %t, want %t", a, b, got, want)
			}
			if got, want := vset.Within(a, b), len(less) == 0; got != want {
				t.Fatalf("Within(%v, %v) = %t, want %t", a, b, got, want)
			}
		}
	}
}

// P14.1 to P14.3: drawn sets of more Known, as the words say, by all numbers that matter, and by small ones.
func TestDrawnByWords(t *testing.T) {
	var small []int
	for n := range 12 {
		small = append(small, n)
	}
	for seed := range 1000 {
		for _, some := range [][]int{numbers(), small} {
			roll := sample.Draw(seed)
			a, b := drawnSet(roll, some), drawnSet(roll, some)
			checkOne(t, a)
			checkTwo(t, a, b)
			checkTwo(t, a, turnedRound(a))
			checkTwo(t, vset.Of(a...), vset.Union(a, b))
			checkAdd(t, a, drawnVersions(roll, some)...)
		}
	}
}

// P14.4: each set of versions has one right set, and no other one: so right sets are the same, in all their numbers, if they have the same versions.
func TestRightOnce(t *testing.T) {
	var some set
	for _, n := range []int{0, 1, 2, 3, 17} {
		some = append(some, known(n), one(n, 1), one(n, 2), known(n, run(1, 2)), known(n, run(1, 1), run(2, 2)), known(n, run(2, 2), run(1, 1)))
	}
	var sets []set
	for _, s := range sample.Lists(some, 3) {
		if vset.Right(s) {
			sets = append(sets, s)
		}
	}
	// Each of three replicas has none of two counts, one of them, or both.
	if len(sets) != 64 {
		t.Errorf("%d right sets of three replicas, and of counts up to 2, want 64", len(sets))
	}
	for i, a := range sets {
		for j, b := range sets {
			alike := maps.Equal(counted(a), counted(b))
			if alike != (i == j) || equal(a, b) != alike || vset.Same(a, b) != alike || equal(vset.Of(a...), vset.Of(b...)) != alike {
				t.Fatalf("%v and %v: alike %t", a, b, alike)
			}
		}
	}
	check(t, "Of", vset.Of(some...), set{known(1, run(1, 2)), known(2, run(1, 2)), known(3, run(1, 2))})
}

// P14.4: what is answered for the same versions, on whatever way, is the same, in all its numbers.
func TestWays(t *testing.T) {
	var all set
	for n := 1; n <= 16; n++ {
		all = append(all, known(n, run(1, last)))
	}
	for seed := range 2000 {
		roll := sample.Draw(seed)
		a, b := drawnSet(roll, numbers()), drawnSet(roll, numbers())
		turned := turnedRound(a)
		of := vset.Of(a...)
		for _, s := range []set{
			vset.Of(turned...), vset.Of(append(clone(turned), a...)...), vset.Of(of...), vset.Add(a), vset.Add(turned), vset.Union(a, nil), vset.Union(nil, turned),
			vset.Union(turned, a), vset.Meet(a, turned), vset.Meet(a, all), vset.Less(a, nil), vset.Union(vset.Meet(a, b), vset.Less(a, b)),
			vset.Less(vset.Union(a, b), vset.Less(b, a)), vset.Less(all, vset.Less(all, a)),
		} {
			check(t, "another way", s, of, a, b)
		}
		for _, s := range []set{turned, of} {
			if vset.Vector(s) != vset.Vector(a) || !vset.Same(s, a) || !vset.Same(a, s) {
				t.Fatalf("%v and %v are told apart", s, a)
			}
		}
		if vset.Same(a, b) != equal(of, vset.Of(b...)) {
			t.Fatalf("Same(%v, %v) = %t", a, b, vset.Same(a, b))
		}
	}
}

// P14.4: versions that are added one by one, in any order, make the same set as all at once.
func TestOneByOne(t *testing.T) {
	for seed := range 200 {
		roll := sample.Draw(seed)
		var l []api.Version
		for range roll(60) {
			l = append(l, ver(roll(7)-1, roll(12)-1))
		}
		var s set
		for i, v := range l {
			s = vset.Add(s, v)
			check(t, "Add", s, vset.Add(nil, l[:i+1]...), l[:i+1])
		}
		turned := slices.Clone(l)
		slices.Reverse(turned)
		check(t, "Add", vset.Add(nil, turned...), s, turned)
		check(t, "Add", vset.Add(s, turned...), s, turned)
	}
}

// calls are all calls that answer sets, of two sets and some versions.
func calls() []func(a, b set, l []api.Version) set {
	return []func(a, b set, l []api.Version) set{
		func(a, _ set, _ []api.Version) set { return vset.Of(a...) },
		func(a, _ set, l []api.Version) set { return vset.Add(a, l...) },
		func(a, _ set, _ []api.Version) set { return vset.Add(a) },
		func(_, _ set, l []api.Version) set { return vset.Add(nil, l...) },
		func(a, b set, _ []api.Version) set { return vset.Union(a, b) },
		func(a, _ set, _ []api.Version) set { return vset.Union(a, nil) },
		func(_, b set, _ []api.Version) set { return vset.Union(nil, b) },
		func(a, b set, _ []api.Version) set { return vset.Meet(a, b) },
		func(a, _ set, _ []api.Version) set { return vset.Meet(a, a) },
		func(a, b set, _ []api.Version) set { return vset.Less(a, b) },
		func(a, _ set, _ []api.Version) set { return vset.Less(a, nil) },
	}
}

// handed are sets that the tests of what is handed in hand in, right ones and others.
func handed() []set {
	return []set{
		{known(2, run(5, 7), run(1, 2), run(0, 4)), one(17, 1), known(1, run(1, 3)), known(3), known(2, run(3, 3), run(9, 8), run(12, last)), one(1, 5)},
		{known(1, run(1, 2), run(4, 5)), one(2, 7), known(3, run(9, last)), known(16, run(1, 2), run(4, 5))},
		{known(1, run(1, 2), run(3, 4)), known(1, run(1, 9), run(2, 3)), one(1, 20)},
		{one(16, 9), one(5, 5), one(1, 1)},
	}
}

// P14.1 to P14.3, and rule 5: what is handed in is as it was, also ahead of it and behind its end.
func TestHandedIn(t *testing.T) {
	for _, kept := range handed() {
		a, runsA := roomy(kept)
		b, runsB := roomy(kept)
		l, keptL := []api.Version{ver(2, 4), ver(0, 1), ver(1, 4), ver(16, last), ver(1, 4)}, []api.Version{ver(2, 4), ver(0, 1), ver(1, 4), ver(16, last), ver(1, 4)}
		keptRuns := slices.Clone(runsA)
		for n := range len(kept) + 1 {
			for m := range n + 1 {
				vset.Right(a[m:n])
				vset.Has(a[m:n], ver(1, 3))
				vset.Vector(a[m:n])
				vset.Most(a[m:n], 2)
				vset.Same(a[m:n], b[:m])
				vset.Within(a[m:n], b[:m])
				for i, call := range calls() {
					got, again := call(a[m:n], b[:m], l[:3]), call(a[m:n], b[:m], l[:3])
					want := clone(got)
					spoil(got)
					if !equal(a, kept) || !equal(b, kept) || !slices.Equal(runsA, keptRuns) || !slices.Equal(runsB, keptRuns) || !slices.Equal(l, keptL) {
						t.Fatalf("call %d of those from %d to %d: %v, %v and %v, was %v and %v", i, m, n, a, b, l, kept, keptL)
					}
					if !equal(again, want) {
						t.Fatalf("call %d of those from %d to %d: %v, and again %v", i, m, n, want, again)
					}
				}
			}
		}
	}
}

// P14.1 and P14.2, and rule 5: an answer shares nothing with what was handed in, and no two of its lists share anything.
func TestAnswersOwn(t *testing.T) {
	for _, s := range handed() {
		for i, call := range calls() {
			a, runsA := roomy(s)
			b, runsB := roomy(s)
			l := []api.Version{ver(2, 4), ver(0, 1), ver(16, last), ver(1, 4)}
			got := call(a, b, l)
			want := clone(got)
			clear(runsA)
			clear(runsB)
			spoil(a)
			spoil(b)
			clear(l)
			if !equal(got, want) {
				t.Fatalf("call %d: the answer became %v, was %v", i, got, want)
			}
			for j := range got {
				spoil(got[j : j+1 : j+1])
				if !equal(got[j+1:], want[j+1:]) {
					t.Fatalf("call %d: the answer became %v, was %v", i, got[j+1:], want[j+1:])
				}
			}
		}
	}
}

// P14.1 to P14.3, and rule 1: many Known, and many versions, in an order that is none.
func TestMany(t *testing.T) {
	const n = 1 << 15
	var odd, even, whole, odds set
	var l []api.Version
	var bases, most vector
	for i := range n {
		// 5 and n have nothing in common, so each place comes once, each replica as often as the others.
		k := i * 5 % n
		replica, count := k%16+1, k/16
		odd, even, l = append(odd, one(replica, 2*count+1)), append(even, one(replica, 2*count+2)), append(l, ver(replica, 2*count+2))
	}
	for i := range 16 {
		bases[i], most[i] = 1, 2*n/16-1
		whole = append(whole, known(i+1, run(1, 2*n/16)))
		var runs list
		for count := range n / 16 {
			runs = append(runs, run(2*count+1, 2*count+1))
		}
		odds = append(odds, known(i+1, runs...))
	}
	check(t, "Of", vset.Of(odd...), odds)
	checkNumbers(t, odd, bases, most)
	check(t, "Union", vset.Union(odd, even), whole)
	check(t, "Meet", vset.Meet(odd, even), nil)
	check(t, "Less", vset.Less(whole, even), odds)
	check(t, "Add", vset.Add(odd, l...), whole)
	check(t, "Add", vset.Add(nil, l...), vset.Of(even...))
	if vset.Right(odd) || !vset.Within(odd, whole) || vset.Within(whole, odd) || !vset.Same(append(clone(odd), even...), whole) {
		t.Error("many Known are told apart from what they have")
	}
}

// Rule 6: each answer hangs on nothing that was called ahead of it.
func TestSameEachTime(t *testing.T) {
	other := set{known(1, run(2, 6)), known(16, run(last, last))}
	for range 3 {
		for _, s := range append(handed(), nil, nothing(), bent()) {
			checkOne(t, s)
			checkTwo(t, s, other)
			checkAdd(t, s, ver(1, 4), ver(2, 9), ver(16, last), ver(0, 1))
		}
	}
}
