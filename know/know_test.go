package know_test

import (
	"fmt"
	"math"
	"slices"
	"testing"

	"winnower/api"
	"winnower/know"
	"winnower/ranges"
	"winnower/sample"
	"winnower/span"
	"winnower/vset"
)

// Short names of what all calls take.
type (
	list     = []api.Piece
	set      = []api.Known
	texts    = []api.Range
	versions = []api.Version
)

// last is the greatest count.
const last = 1 << 40

// What pieces are made of here: the tests of several layers have it together.
var (
	to, from, long  = sample.To, sample.From, sample.Long
	run, numbers    = sample.Run, sample.Numbers
	known, one, ver = sample.Known, sample.One, sample.Ver
	nothing, bent   = sample.Nothing, sample.Bent
	equal, clone    = sample.EqualSets, sample.CloneSet
	piece, idle     = sample.Piece, sample.Idle
	sameList        = sample.EqualPieces
	copied, spoil   = sample.ClonePieces, sample.SpoilPieces
	laid, drawnList = sample.LaidPieces, sample.DrawnPieces
)

// What the chapter says that lists have: the tests of several layers have it together.
var (
	knownOf, hasByWords    = sample.KnownOf, sample.HasKnown
	rangesOf, turns        = sample.RangesOf, sample.TextTurns
	listOf                 = sample.PiecesBy
	ofByWords, lessByWords = sample.OwnPieces, sample.LessPieces
)

// everything are all texts.
func everything() texts {
	return texts{from("")}
}

// edges are texts by which ranges begin and end, in order, the empty text first: some are too long for it.
func edges() []string {
	l := append(sample.Edges(), long("k", 18), long("\xff", 18))
	slices.Sort(l)
	return l
}

// turnedRound is a list with its pieces, and the sets of each, the last one first.
func turnedRound(k list) list {
	var out list
	for _, p := range k {
		out = append(out, piece(p.Range, sample.TurnedSet(p.Set)...))
	}
	slices.Reverse(out)
	return out
}

// with is a list with some pieces more, at a place.
func with(k list, i int, more ...api.Piece) list {
	return slices.Insert(copied(k), i, more...)
}

// check holds a list that was answered against what is wanted, part by part.
func check(t *testing.T, call string, got, want list, args ...any) {
	t.Helper()
	if !sameList(got, want) {
		t.Fatalf("%s of %#v = %#v, want %#v", call, args, got, want)
	}
	if !sample.RightPieces(got) || !know.Right(got) {
		t.Fatalf("%s of %#v = %#v, which isn't right", call, args, got)
	}
}

// checkAt holds At of a list and a text against the words, and Has of it and of all versions at which that may turn.
func checkAt(t *testing.T, k list, s string) {
	t.Helper()
	all := knownOf(k, s)
	want := sample.OwnSet(all)
	got := know.At(k, s)
	if !equal(got, want) || !vset.Right(got) {
		t.Fatalf("At(%#v, %#v) = %v, want %v", k, s, got, want)
	}
	for _, n := range append(sample.SetTurns(all), 0, last, last+1) {
		for _, replica := range []int{0, 1, 2, 3, 16, 17} {
			v := ver(replica, n)
			if got, want := know.Has(k, s, v), hasByWords(k, s, v); got != want {
				t.Fatalf("Has(%#v, %#v, %v) = %t, want %t", k, s, v, got, want)
			}
		}
	}
}

// checkOne holds all that is asked of one list against the chapter's words.
func checkOne(t *testing.T, k list) {
	t.Helper()
	if got, want := know.Right(k), sample.RightPieces(k); got != want {
		t.Fatalf("Right(%#v) = %t, want %t", k, got, want)
	}
	want := ofByWords(k)
	check(t, "Of", know.Of(k...), want, k)
	check(t, "Add", know.Add(k, "a"), want, k)
	check(t, "Join", know.Join(k), want, k)
	check(t, "Join", know.Join(k, k), want, k)
	check(t, "Restrict", know.Restrict(k, everything()), want, k)
	check(t, "Less", know.Less(k, nil), want, k)
	check(t, "Less", know.Less(k, k), nil, k)
	for _, s := range turns(rangesOf(k)) {
		checkAt(t, k, s)
	}
}

// two are two lists, and what they make: what one of both has, what a and not b has, and what b and not a has.
type two struct{ a, b, join, less, more list }

// check holds what both make, either way round, against what is wanted.
func (c two) check(t *testing.T) {
	t.Helper()
	check(t, "Join", know.Join(c.a, c.b), c.join, c.a, c.b)
	check(t, "Join", know.Join(c.b, c.a), c.join, c.b, c.a)
	check(t, "Less", know.Less(c.a, c.b), c.less, c.a, c.b)
	check(t, "Less", know.Less(c.b, c.a), c.more, c.b, c.a)
	within, round := len(c.less) == 0, len(c.more) == 0
	if got := know.Within(c.a, c.b); got != within {
		t.Fatalf("Within(%#v, %#v) = %t, want %t", c.a, c.b, got, within)
	}
	if got := know.Within(c.b, c.a); got != round {
		t.Fatalf("Within(%#v, %#v) = %t, want %t", c.b, c.a, got, round)
	}
	for _, got := range []bool{know.Same(c.a, c.b), know.Same(c.b, c.a)} {
		if got != (within && round) {
			t.Fatalf("Same of %#v and %#v = %t, want %t", c.a, c.b, got, within && round)
		}
	}
}

// checkTwo holds all that is asked of two lists against the chapter's words.
func checkTwo(t *testing.T, a, b list) {
	t.Helper()
	two{a, b, ofByWords(slices.Concat(a, b)), lessByWords(a, b), lessByWords(b, a)}.check(t)
}

// checkRestrict holds Restrict of a list and some ranges against the words.
func checkRestrict(t *testing.T, k list, l texts) {
	t.Helper()
	want := listOf(turns(rangesOf(k), l), func(s string) set {
		if !sample.HasText(l, s) {
			return nil
		}
		return sample.OwnSet(knownOf(k, s))
	})
	check(t, "Restrict", know.Restrict(k, l), want, k, l)
}

// checkAll holds All of some ranges and a set against the words.
func checkAll(t *testing.T, l texts, s set) {
	t.Helper()
	var each list
	for _, r := range l {
		each = append(each, piece(r, s...))
	}
	check(t, "All", know.All(l, s), ofByWords(each), l, s)
}

// checkAdd holds Add of a list, a text and some versions against the words.
func checkAdd(t *testing.T, k list, s string, l ...api.Version) {
	t.Helper()
	more := copied(k)
	for _, v := range l {
		if len(s) >= 1 && len(s) <= 16 && sample.RightVersion(v) {
			more = append(more, piece(to(s, s+"\x00"), one(v.Replica, v.Count)))
		}
	}
	check(t, "Add", know.Add(k, s, l...), ofByWords(more), k, s, l)
}

// P15.1 and P15.2: the chapter's example.
func TestExample(t *testing.T) {
	all := know.All(everything(), set{known(1, run(1, 3))})
	check(t, "All", all, list{piece(from(""), known(1, run(1, 3)))})
	k := know.Add(all, "a", ver(1, 4))
	check(t, "Add", k, list{piece(to("", "a"), known(1, run(1, 3))), piece(to("a", "a\x00"), known(1, run(1, 4))), piece(from("a\x00"), known(1, run(1, 3)))})
	checkOne(t, k)
	for _, c := range []struct {
		s    string
		most int
	}{{"", 3}, {"A", 3}, {"`\xff\xff", 3}, {"a", 4}, {"a\x00", 3}, {"aa", 3}, {"b", 3}, {long("a", 100), 3}, {long("\xff", 100), 3}} {
		if got, want := know.At(k, c.s), (set{known(1, run(1, c.most))}); !equal(got, want) {
			t.Errorf("At(%#v) = %v, want %v", c.s, got, want)
		}
		for n := range 6 {
			if got, want := know.Has(k, c.s, ver(1, n)), n >= 1 && n <= c.most; got != want {
				t.Errorf("Has(%#v, 1.%d) = %t, want %t", c.s, n, got, want)
			}
			if know.Has(k, c.s, ver(2, n)) {
				t.Errorf("Has(%#v, 2.%d) = true, want false", c.s, n)
			}
		}
	}
	two{k, all, k, list{piece(to("a", "a\x00"), one(1, 4))}, nil}.check(t)
	check(t, "Restrict", know.Restrict(k, texts{span.Of("a")}), list{piece(to("a", "a\x00"), known(1, run(1, 4)))})
}

// P15.1: Right, of lists that the words name.
func TestRight(t *testing.T) {
	s, more, other := known(1, run(1, 3)), known(1, run(1, 4)), one(2, 7)
	for _, k := range []list{
		nil, {}, {piece(from(""), s)}, {piece(from("a"), s)}, {piece(to("", "\x00"), s)}, {piece(to("a", "b"), s)}, {piece(to("a", "a\x00"), s)},
		{piece(from(""), one(16, last))}, {piece(from(""), known(1, run(1, last)), known(16, run(1, 2), run(4, last)))},
		// Ranges that are apart, also by just one text: whatever their sets.
		{piece(to("a", "b"), s), piece(to("c", "d"), s)}, {piece(to("a", "b"), s), piece(to("c", "d"), more)}, {piece(to("a", "b"), s), piece(from("c"), s)},
		{piece(to("a", "b"), s), piece(to("b\x00", "c"), s)}, {piece(to("a", "b"), s), piece(from("b\x00"), s)}, {piece(to("", "\x00"), s), piece(to("\x00\x00", "\x01"), s)},
		// A range that ends where the next one begins, with another set: one version more, one less, another replica, one more, one less.
		{piece(to("a", "b"), s), piece(to("b", "c"), more)}, {piece(to("a", "b"), more), piece(to("b", "c"), s)}, {piece(to("a", "b"), s), piece(from("b"), other)}, {piece(to("", "\x00"), s), piece(from("\x00"), more)},
		{piece(to("a", "b"), s), piece(to("b", "c"), s, other)}, {piece(to("a", "b"), s, other), piece(to("b", "c"), s)}, {piece(to("a", "b"), s, other), piece(to("b", "c"), other)},
		{piece(to("a", "b"), one(1, 7)), piece(to("b", "c"), one(2, 7))}, {piece(to("a", "b"), one(1, 7)), piece(to("b", "c"), one(1, 8))}, {piece(to("a", "b"), known(1, run(1, 3))), piece(to("b", "c"), known(1, run(2, 3)))},
		{piece(to("a", "b"), known(1, run(1, 1))), piece(to("b", "c"), known(1, run(1, 1), run(3, 3)))}, {piece(to("a", "b"), s, other), piece(to("b", "c"), s, one(3, 7))}, {piece(to("a", "b"), s, other), piece(to("b", "c"), s, one(2, 8))},
		// The same set again, behind another one.
		{piece(to("a", "b"), s), piece(to("b", "c"), more), piece(to("c", "d"), s)}, {piece(to("", "a"), s), piece(to("a", "a\x00"), more), piece(from("a\x00"), s)}, {piece(to("a", "b"), s), piece(to("b", "c"), more), piece(to("d", "e"), more), piece(from("e"), s)},
		// Edges of just MaxEdge bytes, and byte by byte, as numbers.
		{piece(to("a", long("k", 17)), s), piece(from(long("k", 17)), more)}, {piece(to(long("k", 16), long("k", 17)), s), piece(from("l"), s)}, {piece(to("a", "\x7f"), s), piece(to("\x80", "\xff"), s)}, {piece(to("Z", "a"), s), piece(to("a", "é"), other)},
	} {
		if !know.Right(k) {
			t.Errorf("Right(%#v) = false, want true", k)
		}
		checkOne(t, k)
	}
	for _, k := range []list{
		// A range that ends where the next one begins, with the same set.
		{piece(to("a", "b"), s), piece(to("b", "c"), s)}, {piece(to("a", "b"), s), piece(from("b"), s)}, {piece(to("", "\x00"), s), piece(to("\x00", "a"), s)}, {piece(to("a", "b"), s, other), piece(to("b", "c"), s, other)},
		{piece(to("a", "b"), known(1, run(1, 1), run(3, last))), piece(to("b", "c"), known(1, run(1, 1), run(3, last)))}, {piece(to("a", long("k", 17)), s), piece(from(long("k", 17)), s)},
		{piece(to("a", "b"), more), piece(to("b", "c"), s), piece(to("c", "d"), s)}, {piece(to("a", "b"), s), piece(to("b", "c"), s), piece(to("c", "d"), more)}, {piece(to("a", "b"), s), piece(to("c", "d"), s), piece(to("d", "e"), s)},
		// Out of order.
		{piece(to("c", "d"), s), piece(to("a", "b"), s)}, {piece(to("b", "c"), s), piece(to("a", "b"), more)}, {piece(from("c"), s), piece(to("a", "b"), more)}, {piece(to("\x80", "\xff"), s), piece(to("a", "\x7f"), s)},
		{piece(to("a", "b"), s), piece(to("e", "f"), s), piece(to("c", "d"), s)}, {piece(to("c", "d"), s), piece(to("a", "b"), s), piece(to("e", "f"), s)},
		// One on top of another, or within it, or beginning or ending as it does.
		{piece(to("a", "c"), s), piece(to("b", "d"), more)}, {piece(to("a", "d"), s), piece(to("b", "c"), more)}, {piece(to("b", "c"), s), piece(to("a", "d"), more)}, {piece(to("a", "b\x00"), s), piece(to("b", "c"), other)},
		{piece(to("a", "b"), s), piece(to("a", "c"), more)}, {piece(to("a", "c"), s), piece(to("b", "c"), more)}, {piece(to("a", "b"), s), piece(from("a"), more)}, {piece(to("a", "c"), s), piece(to("c", "d"), more), piece(to("b", "e"), s)},
		// The same one more than once.
		{piece(to("a", "b"), s), piece(to("a", "b"), s)}, {piece(from(""), s), piece(from(""), s)}, {piece(to("a", "b"), s), piece(to("a", "b"), more)}, {piece(to("a", "b"), s), piece(to("c", "d"), s), piece(to("c", "d"), s)},
		// Behind an open range there is nothing.
		{piece(from("a"), s), piece(to("b", "c"), more)}, {piece(from("a"), s), piece(from("b"), more)}, {piece(from(""), s), piece(from("a"), more)}, {piece(from("a"), s), piece(from(""), more)}, {piece(from("b"), s), piece(to("", "b"), more)},
		{piece(to("a", "b"), s), piece(from("c"), s), piece(to("d", "e"), s)}, {piece(from(""), s), piece(to("a", "b"), s)},
		// An empty set, one that isn't right, and a range that isn't.
		{piece(from(""))}, {{Range: from(""), Set: set{}}}, {piece(to("a", "b"), s), piece(to("b", "c"))}, {piece(to("a", "b")), piece(to("b", "c"), s)}, {piece(to("a", "b"), s), piece(to("b", "c")), piece(to("c", "d"), s)},
		{piece(from(""), other, s)}, {piece(from(""), s, s)}, {piece(from(""), known(1))}, {piece(from(""), one(17, 1))}, {piece(from(""), known(1, run(1, 2), run(3, 4)))}, {piece(to("a", "b"), s), piece(to("b", "c"), other, s)}, {piece(to("a", "b"), other, s), piece(to("b", "c"), s)},
		{{}}, {{Set: set{s}}}, {piece(to("a", "a"), s)}, {piece(to("b", "a"), s)}, {piece(to("a", ""), s)}, {piece(api.Range{Lo: "a", Hi: "b", Open: true}, s)}, {piece(from(long("k", 18)), s)}, {piece(to("a", long("k", 18)), s)},
		{piece(to("a", "b"), s), piece(to("b", "b"), more)}, {piece(to("b", "b"), s), piece(to("b", "c"), more)}, {piece(to("a", "b"), s), piece(api.Range{Lo: "b", Hi: "c", Open: true}, more)}, {piece(to("a", long("k", 18)), s), piece(from("l"), s)},
	} {
		if know.Right(k) {
			t.Errorf("Right(%#v) = true, want false", k)
		}
		checkOne(t, k)
	}
}

// P15.1: knowledge isn't right, if a piece's range or set isn't, wherever it stands.
func TestRightWrong(t *testing.T) {
	s, more := known(1, run(1, 3)), known(2, run(1, 4))
	bad := idle()
	for _, k := range bent() {
		bad = append(bad, piece(to("b", "c"), k), piece(to("b", "c"), s, k), piece(to("b", "c"), k, one(3, 1)), piece(from("b"), k))
	}
	for _, k := range nothing() {
		bad = append(bad, piece(to("b", "c"), s, k), piece(to("b", "c"), k, s), piece(to("b", "c"), s, k, one(3, 1)))
	}
	for _, r := range sample.Wrong() {
		bad = append(bad, piece(r, s), piece(r, more))
	}
	for _, p := range bad {
		for _, k := range []list{{p}, {p, p}, {piece(to("", "\x00"), s), p}, {p, piece(to("d", "e"), s)}, {piece(to("a", "b"), more), p, piece(to("c", "d"), more)}, {p, piece(from("x"), s)}, {piece(to("", "a"), s), piece(to("a", "b"), more), p}} {
			if know.Right(k) {
				t.Errorf("Right(%#v) = true, want false", k)
			}
		}
	}
}

// P15.1: Has, of lists, texts and versions that the words name.
func TestHas(t *testing.T) {
	s, more := known(1, run(1, 3)), known(2, run(5, 6))
	both := list{piece(to("a", "c"), s), piece(from("c"), more)}
	for _, c := range []struct {
		k    list
		s    string
		v    api.Version
		want bool
	}{
		{nil, "", ver(1, 1), false}, {nil, "a", ver(1, 1), false}, {list{}, "a", ver(1, 1), false}, {nil, "", api.Version{}, false}, {list{{}}, "", api.Version{}, false}, {list{{}}, "", ver(1, 1), false},
		// Texts just ahead of a piece's beginning and its end, there, and just behind.
		{both, "`\xff", ver(1, 1), false}, {both, "a", ver(1, 1), true}, {both, "a\x00", ver(1, 1), true}, {both, "b\xff\xff", ver(1, 1), true}, {both, "c", ver(1, 1), false}, {both, "c\x00", ver(1, 1), false},
		{both, "b\xff\xff", ver(2, 5), false}, {both, "c", ver(2, 5), true}, {both, "c\x00", ver(2, 5), true}, {both, "", ver(1, 1), false}, {both, "", ver(2, 5), false}, {both, "a", ver(2, 5), false},
		{list{piece(to("a", "a\x00"), s)}, "a", ver(1, 3), true}, {list{piece(to("a", "a\x00"), s)}, "a\x00", ver(1, 3), false}, {list{piece(to("a", "a\x00"), s)}, "", ver(1, 3), false},
		// The empty text, and texts longer than a key may be.
		{list{piece(from(""), s)}, "", ver(1, 1), true}, {list{piece(to("", "\x00"), s)}, "", ver(1, 1), true}, {list{piece(to("", "\x00"), s)}, "\x00", ver(1, 1), false}, {list{piece(from("\x00"), s)}, "", ver(1, 1), false},
		{both, long("a", 17), ver(1, 1), true}, {both, long("a", 1000), ver(1, 1), true}, {both, long("b", 1<<20), ver(1, 3), true}, {both, long("\xff", 1<<20), ver(2, 6), true}, {both, long("a", 1<<20), ver(2, 6), false},
		{list{piece(to(long("k", 16), long("k", 17)), s)}, long("k", 16) + "a", ver(1, 1), true}, {list{piece(to(long("k", 16), long("k", 17)), s)}, long("k", 18), ver(1, 1), false}, {list{piece(from(long("k", 17)), s)}, long("k", 18), ver(1, 1), true},
		// Versions.
		{both, "a", ver(1, 0), false}, {both, "a", ver(1, 3), true}, {both, "a", ver(1, 4), false}, {both, "a", ver(2, 1), false}, {both, "a", api.Version{}, false}, {both, "a", ver(0, 1), false}, {both, "a", ver(17, 1), false}, {both, "a", ver(1, -1), false},
		{both, "d", ver(2, 4), false}, {both, "d", ver(2, 6), true}, {both, "d", ver(2, 7), false}, {both, "d", ver(1, 5), false}, {list{piece(from(""), known(1, run(1, last)))}, "a", ver(1, last), true}, {list{piece(from(""), known(1, run(1, last)))}, "a", ver(1, last+1), false},
		{list{piece(from(""), one(0, 1), one(17, 1), one(1, 0))}, "a", ver(0, 1), false}, {list{piece(from(""), one(0, 1), one(17, 1), one(1, 0))}, "a", ver(17, 1), false}, {list{piece(from(""), one(0, 1), one(17, 1), one(1, 0))}, "a", ver(1, 0), false},
		// In any order, on top of one another, more than once: one piece that has both is enough, but one has the text, and another the version, is not.
		{list{both[1], both[0]}, "a", ver(1, 1), true}, {list{both[1], both[0]}, "c", ver(2, 5), true}, {list{both[1], both[0]}, "c", ver(1, 1), false}, {list{both[0], both[0]}, "a", ver(1, 1), true},
		{list{piece(to("a", "d"), s), piece(to("b", "c"), more)}, "b", ver(1, 1), true}, {list{piece(to("a", "d"), s), piece(to("b", "c"), more)}, "b", ver(2, 5), true}, {list{piece(to("a", "d"), s), piece(to("b", "c"), more)}, "c", ver(2, 5), false},
		{list{piece(from("a"), s), piece(to("b", "c"), more)}, "b", ver(2, 6), true}, {list{piece(from("a"), s), piece(to("b", "c"), more)}, "c", ver(1, 2), true},
		// Beside what isn't right.
		{list{piece(to("b", "a"), more), piece(to("a", "b"), s)}, "a", ver(1, 1), true}, {list{piece(to("b", "a"), more), piece(to("a", "b"), s)}, "a", ver(2, 5), false}, {list{piece(to("a", "b"))}, "a", ver(1, 1), false}, {list{piece(to("a", "b"), more, s)}, "a", ver(1, 1), true},
		{list{piece(api.Range{Lo: "a", Hi: "b", Open: true}, s)}, "a", ver(1, 1), false}, {list{piece(to("a", "b"), known(1, run(0, 9), run(5, 6)))}, "a", ver(1, 5), true}, {list{piece(to("a", "b"), known(1, run(0, 9), run(5, 6)))}, "a", ver(1, 4), false},
		// Byte by byte, as numbers.
		{list{piece(to("a", "\xff"), s)}, "\x80", ver(1, 1), true}, {list{piece(to("a", "b"), s)}, "A", ver(1, 1), false}, {list{piece(to("\x80", "\x82"), s)}, "\uFFFD", ver(1, 1), false},
	} {
		if got := know.Has(c.k, c.s, c.v); got != c.want {
			t.Errorf("Has(%#v, %.40q, %v) = %t, want %t", c.k, c.s, c.v, got, c.want)
		}
	}
}

// P15.1: At, of lists and texts that the words name.
func TestAt(t *testing.T) {
	s, more := known(1, run(1, 3)), known(2, run(5, 6))
	both := list{piece(to("a", "c"), s), piece(from("c"), more)}
	for _, c := range []struct {
		k    list
		s    string
		want set
	}{
		{nil, "", nil}, {nil, "a", nil}, {list{}, "a", nil}, {list{{}}, "", nil}, {list{piece(from(""))}, "a", nil}, {list{piece(from(""), s)}, "", set{s}}, {list{piece(from(""), s, more)}, "a", set{s, more}},
		{both, "", nil}, {both, "`\xff", nil}, {both, "a", set{s}}, {both, "a\x00", set{s}}, {both, "b\xff\xff", set{s}}, {both, "c", set{more}}, {both, "c\x00", set{more}}, {both, long("a", 1000), set{s}}, {both, long("\xff", 1<<20), set{more}},
		{list{piece(to("", "\x00"), s)}, "", set{s}}, {list{piece(to("", "\x00"), s)}, "\x00", nil}, {list{piece(to(long("k", 16), long("k", 17)), s)}, long("k", 16), set{s}}, {list{piece(to(long("k", 16), long("k", 17)), s)}, long("k", 17), nil},
		// What several pieces have: beside another, next to another, over another, the same.
		{list{piece(from("a"), s), piece(to("b", "c"), more)}, "b", set{s, more}}, {list{piece(to("b", "c"), more), piece(from("a"), s)}, "b", set{s, more}}, {list{piece(to("b", "c"), more), piece(from("a"), s)}, "c", set{s}},
		{list{piece(from("a"), s), piece(from(""), one(1, 4))}, "a", set{known(1, run(1, 4))}}, {list{piece(from("a"), one(1, 7)), piece(from(""), one(1, 5))}, "a", set{known(1, run(5, 5), run(7, 7))}},
		{list{piece(from("a"), known(1, run(2, 9))), piece(from(""), s)}, "a", set{known(1, run(1, 9))}}, {list{piece(from("a"), s), piece(from("a"), s)}, "a", set{s}}, {list{piece(to("a", "b"), s), piece(to("a", "c"), more), piece(to("a", "d"), one(1, 9))}, "b", set{one(1, 9), more}},
		// Sets that aren't right.
		{list{piece(from(""), more, s)}, "a", set{s, more}}, {list{piece(from(""), one(1, 2), one(17, 1), one(1, 1), known(3))}, "a", set{known(1, run(1, 2))}}, {list{piece(from(""), known(1, run(0, 2), run(4, 5), run(3, 3)))}, "a", set{known(1, run(3, 5))}},
		{list{piece(from(""), nothing()...)}, "a", nil}, {list{piece(from(""), bent()...)}, "a", set{known(2, run(3, 4))}}, {list{piece(to("a", "b"), s), piece(to("b", "a"), more)}, "a", set{s}},
	} {
		got := know.At(c.k, c.s)
		if !equal(got, c.want) || !sample.RightSet(got) {
			t.Errorf("At(%#v, %.40q) = %v, want %v", c.k, c.s, got, c.want)
		}
		checkAt(t, c.k, c.s)
		checkAt(t, turnedRound(c.k), c.s)
	}
}

// P15.1: no list has a version that isn't right, nor has a piece that isn't right anything more than it should.
func TestHasWrong(t *testing.T) {
	all := list{piece(from(""), known(1, run(1, last)), known(16, run(1, last)), known(17, run(1, last)), known(0, run(1, last)), known(1, run(0, last+1)), one(1, 0), one(1, last+1))}
	for _, replica := range append(sample.NoReplicas(), 1, 16) {
		for _, count := range numbers() {
			v := ver(replica, count)
			if got, want := know.Has(all, "a", v), sample.RightVersion(v); got != want {
				t.Errorf("Has(%v) = %t, want %t", v, got, want)
			}
		}
	}
	own := list{piece(to("a", "c"), known(1, run(1, 3))), piece(from("c"), one(2, 7))}
	for _, p := range idle() {
		for _, s := range append(edges(), p.Range.Lo, p.Range.Hi, p.Range.Lo+"\x00", p.Range.Lo+"\xff") {
			for _, v := range []api.Version{ver(1, 1), ver(2, 1), ver(2, 7), ver(16, 7), {}} {
				if know.Has(list{p}, s, v) || know.Has(list{p, p}, s, v) {
					t.Fatalf("Has(%#v, %#v, %v) = true, want false", p, s, v)
				}
				want := know.Has(own, s, v)
				for i := range len(own) + 1 {
					if got := know.Has(with(own, i, p), s, v); got != want {
						t.Fatalf("Has(%#v, %#v, %v) = %t, want %t", with(own, i, p), s, v, got, want)
					}
				}
			}
			if got := know.At(list{p}, s); len(got) != 0 {
				t.Fatalf("At(%#v, %#v) = %v, want none", p, s, got)
			}
			if got := know.At(list{own[1], p, own[0]}, s); !equal(got, know.At(own, s)) {
				t.Fatalf("At with %#v, %#v = %v", p, s, got)
			}
		}
	}
}

// P15.1: Of, of lists that the words name.
func TestOf(t *testing.T) {
	s, more, other := known(1, run(1, 3)), known(1, run(1, 4)), known(2, run(5, 6))
	for _, c := range []struct{ k, want list }{
		{nil, nil}, {list{}, nil}, {list{piece(from(""), s)}, list{piece(from(""), s)}}, {list{piece(to("a", "b"), s, other)}, list{piece(to("a", "b"), s, other)}},
		// Ranges that are apart, in any order.
		{list{piece(to("c", "d"), s), piece(to("a", "b"), s)}, list{piece(to("a", "b"), s), piece(to("c", "d"), s)}}, {list{piece(from("x"), s), piece(to("c", "d"), other), piece(to("a", "b"), more)}, list{piece(to("a", "b"), more), piece(to("c", "d"), other), piece(from("x"), s)}},
		{list{piece(to("b\x00", "c"), s), piece(to("a", "b"), s)}, list{piece(to("a", "b"), s), piece(to("b\x00", "c"), s)}}, {list{piece(to("\x80", "\xff"), s), piece(to("a", "\x7f"), s)}, list{piece(to("a", "\x7f"), s), piece(to("\x80", "\xff"), s)}},
		// A range that ends where the next one begins: with the same set, and with another one.
		{list{piece(to("a", "b"), s), piece(to("b", "c"), s)}, list{piece(to("a", "c"), s)}}, {list{piece(to("b", "c"), s), piece(to("a", "b"), s)}, list{piece(to("a", "c"), s)}}, {list{piece(to("a", "b"), s), piece(from("b"), s)}, list{piece(from("a"), s)}},
		{list{piece(to("a", "b"), s), piece(to("b", "c"), more)}, list{piece(to("a", "b"), s), piece(to("b", "c"), more)}}, {list{piece(from("b"), more), piece(to("a", "b"), s)}, list{piece(to("a", "b"), s), piece(from("b"), more)}},
		{list{piece(to("a", "b"), s), piece(to("b", "c"), s), piece(to("c", "d"), s), piece(to("d", "e"), more)}, list{piece(to("a", "d"), s), piece(to("d", "e"), more)}}, {list{piece(to("", long("k", 17)), s), piece(from(long("k", 17)), s)}, list{piece(from(""), s)}},
		{list{piece(to("a", "b"), s, other), piece(to("b", "c"), other, s)}, list{piece(to("a", "c"), s, other)}}, {list{piece(to("a", "b"), s), piece(to("b", "c"), one(1, 3), one(1, 1), one(1, 2))}, list{piece(to("a", "c"), s)}},
		// One on top of another, or within it, or beginning or ending as it does: with other sets, with some versions in common, with the same ones.
		{list{piece(to("a", "c"), s), piece(to("b", "d"), other)}, list{piece(to("a", "b"), s), piece(to("b", "c"), s, other), piece(to("c", "d"), other)}}, {list{piece(to("a", "c"), s), piece(to("b", "d"), more)}, list{piece(to("a", "b"), s), piece(to("b", "d"), more)}},
		{list{piece(to("a", "c"), s), piece(to("b", "d"), s)}, list{piece(to("a", "d"), s)}}, {list{piece(to("a", "d"), s), piece(to("b", "c"), other)}, list{piece(to("a", "b"), s), piece(to("b", "c"), s, other), piece(to("c", "d"), s)}},
		{list{piece(to("a", "d"), more), piece(to("b", "c"), s)}, list{piece(to("a", "d"), more)}}, {list{piece(to("b", "c"), more), piece(to("a", "d"), s)}, list{piece(to("a", "b"), s), piece(to("b", "c"), more), piece(to("c", "d"), s)}},
		{list{piece(to("a", "b"), other), piece(to("a", "c"), s)}, list{piece(to("a", "b"), s, other), piece(to("b", "c"), s)}}, {list{piece(to("a", "c"), other), piece(to("b", "c"), s)}, list{piece(to("a", "b"), other), piece(to("b", "c"), s, other)}},
		// The same one more than once; the same range with several sets.
		{list{piece(to("a", "b"), s), piece(to("a", "b"), s)}, list{piece(to("a", "b"), s)}}, {list{piece(from(""), s), piece(from(""), other), piece(from(""), s), piece(from(""), one(1, 4))}, list{piece(from(""), more, other)}},
		// Open ones.
		{list{piece(from("a"), s), piece(to("b", "c"), other)}, list{piece(to("a", "b"), s), piece(to("b", "c"), s, other), piece(from("c"), s)}}, {list{piece(from("a"), s), piece(from("b"), other)}, list{piece(to("a", "b"), s), piece(from("b"), s, other)}},
		{list{piece(from("b"), s), piece(from("a"), s)}, list{piece(from("a"), s)}}, {list{piece(from("b"), s), piece(to("", "a"), s)}, list{piece(to("", "a"), s), piece(from("b"), s)}}, {list{piece(from(""), s), piece(from(long("\xff", 17)), other)}, list{piece(to("", long("\xff", 17)), s), piece(from(long("\xff", 17)), s, other)}},
		// What lies within becomes the same as beside it.
		{list{piece(to("a", "b"), more), piece(to("b", "c"), s), piece(to("c", "d"), more), piece(to("b", "c"), one(1, 4))}, list{piece(to("a", "d"), more)}}, {list{piece(to("", "a"), s), piece(to("a", "a\x00"), more), piece(from("a\x00"), s), piece(from(""), one(1, 4))}, list{piece(from(""), more)}},
		// Sets and ranges that aren't right.
		{list{piece(from(""), other, s)}, list{piece(from(""), s, other)}}, {list{piece(from(""), one(1, 2), known(3), one(1, 1), one(17, 1), one(1, 3))}, list{piece(from(""), s)}}, {list{piece(from(""))}, nil}, {list{{}}, nil}, {list{piece(from(""), one(0, 1))}, nil},
		{list{piece(to("b", "a"), s), piece(to("a", "b"), other)}, list{piece(to("a", "b"), other)}}, {list{piece(to("a", "b"), s), piece(to("b", "c")), piece(to("c", "d"), s)}, list{piece(to("a", "b"), s), piece(to("c", "d"), s)}},
		{list{piece(to("a", "b"), s), piece(to("b", "b"), other), piece(to("b", "c"), s)}, list{piece(to("a", "c"), s)}}, {list{piece(api.Range{Lo: "a", Hi: "b", Open: true}, s), piece(from(long("k", 18)), s), piece(from("x"), s)}, list{piece(from("x"), s)}},
	} {
		check(t, "Of", know.Of(c.k...), c.want, c.k)
		check(t, "Of", know.Of(turnedRound(c.k)...), c.want, c.k)
		check(t, "Of", know.Of(append(copied(c.k), turnedRound(c.k)...)...), c.want, c.k)
		checkOne(t, c.k)
		two{a: c.k, b: c.want, join: c.want}.check(t)
	}
	check(t, "Of", know.Of(), nil)
}

// P15.1: Of leaves out what has nothing, wherever it stands, and takes what others have that aren't right.
func TestOfWrong(t *testing.T) {
	check(t, "Of", know.Of(idle()...), nil)
	own := list{piece(to("a", "c"), known(1, run(1, 3))), piece(to("c", "d"), one(1, 2), one(2, 7)), piece(from("x"), known(1, run(1, 3)))}
	for i := range len(own) + 1 {
		for _, p := range idle() {
			check(t, "Of", know.Of(p), nil, p)
			check(t, "Of", know.Of(p, p), nil, p)
			check(t, "Of", know.Of(with(own, i, p)...), own, i, p)
			check(t, "Of", know.Of(with(own, i, p, p)...), own, i, p)
		}
		for _, k := range bent() {
			check(t, "Of", know.Of(piece(from(""), k)), list{piece(from(""), known(2, run(3, 4)))}, k)
			check(t, "Of", know.Of(with(own, i, piece(to("c", "e"), k))...), list{own[0], piece(to("c", "d"), one(1, 2), known(2, run(3, 4), run(7, 7))), piece(to("d", "e"), known(2, run(3, 4))), own[2]}, i, k)
		}
	}
}

// P15.2: All, of ranges and sets that the words name.
func TestAll(t *testing.T) {
	s, other := known(1, run(1, 3)), known(2, run(5, 6), run(8, 9))
	for _, c := range []struct {
		l    texts
		s    set
		want list
	}{
		{nil, nil, nil}, {texts{}, set{}, nil}, {nil, set{s}, nil}, {texts{}, set{s}, nil}, {everything(), nil, nil}, {everything(), set{}, nil}, {everything(), set{s}, list{piece(from(""), s)}}, {everything(), set{s, other}, list{piece(from(""), s, other)}},
		{texts{to("a", "b")}, set{s}, list{piece(to("a", "b"), s)}}, {texts{to("a", "b"), to("c", "d"), from("x")}, set{s, other}, list{piece(to("a", "b"), s, other), piece(to("c", "d"), s, other), piece(from("x"), s, other)}},
		{texts{to("a", "b"), to("b\x00", "c")}, set{s}, list{piece(to("a", "b"), s), piece(to("b\x00", "c"), s)}}, {texts{to("", long("k", 17)), from(long("\xff", 17))}, set{s}, list{piece(to("", long("k", 17)), s), piece(from(long("\xff", 17)), s)}},
		{everything(), set{known(1, run(1, last)), one(16, last)}, list{piece(from(""), known(1, run(1, last)), one(16, last))}},
		// Ranges that touch, or have texts together, in any order, more than once.
		{texts{to("b", "c"), to("a", "b")}, set{s}, list{piece(to("a", "c"), s)}}, {texts{to("a", "c"), to("b", "d"), to("a", "c")}, set{s}, list{piece(to("a", "d"), s)}}, {texts{from("x"), to("c", "d"), to("a", "b")}, set{s}, list{piece(to("a", "b"), s), piece(to("c", "d"), s), piece(from("x"), s)}},
		{texts{from("b"), to("", "b")}, set{s}, list{piece(from(""), s)}}, {texts{from(""), to("a", "b"), from("")}, set{s}, list{piece(from(""), s)}},
		// Ranges and sets that aren't right.
		{texts{{}}, set{s}, nil}, {texts{to("b", "a"), to("a", "b")}, set{s}, list{piece(to("a", "b"), s)}}, {sample.Wrong(), set{s}, nil}, {everything(), set{other, s}, list{piece(from(""), s, other)}}, {everything(), nothing(), nil}, {everything(), bent(), list{piece(from(""), known(2, run(3, 4)))}},
		{texts{to("a", "b")}, set{one(17, 1), one(1, 2), known(3), one(1, 1)}, list{piece(to("a", "b"), known(1, run(1, 2)))}}, {texts{to("b", "b")}, set{known(1)}, nil}, {texts{to("a", "b")}, set{known(1, run(0, 4), run(2, 2), run(1, 1))}, list{piece(to("a", "b"), known(1, run(1, 2)))}},
	} {
		check(t, "All", know.All(c.l, c.s), c.want, c.l, c.s)
		checkAll(t, c.l, c.s)
		turned := slices.Clone(c.l)
		slices.Reverse(turned)
		check(t, "All", know.All(append(turned, c.l...), sample.TurnedSet(c.s)), c.want, c.l, c.s)
	}
}

// P15.2: All of ranges and sets with what isn't right among them, wherever it stands.
func TestAllWrong(t *testing.T) {
	l, s := texts{to("a", "b"), to("c", "d"), from("x")}, set{known(1, run(1, 3)), one(2, 7), one(16, last)}
	want := list{piece(l[0], s...), piece(l[1], s...), piece(l[2], s...)}
	for i := range len(l) + 1 {
		for _, r := range sample.Wrong() {
			check(t, "All", know.All(texts{r}, s), nil, r)
			check(t, "All", know.All(slices.Insert(slices.Clone(l), i, r), s), want, i, r)
		}
		for _, k := range nothing() {
			check(t, "All", know.All(everything(), set{k}), nil, k)
			check(t, "All", know.All(l, slices.Insert(clone(s), i, k)), want, i, k)
		}
		for _, k := range bent() {
			check(t, "All", know.All(l[:1], slices.Insert(clone(s), i, k)), list{piece(l[0], s[0], known(2, run(3, 4), run(7, 7)), s[2])}, i, k)
		}
	}
}

// P15.2: Add, of lists, texts and versions that the words name.
func TestAdd(t *testing.T) {
	s, more, other := known(1, run(1, 3)), known(1, run(1, 4)), one(2, 7)
	whole := list{piece(from(""), s)}
	key16 := long("k", 16)
	for _, c := range []struct {
		k    list
		s    string
		l    versions
		want list
	}{
		// No version.
		{nil, "a", nil, nil}, {list{}, "a", versions{}, nil}, {whole, "a", nil, whole}, {list{piece(to("b", "c"), s), piece(to("a", "b"), s)}, "a", nil, list{piece(to("a", "c"), s)}},
		// To none.
		{nil, "a", versions{ver(1, 1)}, list{piece(to("a", "a\x00"), one(1, 1))}}, {nil, "\x00", versions{ver(16, last)}, list{piece(to("\x00", "\x00\x00"), one(16, last))}}, {nil, "\xff", versions{ver(2, 2), ver(1, 3), ver(2, 1)}, list{piece(to("\xff", "\xff\x00"), one(1, 3), known(2, run(1, 2)))}},
		{nil, "a\xff", versions{ver(1, 1), ver(1, 1)}, list{piece(to("a\xff", "a\xff\x00"), one(1, 1))}},
		// What is no key, and the longest key.
		{nil, "", versions{ver(1, 1)}, nil}, {whole, "", versions{ver(1, 4)}, whole}, {nil, key16, versions{ver(1, 1)}, list{piece(to(key16, key16+"\x00"), one(1, 1))}}, {nil, key16 + "k", versions{ver(1, 1)}, nil}, {nil, key16 + "\x00", versions{ver(1, 1)}, nil},
		{whole, key16, versions{ver(1, 4)}, list{piece(to("", key16), s), piece(to(key16, key16+"\x00"), more), piece(from(key16+"\x00"), s)}}, {whole, long("k", 17), versions{ver(1, 4)}, whole}, {whole, long("k", 18), versions{ver(1, 4)}, whole}, {nil, long("k", 1000), versions{ver(1, 4)}, nil},
		{list{piece(to("b", "c"), s), piece(to("a", "b"), s)}, "", versions{ver(1, 4)}, list{piece(to("a", "c"), s)}}, {list{piece(to("b", "c"), other, s)}, long("b", 17), versions{ver(1, 4)}, list{piece(to("b", "c"), s, other)}},
		// What isn't right.
		{nil, "a", versions{{}}, nil}, {nil, "a", versions{ver(0, 1), ver(17, 1), ver(1, 0), ver(1, last+1), ver(1, -1), ver(-1, 1)}, nil}, {nil, "a", versions{{}, ver(1, 1), ver(17, 1), ver(16, 2)}, list{piece(to("a", "a\x00"), one(1, 1), one(16, 2))}},
		{whole, "a", versions{ver(0, 1), ver(1, 0), {}}, whole}, {whole, "a", versions{{}, ver(1, 4), {}}, list{piece(to("", "a"), s), piece(to("a", "a\x00"), more), piece(from("a\x00"), s)}},
		// What it has, and what another key, or another piece, has.
		{whole, "a", versions{ver(1, 2), ver(1, 1)}, whole}, {whole, "a", versions{ver(2, 7)}, list{piece(to("", "a"), s), piece(to("a", "a\x00"), s, other), piece(from("a\x00"), s)}},
		{list{piece(to("a", "a\x00"), s)}, "a", versions{ver(1, 4)}, list{piece(to("a", "a\x00"), more)}}, {list{piece(to("a", "a\x00"), s)}, "b", versions{ver(1, 4)}, list{piece(to("a", "a\x00"), s), piece(to("b", "b\x00"), one(1, 4))}},
		{list{piece(to("a", "b"), s)}, "c", versions{ver(1, 4)}, list{piece(to("a", "b"), s), piece(to("c", "c\x00"), one(1, 4))}}, {list{piece(to("a", "b"), s)}, "B", versions{ver(1, 4)}, list{piece(to("B", "B\x00"), one(1, 4)), piece(to("a", "b"), s)}},
		// Where a piece begins, and where it ends.
		{list{piece(to("a", "c"), s)}, "a", versions{ver(1, 4)}, list{piece(to("a", "a\x00"), more), piece(to("a\x00", "c"), s)}}, {list{piece(to("a", "c"), s)}, "b\xff", versions{ver(1, 4)}, list{piece(to("a", "b\xff"), s), piece(to("b\xff", "b\xff\x00"), more), piece(to("b\xff\x00", "c"), s)}},
		{list{piece(to("a", "c"), s)}, "c", versions{ver(1, 4)}, list{piece(to("a", "c"), s), piece(to("c", "c\x00"), one(1, 4))}}, {list{piece(to("a", "c\x00"), s)}, "c", versions{ver(1, 4)}, list{piece(to("a", "c"), s), piece(to("c", "c\x00"), more)}},
		// So that it becomes the same as what stands beside it.
		{list{piece(to("", "a"), more), piece(to("a", "a\x00"), s), piece(from("a\x00"), more)}, "a", versions{ver(1, 4)}, list{piece(from(""), more)}}, {list{piece(to("a", "a\x00"), other)}, "a\x00", versions{ver(2, 7)}, list{piece(to("a", "a\x00\x00"), other)}},
		{list{piece(to("a\x00", "b"), s)}, "a", versions{ver(1, 3), ver(1, 1), ver(1, 2)}, list{piece(to("a", "b"), s)}}, {list{piece(to("a", "b"), s), piece(from("b\x00"), s)}, "b", versions{ver(1, 1), ver(1, 2), ver(1, 3)}, list{piece(from("a"), s)}},
		// To lists that aren't right.
		{list{piece(from("a"), s), piece(from(""), one(1, 4))}, "b", versions{ver(1, 5)}, list{piece(to("", "a"), one(1, 4)), piece(to("a", "b"), more), piece(to("b", "b\x00"), known(1, run(1, 5))), piece(from("b\x00"), more)}},
		{list{piece(to("b", "a"), s), {}, piece(to("a", "b"))}, "a", versions{ver(1, 1)}, list{piece(to("a", "a\x00"), one(1, 1))}},
	} {
		check(t, "Add", know.Add(c.k, c.s, c.l...), c.want, c.k, c.s, c.l)
		checkAdd(t, c.k, c.s, c.l...)
		turned := slices.Clone(c.l)
		slices.Reverse(turned)
		check(t, "Add", know.Add(turnedRound(c.k), c.s, append(turned, c.l...)...), c.want, c.k, c.s, c.l)
	}
}

// P15.2: Add of each version by numbers that matter, and of texts of each length, to what has nothing, and beside it.
func TestAddWrong(t *testing.T) {
	own := list{piece(to("a", "c"), known(1, run(1, 3))), piece(from("c"), one(2, 7))}
	for _, replica := range append(sample.NoReplicas(), 1, 2, 16) {
		for _, count := range numbers() {
			checkAdd(t, nil, "a", ver(replica, count))
			checkAdd(t, own, "b", ver(2, 7), ver(replica, count), ver(1, 4))
		}
	}
	for n := range 20 {
		for _, letter := range []string{"\x00", "a", "b\xff", "c", "\xff"} {
			s := long(letter, 20)[:n]
			checkAdd(t, nil, s, ver(1, 4))
			checkAdd(t, own, s, ver(1, 4), ver(2, 7))
			checkAdd(t, turnedRound(own), s, ver(0, 4))
		}
	}
	want := list{piece(to("a", "b"), known(1, run(1, 3))), piece(to("b", "b\x00"), known(1, run(1, 4))), piece(to("b\x00", "c"), known(1, run(1, 3))), own[1]}
	for i := range len(own) + 1 {
		for _, p := range idle() {
			check(t, "Add", know.Add(list{p}, "b", ver(1, 4)), list{piece(to("b", "b\x00"), one(1, 4))}, p)
			check(t, "Add", know.Add(with(own, i, p), "b", ver(1, 4), ver(17, 1)), want, i, p)
			check(t, "Add", know.Add(with(own, i, p), "", ver(1, 4)), own, i, p)
		}
	}
}

// P15.3: what two lists make, whose ranges are apart, touch, stand over one another, and are the same, with sets that are the same, that have some versions in common, and none.
func TestTwo(t *testing.T) {
	s, more, other := known(1, run(1, 3)), known(1, run(2, 4)), one(2, 7)
	sum, head, tail := known(1, run(1, 4)), one(1, 1), one(1, 4)
	for _, c := range []two{
		{}, {a: list{}, b: nil}, {a: list{}, b: list{}}, {a: list{{}}, b: nil}, {a: list{piece(from(""))}, b: list{piece(from(""), known(1))}},
		{list{piece(from(""), s)}, nil, list{piece(from(""), s)}, list{piece(from(""), s)}, nil},
		{list{piece(to("a", "b"), s), piece(to("b", "c"), more)}, list{}, list{piece(to("a", "b"), s), piece(to("b", "c"), more)}, list{piece(to("a", "b"), s), piece(to("b", "c"), more)}, nil},
		// Apart, also by just one text.
		{list{piece(to("a", "b"), s)}, list{piece(to("c", "d"), s)}, list{piece(to("a", "b"), s), piece(to("c", "d"), s)}, list{piece(to("a", "b"), s)}, list{piece(to("c", "d"), s)}},
		{list{piece(to("a", "b"), s)}, list{piece(to("b\x00", "d"), s)}, list{piece(to("a", "b"), s), piece(to("b\x00", "d"), s)}, list{piece(to("a", "b"), s)}, list{piece(to("b\x00", "d"), s)}},
		{list{piece(to("a", "b"), s)}, list{piece(from("c"), other)}, list{piece(to("a", "b"), s), piece(from("c"), other)}, list{piece(to("a", "b"), s)}, list{piece(from("c"), other)}},
		// They end where the other begins.
		{list{piece(to("a", "b"), s)}, list{piece(to("b", "c"), s)}, list{piece(to("a", "c"), s)}, list{piece(to("a", "b"), s)}, list{piece(to("b", "c"), s)}},
		{list{piece(to("a", "b"), s)}, list{piece(to("b", "c"), more)}, list{piece(to("a", "b"), s), piece(to("b", "c"), more)}, list{piece(to("a", "b"), s)}, list{piece(to("b", "c"), more)}},
		{list{piece(to("", "b"), s)}, list{piece(from("b"), other)}, list{piece(to("", "b"), s), piece(from("b"), other)}, list{piece(to("", "b"), s)}, list{piece(from("b"), other)}},
		{list{piece(to("", "b"), s)}, list{piece(from("b"), s)}, list{piece(from(""), s)}, list{piece(to("", "b"), s)}, list{piece(from("b"), s)}},
		// They stand over one another.
		{list{piece(to("a", "c"), s)}, list{piece(to("b", "d"), s)}, list{piece(to("a", "d"), s)}, list{piece(to("a", "b"), s)}, list{piece(to("c", "d"), s)}},
		{
			list{piece(to("a", "c"), s)}, list{piece(to("b", "d"), more)},
			list{piece(to("a", "b"), s), piece(to("b", "c"), sum), piece(to("c", "d"), more)}, list{piece(to("a", "b"), s), piece(to("b", "c"), head)}, list{piece(to("b", "c"), tail), piece(to("c", "d"), more)},
		},
		{
			list{piece(to("a", "c"), s)}, list{piece(to("b", "d"), other)},
			list{piece(to("a", "b"), s), piece(to("b", "c"), s, other), piece(to("c", "d"), other)}, list{piece(to("a", "c"), s)}, list{piece(to("b", "d"), other)},
		},
		{
			list{piece(to("a", "b\x00"), s)}, list{piece(from("b"), more, other)},
			list{piece(to("a", "b"), s), piece(to("b", "b\x00"), sum, other), piece(from("b\x00"), more, other)}, list{piece(to("a", "b"), s), piece(to("b", "b\x00"), head)}, list{piece(to("b", "b\x00"), tail, other), piece(from("b\x00"), more, other)},
		},
		// The one lies within the other, or begins or ends as it does.
		{list{piece(to("a", "d"), s)}, list{piece(to("b", "c"), s)}, list{piece(to("a", "d"), s)}, list{piece(to("a", "b"), s), piece(to("c", "d"), s)}, nil},
		{list{piece(to("a", "d"), sum)}, list{piece(to("b", "c"), s)}, list{piece(to("a", "d"), sum)}, list{piece(to("a", "b"), sum), piece(to("b", "c"), tail), piece(to("c", "d"), sum)}, nil},
		{list{piece(to("a", "d"), s)}, list{piece(to("b", "c"), sum)}, list{piece(to("a", "b"), s), piece(to("b", "c"), sum), piece(to("c", "d"), s)}, list{piece(to("a", "b"), s), piece(to("c", "d"), s)}, list{piece(to("b", "c"), tail)}},
		{list{piece(to("a", "d"), s)}, list{piece(to("b", "c"), other)}, list{piece(to("a", "b"), s), piece(to("b", "c"), s, other), piece(to("c", "d"), s)}, list{piece(to("a", "d"), s)}, list{piece(to("b", "c"), other)}},
		{list{piece(from(""), s)}, list{piece(to("", "b"), s)}, list{piece(from(""), s)}, list{piece(from("b"), s)}, nil},
		{list{piece(from(""), s)}, list{piece(from("b"), s, other)}, list{piece(to("", "b"), s), piece(from("b"), s, other)}, list{piece(to("", "b"), s)}, list{piece(from("b"), other)}},
		{list{piece(to("a", "b"), s)}, list{piece(from("a"), more)}, list{piece(to("a", "b"), sum), piece(from("b"), more)}, list{piece(to("a", "b"), head)}, list{piece(to("a", "b"), tail), piece(from("b"), more)}},
		// They are the same.
		{list{piece(to("a", "b"), s)}, list{piece(to("a", "b"), s)}, list{piece(to("a", "b"), s)}, nil, nil},
		{list{piece(from(""), s, other)}, list{piece(from(""), s, other)}, list{piece(from(""), s, other)}, nil, nil},
		{list{piece(to("a", "b"), s)}, list{piece(to("a", "b"), more)}, list{piece(to("a", "b"), sum)}, list{piece(to("a", "b"), head)}, list{piece(to("a", "b"), tail)}},
		{list{piece(from(""), s)}, list{piece(from(""), other)}, list{piece(from(""), s, other)}, list{piece(from(""), s)}, list{piece(from(""), other)}},
		{list{piece(from(""), known(16, run(1, last)))}, list{piece(from(""), one(16, last))}, list{piece(from(""), known(16, run(1, last)))}, list{piece(from(""), known(16, run(1, last-1)))}, nil},
	} {
		c.check(t)
		checkTwo(t, c.a, c.b)
		checkOne(t, c.a)
	}
}

// P15.3: what two lists of several pieces make, also such as aren't right.
func TestTwoOfSeveral(t *testing.T) {
	s, more, other := known(1, run(1, 3)), known(1, run(1, 4)), one(2, 7)
	for _, c := range []two{
		// By turns.
		{
			list{piece(to("a", "b"), s), piece(to("c", "d"), s), piece(to("e", "f"), s)}, list{piece(to("b", "c"), s), piece(to("d", "e"), s)},
			list{piece(to("a", "f"), s)}, list{piece(to("a", "b"), s), piece(to("c", "d"), s), piece(to("e", "f"), s)}, list{piece(to("b", "c"), s), piece(to("d", "e"), s)},
		},
		{
			list{piece(to("a", "b"), s), piece(to("b", "c"), more), piece(from("c"), s)}, list{piece(from(""), s)},
			list{piece(to("", "b"), s), piece(to("b", "c"), more), piece(from("c"), s)}, list{piece(to("b", "c"), one(1, 4))}, list{piece(to("", "a"), s)},
		},
		{
			list{piece(to("", "m"), s), piece(from("m"), other)}, list{piece(to("", "m"), other), piece(from("m"), s)},
			list{piece(from(""), s, other)}, list{piece(to("", "m"), s), piece(from("m"), other)}, list{piece(to("", "m"), other), piece(from("m"), s)},
		},
		// What is left of several pieces is the same, and one piece.
		{
			list{piece(to("a", "b"), s), piece(to("b", "c"), more), piece(to("c", "d"), s, other)}, list{piece(to("b", "c"), one(1, 4)), piece(to("c", "d"), other)},
			list{piece(to("a", "b"), s), piece(to("b", "c"), more), piece(to("c", "d"), s, other)}, list{piece(to("a", "d"), s)}, nil,
		},
		{
			list{piece(to("a", "c"), s), piece(from("c"), other)}, list{piece(to("b", "x"), more)},
			list{piece(to("a", "b"), s), piece(to("b", "c"), more), piece(to("c", "x"), more, other), piece(from("x"), other)}, list{piece(to("a", "b"), s), piece(from("c"), other)}, list{piece(to("b", "c"), one(1, 4)), piece(to("c", "x"), more)},
		},
		// They aren't right, but have the same.
		{a: list{piece(to("a", "b"), s), piece(to("b", "c"), s)}, b: list{piece(to("a", "c"), s)}, join: list{piece(to("a", "c"), s)}},
		{a: list{piece(to("c", "d"), other), piece(to("a", "b"), s)}, b: list{piece(to("a", "b"), s), piece(to("c", "d"), other)}, join: list{piece(to("a", "b"), s), piece(to("c", "d"), other)}},
		{a: list{piece(from(""), other, s), piece(from(""), other)}, b: list{piece(from(""), s), piece(from("a"), other), piece(to("", "b"), other)}, join: list{piece(from(""), s, other)}},
		// They aren't right, and differ: out of order, one on top of another, a set that isn't.
		{
			list{piece(from("c"), other, s), piece(to("a", "d"), one(1, 4)), piece(to("a", "c"), s)}, list{piece(to("b", "c"), more), piece(from("c"), one(2, 7), one(2, 7))},
			list{piece(to("a", "c"), more), piece(to("c", "d"), more, other), piece(from("d"), s, other)}, list{piece(to("a", "b"), more), piece(to("c", "d"), more), piece(from("d"), s)}, nil,
		},
		{
			list{piece(to("a", "b"), s), piece(to("b", "a"), other), piece(to("b", "c"), s)}, list{piece(to("a", "b")), piece(to("b", "c"), known(1), one(1, 2))},
			list{piece(to("a", "c"), s)}, list{piece(to("a", "b"), s), piece(to("b", "c"), known(1, run(1, 1), run(3, 3)))}, nil,
		},
		// Edges of just MaxEdge bytes, and byte by byte, as numbers.
		{
			list{piece(to("", long("k", 17)), s)}, list{piece(from(long("k", 16)), other)},
			list{piece(to("", long("k", 16)), s), piece(to(long("k", 16), long("k", 17)), s, other), piece(from(long("k", 17)), other)}, list{piece(to("", long("k", 17)), s)}, list{piece(from(long("k", 16)), other)},
		},
		{
			list{piece(to("a", "\x80"), s)}, list{piece(to("\x7f", "\xff"), s)},
			list{piece(to("a", "\xff"), s)}, list{piece(to("a", "\x7f"), s)}, list{piece(to("\x80", "\xff"), s)},
		},
	} {
		c.check(t)
		checkTwo(t, c.a, c.b)
		c.a, c.b = turnedRound(c.a), append(copied(c.b), turnedRound(c.b)...)
		c.check(t)
	}
}

// P15.3: Join of no list, of one, and of several.
func TestJoin(t *testing.T) {
	s, more, other := known(1, run(1, 3)), known(1, run(1, 4)), one(2, 7)
	for _, c := range []struct {
		l    []list
		want list
	}{
		{nil, nil}, {[]list{}, nil}, {[]list{nil}, nil}, {[]list{nil, {}, nil}, nil}, {[]list{{piece(from(""), s)}}, list{piece(from(""), s)}}, {[]list{nil, {piece(from(""), s)}, {}}, list{piece(from(""), s)}},
		{[]list{{piece(to("b", "c"), s), piece(to("a", "b"), s)}}, list{piece(to("a", "c"), s)}}, {[]list{{piece(to("c", "d"), s)}, {piece(to("b", "c"), s)}, {piece(to("a", "b"), s)}}, list{piece(to("a", "d"), s)}},
		{[]list{{piece(from(""), s)}, {piece(from("a"), one(1, 4))}, {piece(from("b"), other)}}, list{piece(to("", "a"), s), piece(to("a", "b"), more), piece(from("b"), more, other)}},
		{[]list{{piece(from(""), one(1, 1))}, {piece(from(""), one(1, 2))}, {piece(from(""), one(1, 3))}, {piece(from(""), one(2, 7))}, {piece(from(""), one(1, 2))}}, list{piece(from(""), s, other)}},
		{[]list{{piece(to("a", "b"), s)}, {piece(to("b", "a"), s)}, {{}}, {piece(to("b", "c")), piece(to("a", "b"), other, s)}}, list{piece(to("a", "b"), s, other)}},
		{[]list{{piece(to("", "a"), s), piece(from("b"), s)}, {piece(to("a", "b"), more)}, {piece(from(""), one(1, 4))}}, list{piece(from(""), more)}},
	} {
		turned := slices.Clone(c.l)
		slices.Reverse(turned)
		for _, l := range [][]list{c.l, turned, slices.Concat(c.l, turned)} {
			check(t, "Join", know.Join(l...), c.want, l)
			check(t, "Of", know.Of(slices.Concat(l...)...), c.want, l)
		}
	}
	check(t, "Join", know.Join(), nil)
}

// P15.3: Restrict, of lists and ranges that the words name.
func TestRestrict(t *testing.T) {
	s, more, other := known(1, run(1, 3)), known(1, run(1, 4)), one(2, 7)
	three := list{piece(to("b", "d"), s), piece(to("d", "f"), more), piece(to("g", "i"), other)}
	for _, c := range []struct {
		k    list
		l    texts
		want list
	}{
		// No piece, no range, all texts.
		{nil, nil, nil}, {list{}, texts{}, nil}, {nil, everything(), nil}, {three, nil, nil}, {three, texts{}, nil}, {three, everything(), three}, {list{piece(from(""), s, other)}, everything(), list{piece(from(""), s, other)}},
		// Ahead of all, between, behind.
		{three, texts{to("", "b")}, nil}, {three, texts{to("f", "g")}, nil}, {three, texts{from("i")}, nil}, {three, texts{to("", "b"), to("f", "g"), from("i")}, nil}, {three, texts{to("a", "b\x00")}, list{piece(to("b", "b\x00"), s)}}, {three, texts{to("h\xff", "z")}, list{piece(to("h\xff", "i"), other)}},
		// Within one piece, over several, as one begins or ends.
		{three, texts{to("b", "d")}, list{piece(to("b", "d"), s)}}, {three, texts{to("c", "d")}, list{piece(to("c", "d"), s)}}, {three, texts{to("b", "c")}, list{piece(to("b", "c"), s)}}, {three, texts{to("c", "e")}, list{piece(to("c", "d"), s), piece(to("d", "e"), more)}},
		{three, texts{to("c", "h")}, list{piece(to("c", "d"), s), piece(to("d", "f"), more), piece(to("g", "h"), other)}}, {three, texts{from("e")}, list{piece(to("e", "f"), more), piece(to("g", "i"), other)}}, {three, texts{to("d", "g")}, list{piece(to("d", "f"), more)}},
		{three, texts{span.Of("d")}, list{piece(to("d", "d\x00"), more)}}, {three, texts{span.Of("f")}, nil}, {three, texts{span.Prefix("c")}, list{piece(to("c", "d"), s)}},
		// Several ranges, in one piece and in several.
		{list{piece(from(""), s)}, texts{to("a", "b"), to("c", "d"), from("x")}, list{piece(to("a", "b"), s), piece(to("c", "d"), s), piece(from("x"), s)}}, {list{piece(from(""), s)}, texts{to("a", "b"), to("b\x00", "c")}, list{piece(to("a", "b"), s), piece(to("b\x00", "c"), s)}},
		{three, texts{to("a", "c"), to("c\x00", "e"), from("h")}, list{piece(to("b", "c"), s), piece(to("c\x00", "d"), s), piece(to("d", "e"), more), piece(to("h", "i"), other)}}, {three, texts{to("b", "d"), to("g", "i")}, list{three[0], three[2]}}, {three, texts{to("d", "f"), to("f\x00", "h"), from("h\x00")}, list{three[1], piece(to("g", "h"), other), piece(to("h\x00", "i"), other)}},
		// Open ones.
		{list{piece(from("b"), s)}, texts{from("a")}, list{piece(from("b"), s)}}, {list{piece(from("a"), s)}, texts{from("b")}, list{piece(from("b"), s)}}, {list{piece(from("b"), s)}, texts{to("", "c")}, list{piece(to("b", "c"), s)}}, {list{piece(to("a", "b"), s), piece(from("b"), more)}, texts{from("")}, list{piece(to("a", "b"), s), piece(from("b"), more)}},
		// Ranges that aren't right, touch, or stand in any order.
		{three, texts{to("d", "e"), to("c", "d")}, list{piece(to("c", "d"), s), piece(to("d", "e"), more)}}, {three, texts{from("h"), to("b", "c"), to("", "c"), {}}, list{piece(to("b", "c"), s), piece(to("h", "i"), other)}}, {list{piece(from(""), s)}, texts{to("b", "c"), to("a", "b")}, list{piece(to("a", "c"), s)}},
		{three, sample.Wrong(), nil}, {three, texts{{Lo: "a", Hi: "z", Open: true}}, nil}, {three, texts{to("z", "a"), to("d", "e")}, list{piece(to("d", "e"), more)}},
		// Lists that aren't right.
		{list{piece(to("b", "c"), s), piece(to("a", "b"), s)}, texts{to("a", "b\x00")}, list{piece(to("a", "b\x00"), s)}}, {list{piece(from("a"), other), piece(from("b"), s)}, texts{to("", "c")}, list{piece(to("a", "b"), other), piece(to("b", "c"), s, other)}}, {list{piece(from(""), other, s), piece(from(""))}, texts{to("a", "b")}, list{piece(to("a", "b"), s, other)}},
		{idle(), everything(), nil}, {list{piece(to("c", "b"), s)}, texts{to("a", "d")}, nil},
		// Edges of just MaxEdge bytes.
		{list{piece(to("", long("k", 17)), s)}, texts{from(long("k", 16))}, list{piece(to(long("k", 16), long("k", 17)), s)}}, {list{piece(from(long("\xff", 16)), s)}, texts{from(long("\xff", 17))}, list{piece(from(long("\xff", 17)), s)}},
	} {
		check(t, "Restrict", know.Restrict(c.k, c.l), c.want, c.k, c.l)
		checkRestrict(t, c.k, c.l)
		turned := slices.Clone(c.l)
		slices.Reverse(turned)
		check(t, "Restrict", know.Restrict(turnedRound(c.k), append(turned, c.l...)), c.want, c.k, c.l)
	}
}

// P15.3: what has nothing, in each list of each call, wherever it stands: as if it weren't there; and what isn't right and has something.
func TestTwoWrong(t *testing.T) {
	s, more, other := known(1, run(1, 3)), known(1, run(1, 4)), one(2, 7)
	c := two{
		list{piece(to("b", "d"), s), piece(from("x"), more)}, list{piece(to("a", "c"), more), piece(to("c", "e"), s, other)},
		list{piece(to("a", "c"), more), piece(to("c", "e"), s, other), piece(from("x"), more)}, list{piece(from("x"), more)},
		list{piece(to("a", "b"), more), piece(to("b", "c"), one(1, 4)), piece(to("c", "d"), other), piece(to("d", "e"), s, other)},
	}
	l := texts{to("c", "d"), from("y")}
	for i := range len(c.a) + 1 {
		for _, p := range idle() {
			a, b := with(c.a, i, p), with(c.b, i, p)
			for _, d := range [][2]list{{a, c.b}, {c.a, b}, {a, b}} {
				two{d[0], d[1], c.join, c.less, c.more}.check(t)
			}
			check(t, "Restrict", know.Restrict(a, l), list{piece(to("c", "d"), s), piece(from("y"), more)}, a, l)
		}
		for _, k := range bent() {
			p := piece(to("c", "d"), k)
			checkTwo(t, with(c.a, i, p), c.b)
			checkTwo(t, c.a, with(c.b, i, p))
			check(t, "Restrict", know.Restrict(with(c.a, i, p), l), list{piece(to("c", "d"), s, known(2, run(3, 4))), piece(from("y"), more)}, i, k)
		}
		for _, r := range sample.Wrong() {
			with := slices.Insert(slices.Clone(l), i, r)
			check(t, "Restrict", know.Restrict(c.a, with), list{piece(to("c", "d"), s), piece(from("y"), more)}, with)
			check(t, "Restrict", know.Restrict(c.a, texts{r}), nil, r)
		}
	}
	for _, p := range idle() {
		for _, none := range []list{nil, {}, {p}, {p, p}, idle()} {
			two{a: none, b: c.a, join: c.a, more: c.a}.check(t)
			two{a: none, b: list{p}}.check(t)
			check(t, "Restrict", know.Restrict(none, l), nil, none)
		}
	}
}

// few are pieces by some edges, right and not, of few versions.
func few(edges []string, sets ...set) list {
	l := list{{}, piece(from("")), piece(to("b", "a"), one(1, 1)), piece(api.Range{Lo: "a", Hi: "b", Open: true}, one(1, 1)), piece(from("a"), one(17, 1), known(1))}
	for _, r := range sample.All(edges) {
		if sample.RightRange(r) {
			for _, s := range sets {
				l = append(l, piece(r, s...))
			}
		}
	}
	return l
}

// P15.1 and P15.2: all lists of up to three of a few pieces, right or not, as the words say.
func TestOneByWords(t *testing.T) {
	for _, k := range sample.Lists(few([]string{"", "a", "b"}, set{one(1, 1)}, set{known(1, run(1, 2))}, set{one(2, 1), one(1, 1)}), 3) {
		checkOne(t, k)
	}
	for _, k := range sample.Lists(few([]string{"", "a", "a\x00", "b"}, set{one(1, 1)}, set{one(1, 2)}, set{one(2, 1)}), 2) {
		checkOne(t, k)
		for _, s := range []string{"", "a", "a\x00", "aa", long("a", 17)} {
			checkAdd(t, k, s, ver(1, 2), ver(0, 1))
		}
	}
}

// P15.3: all pairs of lists of up to two of a few pieces, right or not, as the words say.
func TestTwoByWords(t *testing.T) {
	some := sample.Lists(few([]string{"", "a", "b"}, set{one(1, 1)}, set{known(1, run(1, 2))})[1:], 2)
	for i, a := range some {
		for _, b := range some[i:] {
			checkTwo(t, a, b)
		}
	}
}

// P15.2 and P15.3: all lists of up to two of a few pieces, and all lists of up to two ranges, right or not, as the words say.
func TestRangesByWords(t *testing.T) {
	edges := []string{"", "a", "b"}
	some := sample.Lists(sample.All(edges), 2)
	sets := sample.Lists(set{one(1, 1), known(1, run(2, 3)), one(2, 1), one(17, 1)}, 2)
	for _, l := range some {
		for _, s := range sets {
			checkAll(t, l, s)
		}
	}
	for _, k := range sample.Lists(few(edges, set{one(1, 1)}, set{known(1, run(1, 2))}), 2) {
		for _, l := range some {
			checkRestrict(t, k, l)
		}
	}
}

// P15.1 to P15.3: drawn lists of more pieces, as the words say, by all edges and numbers that matter, and by few.
func TestDrawnByWords(t *testing.T) {
	small := []int{0, 1, 2, 3, 4}
	for seed := range 1000 {
		for _, some := range []struct {
			edges   []string
			numbers []int
		}{{edges(), numbers()}, {[]string{"", "a", "a\x00", "b", "c"}, small}, {edges(), small}} {
			roll := sample.Draw(seed)
			a, b := drawnList(roll, some.edges, some.numbers), drawnList(roll, some.edges, some.numbers)
			checkOne(t, a)
			checkTwo(t, a, b)
			checkTwo(t, a, turnedRound(a))
			checkTwo(t, know.Of(a...), know.Join(a, b))
			l := sample.DrawnRanges(roll, some.edges)
			checkRestrict(t, a, l)
			checkAll(t, l, sample.DrawnSet(roll, some.numbers))
			checkAdd(t, a, some.edges[roll(len(some.edges))], sample.DrawnVersions(roll, some.numbers)...)
		}
	}
}

// P15.1 to P15.3: what is answered has just what it should of all texts, also of such as stand between the edges, and far behind them.
func TestProbes(t *testing.T) {
	probes := sample.Near(edges())
	asked := versions{ver(1, 1), ver(1, 2), ver(1, 4), ver(2, 1), ver(2, 3), ver(3, 2), ver(16, 4), ver(17, 1), ver(1, 0)}
	for seed := range 500 {
		roll := sample.Draw(seed)
		a, b, l := drawnList(roll, edges(), []int{0, 1, 2, 3, 4}), drawnList(roll, edges(), []int{0, 1, 2, 3, 4}), sample.DrawnRanges(roll, edges())
		s := probes[roll(len(probes))]
		of, join, less, only, all, add := know.Of(a...), know.Join(a, b), know.Less(a, b), know.Restrict(a, l), know.All(l, set{one(1, 2), one(16, 4)}), know.Add(a, s, ver(1, 2), ver(2, 3))
		for _, p := range probes {
			in := sample.HasText(l, p)
			for _, v := range asked {
				inA, inB, added := hasByWords(a, p, v), hasByWords(b, p, v), p == s && len(s) >= 1 && len(s) <= 16 && (v == ver(1, 2) || v == ver(2, 3))
				if know.Has(a, p, v) != inA || know.Has(of, p, v) != inA || know.Has(join, p, v) != (inA || inB) || know.Has(less, p, v) != (inA && !inB) || know.Has(only, p, v) != (inA && in) || know.Has(all, p, v) != (in && (v == ver(1, 2) || v == ver(16, 4))) || know.Has(add, p, v) != (inA || added) {
					t.Fatalf("%#v, %#v and %#v, of %#v and %v, %#v added", a, b, l, p, v, s)
				}
			}
			if got, want := know.At(of, p), know.At(a, p); !equal(got, want) {
				t.Fatalf("At(%#v, %#v) = %v, want %v", of, p, got, want)
			}
		}
	}
}

// P15.4: each knowledge has one right list, and no other one: so right lists are the same, in all their parts, if they have the same versions of all texts.
func TestRightOnce(t *testing.T) {
	var right []list
	for _, k := range sample.Lists(few([]string{"", "a", "a\x00"}, set{one(1, 1)}, set{one(2, 1)}, set{one(1, 1), one(2, 1)}, set{one(2, 1), one(1, 1)}, nil), 3) {
		if know.Right(k) {
			right = append(right, k)
		}
	}
	// Of each of three ranges that the edges part, it has none of two versions, one of them, or both.
	if len(right) != 64 {
		t.Errorf("%d right lists by three edges, of two versions, want 64", len(right))
	}
	for i, a := range right {
		for j, b := range right {
			alike := true
			for _, s := range []string{"", "a", "a\x00"} {
				for _, v := range []api.Version{ver(1, 1), ver(2, 1)} {
					alike = alike && hasByWords(a, s, v) == hasByWords(b, s, v)
				}
			}
			if alike != (i == j) || sameList(a, b) != alike || know.Same(a, b) != alike || sameList(know.Of(a...), know.Of(b...)) != alike || (know.Within(a, b) && know.Within(b, a)) != alike {
				t.Fatalf("%#v and %#v: alike %t", a, b, alike)
			}
		}
		check(t, "Of", know.Of(a...), a, a)
	}
}

// P15.4: what is answered for the same versions of the same texts, on whatever way, is the same, in all its parts.
func TestWays(t *testing.T) {
	var every set
	for n := 1; n <= 16; n++ {
		every = append(every, known(n, run(1, last)))
	}
	all := know.All(everything(), every)
	check(t, "All", all, list{piece(from(""), every...)})
	for seed := range 1500 {
		roll := sample.Draw(seed)
		a, b, l := drawnList(roll, edges(), numbers()), drawnList(roll, edges(), numbers()), sample.DrawnRanges(roll, edges())
		turned, of := turnedRound(a), know.Of(a...)
		var single, parts []list
		for _, p := range a {
			single = append(single, list{p})
			for _, k := range p.Set {
				parts = append(parts, know.All(texts{p.Range}, set{k}))
			}
		}
		for _, k := range []list{
			know.Of(turned...), know.Of(append(turnedRound(a), a...)...), know.Of(of...), know.Join(single...), know.Join(parts...), know.Join(of, turned, a), know.Join(nil, a, nil), know.Add(turned, "a"), know.Add(a, "", ver(1, 1)), know.Add(a, "a", api.Version{}),
			know.Less(a, nil), know.Less(a, know.Less(b, b)), know.Join(know.Less(a, b), know.Less(a, know.Less(a, b))), know.Less(know.Join(a, b), know.Less(b, a)), know.Less(all, know.Less(all, a)),
			know.Restrict(turned, everything()), know.Restrict(a, rangesOf(a)), know.Join(know.Restrict(a, l), know.Restrict(turned, ranges.Not(l))), know.Join(know.Restrict(a, l), know.Less(a, know.All(l, every))),
		} {
			check(t, "another way", k, of, a, b)
		}
		check(t, "Restrict", know.Restrict(a, l), know.Less(a, know.All(ranges.Not(l), every)), a, l)
		if !know.Same(turned, a) || !know.Same(a, of) || !know.Within(of, turned) || !know.Within(turned, of) || know.Same(a, b) != sameList(of, know.Of(b...)) {
			t.Fatalf("Same and Within of %#v, %#v and %#v", a, turned, b)
		}
	}
}

// P15.4: versions that are added one by one, in any order, make the same list as all at once.
func TestOneByOne(t *testing.T) {
	for seed := range 200 {
		roll := sample.Draw(seed)
		var k, all list
		keys := []string{"", "a", "a\x00", "a\x00\x00", "b", "\xff", long("k", 16), long("k", 17)}
		for range roll(40) {
			s, v := keys[roll(len(keys))], ver(roll(4), roll(5))
			k = know.Add(k, s, v)
			if len(s) >= 1 && len(s) <= 16 {
				all = append(all, piece(span.Of(s), one(v.Replica, v.Count)))
			}
			check(t, "Add", k, know.Of(all...), all)
			check(t, "Add", k, ofByWords(all), all)
		}
		for _, p := range all {
			v := ver(p.Set[0].Replica, p.Set[0].Runs[0].From)
			if got := know.Has(k, p.Range.Lo, v); got != sample.RightVersion(v) {
				t.Fatalf("Has(%#v, %#v, %v) = %t", k, p.Range.Lo, v, got)
			}
			check(t, "Add", know.Add(k, p.Range.Lo, v), k, k, p)
		}
	}
}

// args are what all calls are handed.
type args struct {
	a, b list
	l    texts
	s    set
	v    versions
}

// calls are all calls that answer lists.
func calls() []func(x args) list {
	return []func(x args) list{
		func(x args) list { return know.Of(x.a...) },
		func(x args) list { return know.All(x.l, x.s) },
		func(x args) list { return know.All(texts{to("a", "c"), to("e", "f"), from("x")}, x.s) },
		func(x args) list { return know.Add(x.a, "b", x.v...) },
		func(x args) list { return know.Add(x.a, "", x.v...) },
		func(x args) list { return know.Add(nil, "b", x.v...) },
		func(x args) list { return know.Add(x.a, "b") },
		func(x args) list { return know.Join(x.a) },
		func(x args) list { return know.Join(x.a, x.b) },
		func(x args) list { return know.Join(x.a, nil) },
		func(x args) list { return know.Join(nil, x.b, x.a, x.b) },
		func(x args) list { return know.Restrict(x.a, x.l) },
		func(x args) list { return know.Restrict(x.a, everything()) },
		func(x args) list { return know.Restrict(x.a, texts{to("a", "b\x00"), to("bb", "bc"), from("bd")}) },
		func(x args) list { return know.Less(x.a, x.b) },
		func(x args) list { return know.Less(x.a, nil) },
		func(x args) list { return know.Less(x.b, x.a) },
	}
}

// ask makes the calls that answer no list.
func ask(x args) {
	know.Right(x.a)
	know.Has(x.a, "b", ver(1, 3))
	know.At(x.a, "b")
	know.Same(x.a, x.b)
	know.Within(x.a, x.b)
}

// handed are lists that the tests of what is handed in hand in, right ones and others.
func handed() []list {
	s, more, other := known(1, run(1, 3), run(5, 6)), known(1, run(1, 4)), known(2, run(5, 7), run(1, 2), run(0, 4))
	return []list{
		{piece(to("a", "b"), s), piece(to("b", "c"), more, one(2, 7)), piece(from("c"), s)},
		{piece(to("", "b"), s, one(16, last))},
		{piece(from(""), known(1, run(1, 3)), known(2, run(1, 3)), known(3, run(1, 3)))},
		{piece(from("c"), s), piece(to("a", "d"), other, one(17, 1), s), {}, piece(to("b", "a"), s), piece(to("b", "c"), more), piece(from(""))},
		{piece(from("a"), other), piece(from("a"), other), piece(from(""), known(1, run(4, 4), run(1, 2)))},
		{piece(to("a", "b"), s), piece(to("b", "c"), s), piece(to("b", "b\x00"), one(1, 4))},
	}
}

// P15.1 to P15.3, and rule 5: what is handed in is as it was, also ahead of it and behind its end.
func TestHandedIn(t *testing.T) {
	for _, a := range handed() {
		for _, b := range handed() {
			p, q, keptP, keptQ := laid(a), laid(b), laid(a), laid(b)
			s, runs := sample.Roomy(a[0].Set)
			l, v := texts{to("b", "d"), {}, from("x"), to("a", "b"), to("zz", "z")}, versions{ver(2, 4), ver(0, 1), ver(1, 4), ver(16, last), ver(1, 4)}
			keptRuns, keptL, keptV := slices.Clone(runs), slices.Clone(l), slices.Clone(v)
			for n := range len(a) + 1 {
				for m := range n + 1 {
					x := args{p.List[m:n], q.List[:min(n, len(q.List))], l[:4], s, v[:3]}
					ask(x)
					for i, call := range calls() {
						got, again := call(x), call(x)
						want := copied(got)
						spoil(got)
						if !p.Same(keptP) || !q.Same(keptQ) || !equal(s, a[0].Set) || !slices.Equal(runs, keptRuns) || !slices.Equal(l, keptL) || !slices.Equal(v, keptV) {
							t.Fatalf("call %d of those from %d to %d of %#v and %#v: what was handed in is another one", i, m, n, a, b)
						}
						if !sameList(again, want) {
							t.Fatalf("call %d of those from %d to %d: %#v, and again %#v", i, m, n, want, again)
						}
					}
				}
			}
		}
	}
}

// P15.1 to P15.3, and rule 5: an answer shares nothing with what was handed in, and no two of its lists share anything.
func TestAnswersOwn(t *testing.T) {
	for _, a := range handed() {
		for i, call := range calls() {
			p, q := laid(a), laid(handed()[0])
			s, runs := sample.Roomy(a[0].Set)
			x := args{p.List, q.List, texts{to("b", "d"), from("x"), to("a", "b")}, s, versions{ver(2, 4), ver(0, 1), ver(16, last), ver(1, 4)}}
			got := call(x)
			want := copied(got)
			for _, r := range []sample.Place{p, q} {
				clear(r.Runs)
				spoil(r.List)
			}
			clear(runs)
			sample.Spoil(s)
			clear(x.l)
			clear(x.v)
			if !sameList(got, want) {
				t.Fatalf("call %d: the answer became %#v, was %#v", i, got, want)
			}
			for j, p := range got {
				for n := range p.Set {
					sample.Spoil(p.Set[n : n+1 : n+1])
					if !equal(p.Set[n+1:], want[j].Set[n+1:]) {
						t.Fatalf("call %d: the answer's set became %v, was %v", i, p.Set, want[j].Set)
					}
				}
				spoil(got[j : j+1 : j+1])
				if !sameList(got[j+1:], want[j+1:]) {
					t.Fatalf("call %d: the answer became %#v, was %#v", i, got[j+1:], want[j+1:])
				}
			}
		}
	}
}

// P15.1, and rule 5: what At answers shares nothing with what was handed in, nor among its lists.
func TestAtOwn(t *testing.T) {
	for _, k := range handed() {
		for _, s := range []string{"", "a", "b", "c", "x"} {
			p, kept := laid(k), laid(k)
			got := know.At(p.List, s)
			want := clone(got)
			sample.Spoil(got)
			if !p.Same(kept) {
				t.Fatalf("At(%#v, %#v): what was handed in is another one", k, s)
			}
			got = know.At(p.List, s)
			clear(p.Runs)
			spoil(p.List)
			if !equal(got, want) {
				t.Fatalf("At(%#v, %#v) became %v, was %v", k, s, got, want)
			}
			for i := range got {
				sample.Spoil(got[i : i+1 : i+1])
				if !equal(got[i+1:], want[i+1:]) {
					t.Fatalf("At(%#v, %#v) became %v, was %v", k, s, got, want)
				}
			}
		}
	}
}

// P15.1 to P15.3, and rule 1: many pieces, in an order that is none.
func TestMany(t *testing.T) {
	const n = 1 << 12
	name := func(i int) string { return fmt.Sprintf("%05d", i) }
	var odd, even, odds list
	var cut texts
	whole := list{piece(to(name(0), name(2*n)), known(1, run(1, 3)))}
	for i := range n {
		// 5 and n have nothing in common, so each place comes once.
		k := i * 5 % n
		odd = append(odd, piece(to(name(2*k+1), name(2*k+2)), known(1, run(1, 3))))
		even = append(even, piece(to(name(2*k), name(2*k+1)), known(1, run(1, 3))))
		odds = append(odds, piece(to(name(2*i+1), name(2*i+2)), known(1, run(1, 3))))
		cut = append(cut, to(name(2*k+1), name(2*k+2)))
	}
	check(t, "Of", know.Of(odd...), odds)
	check(t, "Join", know.Join(odd, even), whole)
	check(t, "Less", know.Less(whole, even), odds)
	check(t, "Less", know.Less(odd, even), odds)
	check(t, "Restrict", know.Restrict(whole, cut), odds)
	check(t, "Restrict", know.Restrict(even, cut), nil)
	check(t, "All", know.All(cut, set{known(1, run(1, 3))}), odds)
	if know.Right(odd) || !know.Right(odds) || !know.Within(odd, whole) || know.Within(whole, odd) || !know.Same(append(copied(odd), even...), whole) || know.Same(odd, even) {
		t.Error("many pieces are told apart from what they have")
	}
	var single []list
	for _, p := range append(odd, even...) {
		single = append(single, list{p})
	}
	check(t, "Join", know.Join(single...), whole)
}

// P15.1 to P15.3, and rule 1: many pieces on top of one another, and of many versions.
func TestManyOver(t *testing.T) {
	const n = 1 << 10
	name := func(i int) string { return fmt.Sprintf("%05d", i) }
	var k, want list
	for i := range n {
		j := i * 5 % n
		k = append(k, piece(from(name(j)), one(1, j+1)))
		want = append(want, piece(to(name(i), name(i+1)), known(1, run(1, i+1))))
	}
	want[n-1].Range = from(name(n - 1))
	check(t, "Of", know.Of(k...), want)
	var all list
	for i := range n {
		all = append(all, piece(from("a"), one(i%16+1, n-i)))
	}
	got := know.Of(all...)
	if len(got) != 1 || len(got[0].Set) != 16 || !know.Right(got) || !know.Same(all, got) {
		t.Errorf("%d pieces of all texts: %d", n, len(got))
	}
	if s := know.At(all, "a"); !equal(s, got[0].Set) {
		t.Errorf("At = %v, want %v", s, got[0].Set)
	}
}

// P15.2, and rule 1: many keys that are added one by one, each with a version of its own, in an order that is none.
func TestManyAdded(t *testing.T) {
	k := know.All(everything(), set{known(1, run(1, 3))})
	const n = 500
	for i := range n {
		k = know.Add(k, fmt.Sprintf("%04d", i*7%n), ver(2, i+1))
	}
	if len(k) != 2*n+1 || !know.Right(k) {
		t.Fatalf("%d pieces", len(k))
	}
	for i := range n {
		s := fmt.Sprintf("%04d", i*7%n)
		if got := know.At(k, s); !equal(got, set{known(1, run(1, 3)), one(2, i+1)}) {
			t.Fatalf("At(%#v) = %v", s, got)
		}
	}
	if got := know.At(k, "0"); !equal(got, set{known(1, run(1, 3))}) {
		t.Errorf("At(0) = %v", got)
	}
}

// Rule 7: numbers of any size, in versions and sets, wherever they are handed in.
func TestNumbers(t *testing.T) {
	for _, r := range sample.Runs(numbers()) {
		for _, replica := range []int{math.MinInt, 0, 1, 16, 17, math.MaxInt} {
			p := piece(to("a", "c"), known(replica, r))
			checkOne(t, list{p})
			checkTwo(t, list{p}, list{piece(from("b"), known(1, run(2, 4), run(last-1, last)), known(16, run(1, 1<<32)))})
		}
	}
}

// Rule 6: each answer hangs on nothing that was called ahead of it.
func TestSameEachTime(t *testing.T) {
	other := list{piece(from("b"), known(1, run(2, 6)), known(16, run(last, last)))}
	for range 3 {
		for _, k := range append(handed(), nil, idle()[:20]) {
			checkOne(t, k)
			checkTwo(t, k, other)
			checkRestrict(t, k, texts{to("a", "b\x00"), from("x")})
			checkAdd(t, k, "b", ver(1, 4), ver(2, 9), ver(16, last), ver(0, 1))
		}
	}
}
