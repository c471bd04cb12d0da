package kcode_test

import (
	"bytes"
	"slices"
	"testing"

	"winnower/api"
	"winnower/kcode"
	"winnower/know"
	"winnower/sample"
	"winnower/span"
	"winnower/vset"
)

// set and list are short names of what the calls take and answer.
type (
	set  = []api.Known
	list = []api.Piece
)

// last is the greatest count.
const last = 1 << 40

// What sets, pieces and bytes are made by here: the tests of several layers have it together.
var (
	to, from, long  = sample.To, sample.From, sample.Long
	run, known, one = sample.Run, sample.Known, sample.One
	piece           = sample.Piece
	number, made    = sample.NumberBytes, sample.Made
)

// ofSets is what is asked of sets.
func ofSets() sample.Code[api.Known] {
	return sample.SetCode("Set", kcode.Set, kcode.ReadSet)
}

// ofPieces is what is asked of knowledge.
func ofPieces() sample.Code[api.Piece] {
	return sample.PieceCode("Know", kcode.Know, kcode.ReadKnow)
}

// all is a list of pieces of all texts, with a set.
func all(s ...api.Known) list {
	return list{piece(from(""), s...)}
}

// allBytes are the bytes of knowledge of all texts, of which some are those of its set.
func allBytes(b []byte) []byte {
	return made(1, 0, 1, b)
}

// checkSetBoth is that a set is put as some bytes and read of them, alone and within knowledge, and that each other byte is told as the words say.
func checkSetBoth(t *testing.T, s set, b []byte) {
	t.Helper()
	ofSets().CheckBoth(t, s, b)
	ofSets().CheckChanged(t, b)
	if len(s) > 0 {
		ofPieces().CheckBoth(t, all(s...), allBytes(b))
	}
}

// P16.1 to P16.3: the chapter's example.
func TestExample(t *testing.T) {
	checkSetBoth(t, set{known(1, run(1, 3), run(6, 6))}, []byte{1, 1, 2, 1, 2, 3, 0})
	checkSetBoth(t, vset.Add(nil, api.Version{Replica: 1, Count: 6}, api.Version{Replica: 1, Count: 3}, api.Version{Replica: 1, Count: 1}, api.Version{Replica: 1, Count: 2}), []byte{1, 1, 2, 1, 2, 3, 0})
}

// P16.1 to P16.3: sets, and their bytes.
func TestSet(t *testing.T) {
	var every set
	everyBytes := made(16)
	for n := 1; n <= 16; n++ {
		every, everyBytes = append(every, known(n, run(n, 2*n), run(3*n+1, 100))), made(everyBytes, n, 2, n, n, n+1, 100-3*n-1)
	}
	for _, c := range []struct {
		s set
		b []byte
	}{
		{nil, made(0)},
		{set{}, made(0)},
		// One replica, one run: one that begins at 1, and others.
		{set{one(1, 1)}, made(1, 1, 1, 1, 0)},
		{set{one(2, 1)}, made(1, 2, 1, 1, 0)},
		{set{one(16, 1)}, made(1, 16, 1, 1, 0)},
		{set{one(3, 2)}, made(1, 3, 1, 2, 0)},
		{set{known(1, run(1, 2))}, made(1, 1, 1, 1, 1)},
		{set{known(1, run(1, 4))}, made(1, 1, 1, 1, 3)},
		{set{known(7, run(5, 9))}, made(1, 7, 1, 5, 4)},
		// Several runs: one that begins just behind the end ahead plus one, and others.
		{set{known(1, run(1, 1), run(3, 3))}, made(1, 1, 2, 1, 0, 2, 0)},
		{set{known(1, run(1, 2), run(4, 9))}, made(1, 1, 2, 1, 1, 2, 5)},
		{set{known(2, run(5, 7), run(9, 9), run(20, 30))}, made(1, 2, 3, 5, 2, 2, 0, 11, 10)},
		{set{known(1, run(2, 2), run(4, 4), run(6, 6), run(8, 8))}, made(1, 1, 4, 2, 0, 2, 0, 2, 0, 2, 0)},
		// Several replicas: the runs of each begin anew.
		{set{one(1, 1), one(2, 1)}, made(2, 1, 1, 1, 0, 2, 1, 1, 0)},
		{set{one(1, 9), one(16, 1)}, made(2, 1, 1, 9, 0, 16, 1, 1, 0)},
		{set{known(1, run(5, 7)), known(2, run(1, 2), run(4, 9)), one(16, 2)}, made(3, 1, 1, 5, 2, 2, 2, 1, 1, 2, 5, 16, 1, 2, 0)},
		{set{known(3, run(1, 3), run(6, 6)), known(4, run(1, 3), run(6, 6))}, made(2, 3, 2, 1, 2, 3, 0, 4, 2, 1, 2, 3, 0)},
		{every, everyBytes},
		// Numbers of more bytes.
		{set{one(1, 127)}, made(1, 1, 1, 127, 0)},
		{set{one(1, 128)}, made(1, 1, 1, 128, 1, 0)},
		{set{one(1, 300)}, made(1, 1, 1, 172, 2, 0)},
		{set{known(1, run(1, 300))}, made(1, 1, 1, 1, 171, 2)},
		{set{known(1, run(128, 255))}, made(1, 1, 1, 128, 1, 127)},
		{set{known(1, run(129, 257))}, made(1, 1, 1, 129, 1, 128, 1)},
		{set{known(1, run(1, 127), run(255, 382))}, made(1, 1, 2, 1, 126, 128, 1, 127)},
		{set{known(1, run(200, 400), run(402, 602)), one(5, 200)}, made(2, 1, 2, 200, 1, 200, 1, 2, 200, 1, 5, 1, 200, 1, 0)},
		{set{one(2, 2), known(16, run(1, 300))}, made(2, 2, 1, 2, 0, 16, 1, 1, 171, 2)},
		{set{known(1, run(1<<31, 1<<31), run(1<<32, 1<<32+1))}, made(1, 1, 2, 128, 128, 128, 128, 8, 0, 128, 128, 128, 128, 8, 1)},
		// The greatest count.
		{set{one(1, last)}, made(1, 1, 1, 128, 128, 128, 128, 128, 32, 0)},
		{set{known(1, run(1, last))}, made(1, 1, 1, 1, 255, 255, 255, 255, 255, 31)},
		{set{known(16, run(last-1, last))}, made(1, 16, 1, 255, 255, 255, 255, 255, 31, 1)},
		{set{known(2, run(1, 1), run(last, last))}, made(1, 2, 2, 1, 0, 255, 255, 255, 255, 255, 31, 0)},
		{set{known(2, run(1, last-2), run(last, last)), one(3, last)}, made(2, 2, 2, 1, 253, 255, 255, 255, 255, 31, 2, 0, 3, 1, 128, 128, 128, 128, 128, 32, 0)},
	} {
		checkSetBoth(t, c.s, c.b)
	}
}

// P16.1 to P16.3: knowledge, and its bytes.
func TestKnow(t *testing.T) {
	s, more, other := known(1, run(1, 3)), known(1, run(1, 4)), one(2, 7)
	for _, c := range []struct {
		k list
		b []byte
	}{
		{nil, made(0)},
		{list{}, made(0)},
		// One piece, open and with a Hi.
		{all(one(1, 1)), made(1, 0, 1, 1, 1, 1, 1, 0)},
		{list{piece(from("a"), s)}, made(1, 1, "a", 1, 1, 1, 1, 1, 2)},
		{list{piece(to("a", "b"), s)}, made(1, 1, "a", 0, 1, "b", 1, 1, 1, 1, 2)},
		{list{piece(to("", "\x00"), other)}, made(1, 0, 0, 1, 0, 1, 2, 1, 7, 0)},
		{list{piece(span.Of("a"), one(1, 2))}, made(1, 1, "a", 0, 2, "a", 0, 1, 1, 1, 2, 0)},
		{list{piece(from("\xff"), known(1, run(1, 3), run(6, 6)), one(16, 300))}, made(1, 1, 255, 1, 2, 1, 2, 1, 2, 3, 0, 16, 1, 172, 2, 0)},
		// Several: apart, with the same set; where one ends at the next one, with another one.
		{list{piece(to("a", "b"), s), piece(to("c", "d"), s)}, made(2, 1, "a", 0, 1, "b", 1, 1, 1, 1, 2, 1, "c", 0, 1, "d", 1, 1, 1, 1, 2)},
		{list{piece(to("a", "b"), s), piece(from("b\x00"), s)}, made(2, 1, "a", 0, 1, "b", 1, 1, 1, 1, 2, 2, "b", 0, 1, 1, 1, 1, 1, 2)},
		{list{piece(to("a", "b"), s), piece(to("b", "c"), more), piece(from("c"), s)}, made(3, 1, "a", 0, 1, "b", 1, 1, 1, 1, 2, 1, "b", 0, 1, "c", 1, 1, 1, 1, 3, 1, "c", 1, 1, 1, 1, 1, 2)},
		{list{piece(to("", "b"), s, other), piece(from("b"), other)}, made(2, 0, 0, 1, "b", 2, 1, 1, 1, 2, 2, 1, 7, 0, 1, "b", 1, 1, 2, 1, 7, 0)},
		{list{piece(to("\x7f", "\x80"), s), piece(to("é", "ü"), other), piece(from("\xff\xfe"), more)},
			made(3, 1, 127, 0, 1, 128, 1, 1, 1, 1, 2, 2, 195, 169, 0, 2, 195, 188, 1, 2, 1, 7, 0, 2, 255, 254, 1, 1, 1, 1, 1, 3)},
		// Edges of just MaxEdge bytes.
		{list{piece(from(long("k", 17)), s)}, made(1, 17, long("k", 17), 1, 1, 1, 1, 1, 2)},
		{list{piece(to(long("k", 17), "l"), s)}, made(1, 17, long("k", 17), 0, 1, "l", 1, 1, 1, 1, 2)},
		{list{piece(to("", long("k", 17)), s)}, made(1, 0, 0, 17, long("k", 17), 1, 1, 1, 1, 2)},
		{list{piece(to(long("k", 16), long("k", 17)), s), piece(from(long("k", 17)), more)}, made(2, 16, long("k", 16), 0, 17, long("k", 17), 1, 1, 1, 1, 2, 17, long("k", 17), 1, 1, 1, 1, 1, 3)},
		// The greatest count.
		{list{piece(to("a", "b"), one(16, last)), piece(from("b"), known(1, run(1, last)))}, made(2, 1, "a", 0, 1, "b", 1, 16, 1, 128, 128, 128, 128, 128, 32, 0, 1, "b", 1, 1, 1, 1, 1, 255, 255, 255, 255, 255, 31)},
		// What know's calls make.
		{know.Add(know.All([]api.Range{span.All()}, set{s}), "a", api.Version{Replica: 1, Count: 4}), made(3, 0, 0, 1, "a", 1, 1, 1, 1, 2, 1, "a", 0, 2, "a", 0, 1, 1, 1, 1, 3, 2, "a", 0, 1, 1, 1, 1, 1, 2)},
	} {
		ofPieces().CheckBoth(t, c.k, c.b)
		ofPieces().CheckChanged(t, c.b)
	}
}

// P16.1 and P16.2: a set that has a Known that isn't right, at each place, isn't put, nor are its bytes read as it.
func TestWrongKnown(t *testing.T) {
	good := set{one(1, 1), known(3, run(2, 4), run(6, 9)), one(15, last)}
	for _, k := range slices.Concat(sample.Nothing(), sample.Bent()) {
		for i := range len(good) + 1 {
			sets := []set{{k}, {k, k}, slices.Insert(slices.Clone(good), i, k)}
			if i < len(good) {
				sets = append(sets, slices.Replace(slices.Clone(good), i, i+1, k))
			}
			for _, s := range sets {
				ofSets().CheckUnput(t, s)
				ofSets().CheckList(t, s)
				for _, l := range []list{all(s...), {piece(to("a", "b"), good...), piece(to("b", "c"), s...)}, {piece(to("a", "b"), s...), piece(from("b"), good...)}} {
					ofPieces().CheckUnput(t, l)
					ofPieces().CheckList(t, l)
				}
			}
		}
	}
}

// wrongSets are sets that aren't right, but of which all numbers are such as may be read.
func wrongSets() []set {
	return []set{
		// Replicas out of order, or twice.
		{one(2, 1), one(1, 1)}, {one(16, 1), one(15, 1)}, {one(1, 1), one(3, 1), one(2, 1)}, {one(2, 1), one(1, 1), one(3, 1)}, {one(1, 1), one(1, 1)}, {one(1, 1), one(1, 3)}, {one(1, 1), one(2, 1), one(2, 1)}, {one(16, 1), one(16, 2)}, {one(1, 1), one(2, 1), one(1, 3)},
		// No run.
		{known(1)}, {known(16)}, {one(1, 1), known(2)}, {known(1), one(2, 1)}, {one(1, 1), known(2), one(3, 1)},
		// A run that touches the one ahead, or begins where it ends.
		{known(1, run(1, 2), run(3, 4))}, {known(1, run(1, 1), run(2, 2))}, {known(1, run(1, 3), run(3, 4))}, {known(1, run(1, 1), run(1, 1))}, {known(1, run(1, 1), run(3, 3), run(4, 4))}, {known(1, run(1, 1), run(2, 2), run(4, 4))}, {one(1, 1), known(2, run(1, 1), run(2, last))},
		// A run that begins at 0.
		{known(1, run(0, 0))}, {known(1, run(0, 1))}, {known(1, run(0, last))}, {known(1, run(0, 1), run(3, 3))}, {one(1, 1), known(2, run(0, 2))}, {known(1, run(0, 0), run(2, 2))},
		// A run that ends, or begins, behind the greatest count: by each number, and by their sums.
		{one(1, last+1)}, {known(1, run(1, last+1))}, {known(1, run(last, last+1))}, {known(1, run(1, 1), run(3, last+1))}, {known(1, run(1, last), run(last+2, last+2))}, {known(16, run(last, last), run(last+2, last+3))}, {one(1, 1), one(2, last+1)}, {known(1, run(2, last+1), run(last+3, last+3))},
		{one(1, 1<<41)}, {one(1, 1<<48)}, {known(1, run(1, 1<<48))}, {known(1, run(1, 1<<48+1))}, {known(1, run(1<<48, 1<<49))}, {known(1, run(1<<48, 1<<49), run(3<<48, 4<<48))}, {known(1, run(1, 2), run(1<<47, 1<<48)), one(2, 1)}, {known(1, run(0, 1<<48), run(1<<49, 1<<49))},
	}
}

// P16.1 and P16.2: sets that aren't right aren't put; their bytes are read to the end, and then it is told.
func TestWrongSet(t *testing.T) {
	for _, s := range wrongSets() {
		b := ofSets().All(s)
		ofSets().CheckUnput(t, s)
		ofSets().CheckEnds(t, b, api.ErrForm)
		ofSets().CheckChanged(t, b)
		ofPieces().CheckUnput(t, all(s...))
		ofPieces().CheckEnds(t, allBytes(b), api.ErrForm)
	}
	// Runs out of order have no bytes, nor such that end ahead of their beginning.
	for _, k := range []api.Known{known(1, run(3, 3), run(1, 1)), known(1, run(1, 4), run(2, 3)), known(1, run(1, 4), run(3, 6)), known(1, run(2, 1)), known(1, run(1, 1), run(4, 3)), known(1, run(-1, 3))} {
		ofSets().CheckUnput(t, set{k})
		ofPieces().CheckUnput(t, all(k))
	}
}

// P16.1 and P16.2: knowledge that has a piece that isn't right, at each place, isn't put, nor are its bytes read as it.
func TestWrongPiece(t *testing.T) {
	s := known(1, run(1, 3))
	good := list{piece(to("", "\x00"), s), piece(to("a", "b"), s), piece(to("c", "d"), one(2, 7)), piece(from("e"), s)}
	bad := sample.Idle()
	for _, r := range sample.Wrong() {
		bad = append(bad, piece(r, s), piece(r, one(3, 1), one(4, 1)))
	}
	for _, k := range sample.Bent() {
		bad = append(bad, piece(to("d", "e"), k), piece(to("d", "e"), one(1, 1), k))
	}
	for _, p := range bad {
		for i := range len(good) + 1 {
			lists := []list{{p}, slices.Insert(slices.Clone(good), i, p)}
			if i < len(good) {
				lists = append(lists, slices.Replace(slices.Clone(good), i, i+1, p))
			}
			for _, k := range lists {
				ofPieces().CheckUnput(t, k)
				ofPieces().CheckList(t, k)
			}
		}
	}
}

// P16.1 and P16.2: knowledge that isn't right isn't put; its bytes are read to the end, and then it is told.
func TestWrongKnow(t *testing.T) {
	s, more, other := known(1, run(1, 3)), known(1, run(1, 4)), one(2, 7)
	k17 := long("k", 17)
	for _, k := range []list{
		// Pieces that could be one.
		{piece(to("a", "b"), s), piece(to("b", "c"), s)}, {piece(to("a", "b"), s), piece(from("b"), s)}, {piece(to("", "\x00"), s, other), piece(to("\x00", "a"), s, other)}, {piece(to("a", k17), s), piece(from(k17), s)},
		{piece(to("a", "b"), more), piece(to("b", "c"), s), piece(to("c", "d"), s)}, {piece(to("a", "b"), s), piece(to("b", "c"), s), piece(to("c", "d"), more)},
		// Out of order, on top of one another, the same more than once.
		{piece(to("c", "d"), s), piece(to("a", "b"), s)}, {piece(to("b", "c"), s), piece(to("a", "b"), more)}, {piece(to("\x80", "\xff"), s), piece(to("a", "\x7f"), s)}, {piece(to("a", "b"), s), piece(to("e", "f"), s), piece(to("c", "d"), s)},
		{piece(to("a", "c"), s), piece(to("b", "d"), more)}, {piece(to("a", "d"), s), piece(to("b", "c"), more)}, {piece(to("b", "c"), s), piece(to("a", "d"), more)}, {piece(to("a", "b"), s), piece(to("a", "c"), more)}, {piece(to("a", "b"), s), piece(to("a", "b"), s)}, {piece(to("a", "b"), s), piece(to("a", "b"), more)},
		// Behind an open range there is nothing.
		{piece(from("a"), s), piece(to("b", "c"), more)}, {piece(from("a"), s), piece(from("b"), more)}, {piece(from(""), s), piece(from(""), s)}, {piece(from("b"), s), piece(to("", "b"), more)}, {piece(to("a", "b"), s), piece(from("c"), s), piece(to("d", "e"), s)},
		// Empty ranges, and such whose Hi stands ahead of Lo.
		{piece(to("", ""), s)}, {piece(to("a", "a"), s)}, {piece(to("a", ""), s)}, {piece(to("b", "a"), s)}, {piece(to(k17, k17), s)}, {piece(to("a", "b"), s), piece(to("b", "b"), more)}, {piece(to("a", "a"), s), piece(to("a", "b"), more)}, {piece(to("\x80", "\x7f"), s), piece(from("\xff"), s)},
		// Empty sets.
		{piece(from(""))}, {piece(to("a", "b"))}, {piece(to("a", "b"), s), piece(to("b", "c"))}, {piece(to("a", "b")), piece(to("b", "c"), s)}, {piece(to("a", "b"), s), piece(from("c"))}, {piece(to("a", "b"), s), piece(to("b", "c")), piece(to("c", "d"), s)},
		// Sets that aren't right.
		{piece(to("a", "b"), other, s), piece(to("b", "c"), s)}, {piece(to("a", "b"), s), piece(to("b", "c"), other, s)}, {piece(to("a", "b"), s, s)}, {piece(to("a", "b"), s), piece(from("c"), known(3))}, {piece(to("a", "b"), one(1, last+1)), piece(from("c"), s)},
	} {
		b := ofPieces().All(k)
		ofPieces().CheckUnput(t, k)
		ofPieces().CheckEnds(t, b, api.ErrForm)
		ofPieces().CheckChanged(t, b)
	}
}

// P16.2: what is told of sets that can't be read, and of several things the first.
func TestReadSetWrong(t *testing.T) {
	for _, c := range []struct {
		b []byte
		e api.Errno
	}{
		{nil, api.ErrShort}, {[]byte{}, api.ErrShort},
		// How many Known: half a number, one of too many bytes, one that is too large, with and without what follows.
		{made(128), api.ErrShort}, {made(129), api.ErrShort}, {bytes.Repeat([]byte{128}, 7), api.ErrShort}, {bytes.Repeat([]byte{128}, 8), api.ErrForm}, {bytes.Repeat([]byte{255}, 9), api.ErrForm},
		{made(128, 0), api.ErrForm}, {made(129, 0, 1, 1, 1, 0), api.ErrForm}, {made(17), api.ErrForm}, {made(17, 1, 1, 1, 0), api.ErrForm}, {made(127), api.ErrForm}, {made(128, 1), api.ErrForm}, {made(144, 0), api.ErrForm}, {made(129, 2, 1, 1, 1, 0), api.ErrForm},
		{made(128, 128, 128, 128, 128, 128, 64), api.ErrForm}, {made(129, 128, 128, 128, 128, 128, 64), api.ErrForm},
		// Told of more than there are, of fewer.
		{made(1), api.ErrShort}, {made(16), api.ErrShort}, {made(2, 1, 1, 1, 0), api.ErrShort}, {made(16, 1, 1, 1, 0), api.ErrShort}, {made(0, 0), api.ErrLong}, {made(0, 128), api.ErrLong}, {made(0, 1, 1, 1, 0), api.ErrLong}, {made(1, 1, 1, 1, 0, 2, 1, 1, 0), api.ErrLong}, {made(1, 1, 1, 1, 0, 128), api.ErrLong},
		// Replica: not from 1 to MaxReplicas, of too many bytes, cut off.
		{made(1, 0), api.ErrForm}, {made(1, 0, 1, 1, 0), api.ErrForm}, {made(1, 0, 1, 1, 0, 0), api.ErrForm}, {made(1, 17), api.ErrForm}, {made(1, 17, 1, 1, 0), api.ErrForm}, {made(1, 18, 1, 1, 0), api.ErrForm}, {made(1, 127), api.ErrForm}, {made(1, 129, 0, 1, 1, 0), api.ErrForm}, {made(1, 129, 2, 1, 1, 0), api.ErrForm},
		{made(1, 128, 0), api.ErrForm}, {made(1, 128), api.ErrShort}, {made(1, 129), api.ErrShort}, {made(1, bytes.Repeat([]byte{129}, 8)), api.ErrForm}, {made(2, 1, 1, 1, 0, 0, 1, 1, 0), api.ErrForm}, {made(2, 1, 1, 1, 0, 17), api.ErrForm}, {made(2, 16, 1, 1, 0, 17, 1, 1, 0), api.ErrForm},
		// How many runs: none, too many, of too many bytes, cut off.
		{made(1, 1), api.ErrShort}, {made(1, 1, 128), api.ErrShort}, {made(1, 1, 0), api.ErrForm}, {made(1, 1, 0, 0), api.ErrLong}, {made(1, 1, 0, 1, 0), api.ErrLong}, {made(1, 1, 128, 0), api.ErrForm}, {made(1, 1, 129, 0, 1, 0), api.ErrForm}, {made(1, 1, 128, 32), api.ErrShort}, {made(1, 1, 128, 32, 1, 0), api.ErrShort},
		{made(1, 1, 129, 32), api.ErrForm}, {made(1, 1, 129, 32, 1, 0), api.ErrForm}, {made(1, 1, 128, 64), api.ErrForm}, {made(1, 1, 128, 128, 1), api.ErrForm}, {made(1, 1, bytes.Repeat([]byte{128}, 8)), api.ErrForm}, {made(2, 1, 1, 1, 0, 2, 129, 32), api.ErrForm}, {made(1, 1, 2, 1, 0), api.ErrShort}, {made(1, 1, 1, 1, 0, 2, 0), api.ErrLong},
		// From: 0, of too many bytes, more than a number may be, cut off.
		{made(1, 1, 1), api.ErrShort}, {made(1, 1, 1, 128), api.ErrShort}, {made(1, 1, 1, 0), api.ErrShort}, {made(1, 1, 1, 0, 0), api.ErrForm}, {made(1, 1, 1, 0, 5), api.ErrForm}, {made(1, 1, 1, 0, 0, 0), api.ErrLong}, {made(1, 1, 1, 129, 0, 0), api.ErrForm}, {made(1, 1, 1, 128, 0, 0), api.ErrForm},
		{made(1, 1, 1, number(1<<48), 0), api.ErrForm}, {made(1, 1, 1, number(1<<48), 0, 0), api.ErrLong}, {made(1, 1, 1, number(1<<48)), api.ErrShort}, {made(1, 1, 1, number(1<<48+1)), api.ErrForm}, {made(1, 1, 1, number(1<<48+1), 0), api.ErrForm}, {made(1, 1, 1, number(1<<48+1), 0, 0), api.ErrForm}, {made(1, 1, 1, number(1<<50), 0), api.ErrForm}, {made(1, 1, 1, bytes.Repeat([]byte{128}, 8), 0), api.ErrForm},
		{made(1, 1, 1, number(last), 0, 0), api.ErrLong}, {made(1, 1, 1, number(last+1), 0), api.ErrForm}, {made(1, 1, 1, number(last+1), 0, 0), api.ErrLong}, {made(1, 1, 2, 1, 0, number(last), 0), api.ErrForm}, {made(1, 1, 2, 1, 0, 1, 0), api.ErrForm}, {made(1, 1, 2, 1, 0, 0, 0), api.ErrForm}, {made(1, 1, 2, 1, 0, 1, 0, 0), api.ErrLong},
		// To less From: likewise.
		{made(1, 1, 1, 1), api.ErrShort}, {made(1, 1, 1, 1, 128), api.ErrShort}, {made(1, 1, 1, 1, 128, 0), api.ErrForm}, {made(1, 1, 1, 1, 129, 0), api.ErrForm}, {made(1, 1, 1, 1, number(last)), api.ErrForm}, {made(1, 1, 1, 1, number(last), 0), api.ErrLong}, {made(1, 1, 1, 2, number(last-1)), api.ErrForm}, {made(1, 1, 1, 1, number(1<<48)), api.ErrForm},
		{made(1, 1, 1, 1, number(1<<48), 0), api.ErrLong}, {made(1, 1, 1, 1, number(1<<48+1)), api.ErrForm}, {made(1, 1, 1, 1, number(1<<48+1), 0), api.ErrForm}, {made(1, 1, 1, number(1<<48), number(1<<48)), api.ErrForm}, {made(1, 1, 1, number(1<<48), number(1<<48), 1), api.ErrLong}, {made(1, 1, 1, 1, bytes.Repeat([]byte{255}, 8)), api.ErrForm},
		// The first of several: what is cut off ahead of what can't be right, and what can't be read ahead of both.
		{made(2, 2, 1, 1, 0, 1, 1, 1), api.ErrShort}, {made(2, 2, 1, 1, 0, 1, 1, 1, 0), api.ErrForm}, {made(2, 2, 1, 1, 0, 1, 1, 1, 0, 0), api.ErrLong}, {made(2, 1, 0, 17), api.ErrForm}, {made(2, 1, 0, 1), api.ErrShort}, {made(2, 1, 0, 1, 0), api.ErrForm}, {made(2, 1, 0, 1, 0, 0), api.ErrLong},
		{made(3, 1, 1, 0, 0, 0), api.ErrForm}, {made(3, 1, 1, 0, 0, 2, 129, 32, 1), api.ErrForm}, {made(2, 17, 129), api.ErrForm}, {made(2, 1, 2, 0, 129), api.ErrShort}, {made(2, 1, 2, 0, 128, 0), api.ErrForm},
	} {
		ofSets().CheckError(t, c.b, c.e)
		ofSets().CheckBytes(t, c.b)
		ofPieces().CheckError(t, allBytes(c.b), c.e)
		ofPieces().CheckBytes(t, allBytes(c.b))
	}
}

// P16.2: what is told of knowledge that can't be read, and of several things the first.
func TestReadKnowWrong(t *testing.T) {
	k17, k18 := long("k", 17), long("k", 18)
	one := []byte{1, 1, 1, 1, 0}
	for _, c := range []struct {
		b []byte
		e api.Errno
	}{
		{nil, api.ErrShort}, {[]byte{}, api.ErrShort},
		// How many: half a number, one of too many bytes, one that is too large, with and without what follows.
		{made(129), api.ErrShort}, {bytes.Repeat([]byte{128}, 7), api.ErrShort}, {bytes.Repeat([]byte{128}, 8), api.ErrForm}, {made(128, 0), api.ErrForm}, {made(129, 0, 0, 1, one), api.ErrForm}, {made(129, 128, 0, 0, 1, one), api.ErrForm},
		{made(129, 32), api.ErrForm}, {made(129, 32, 0, 1, one), api.ErrForm}, {made(128, 64), api.ErrForm}, {made(128, 128, 128, 128, 128, 128, 64), api.ErrForm}, {made(129, 128, 128, 128, 128, 128, 64), api.ErrForm},
		// Told of more than there are, of fewer.
		{made(1), api.ErrShort}, {made(2, 0, 1, one), api.ErrShort}, {made(127), api.ErrShort}, {made(128, 32), api.ErrShort}, {made(128, 32, 0, 1, one), api.ErrShort}, {made(255, 31, 0, 1, one), api.ErrShort},
		{made(0, 0), api.ErrLong}, {made(0, 128), api.ErrLong}, {made(0, 0, 1, one), api.ErrLong}, {made(1, 0, 1, one, 0), api.ErrLong}, {made(1, 0, 1, one, 1, "a", 1, one), api.ErrLong}, {made(1, 0, 1, one, 255), api.ErrLong},
		// Lo: too long, of too many bytes, cut off.
		{made(1, 18), api.ErrForm}, {made(1, 18, k18, 1, one), api.ErrForm}, {made(1, 18, k18, 1, one, 0), api.ErrForm}, {made(1, 127), api.ErrForm}, {made(1, 128, 1), api.ErrForm}, {made(1, 128, 0, 1, one), api.ErrForm}, {made(1, 129, 0, "a", 1, one), api.ErrForm}, {made(1, bytes.Repeat([]byte{128}, 8)), api.ErrForm},
		{made(1, 17, long("k", 16)), api.ErrShort}, {made(1, 1), api.ErrShort}, {made(1, 128), api.ErrShort}, {made(1, 5, 1, one), api.ErrShort},
		// Open: neither 0 nor 1, of too many bytes, cut off.
		{made(1, 0, 2), api.ErrForm}, {made(1, 0, 2, one), api.ErrForm}, {made(1, 0, 127), api.ErrForm}, {made(1, 0, 129, 0, one), api.ErrForm}, {made(1, 0, 128, 0, 1, "a", one), api.ErrForm}, {made(1, 0, 255), api.ErrShort}, {made(1, 1, "a"), api.ErrShort}, {made(1, 17, k17), api.ErrShort},
		// Hi: too long, of too many bytes, cut off, none; one, though it is Open.
		{made(1, 0, 0, 18), api.ErrForm}, {made(1, 0, 0, 18, k18, one), api.ErrForm}, {made(1, 0, 0, 18, k18, one, 0), api.ErrForm}, {made(1, 0, 0, 128, 0, one), api.ErrForm}, {made(1, 0, 0, 129, 0, "a", one), api.ErrForm}, {made(1, 0, 0, 17, long("k", 16)), api.ErrShort}, {made(1, 0, 0, 1), api.ErrShort}, {made(1, 0, 0), api.ErrShort}, {made(1, 0, 0, 128), api.ErrShort},
		{made(1, 0, 0, one), api.ErrForm}, {made(1, 0, 1, 1, "a", one), api.ErrForm},
		// The set: none, cut off, too many Known, Replica 0 and 17, too many runs, numbers that are too large.
		{made(1, 0, 1), api.ErrShort}, {made(1, 0, 0, 1, "a"), api.ErrShort}, {made(1, 0, 1, 0), api.ErrForm}, {made(1, 0, 1, 0, 0), api.ErrLong}, {made(1, 0, 1, 128), api.ErrShort}, {made(1, 0, 1, 17), api.ErrForm}, {made(1, 0, 1, 1, 0), api.ErrForm}, {made(1, 0, 1, 1, 17), api.ErrForm}, {made(1, 0, 1, 1, 1, 129, 32), api.ErrForm},
		{made(1, 0, 1, 1, 1, 128, 32), api.ErrShort}, {made(1, 0, 1, 1, 1, 1, number(1<<48+1)), api.ErrForm}, {made(1, 0, 1, 1, 1, 1, 1, number(1<<48+1)), api.ErrForm}, {made(1, 0, 1, 1, 1, 1, number(1<<48), number(1<<48)), api.ErrForm}, {made(1, 0, 1, 1, 1, 1, number(1<<48), number(1<<48), 0), api.ErrLong}, {made(1, 0, 1, 2, one[1:]), api.ErrShort},
		// Read whole, and not right; with a byte behind it, that is told first.
		{made(1, 0, 0, 0, one), api.ErrForm}, {made(1, 0, 0, 0, one, 0), api.ErrLong}, {made(1, 1, "b", 0, 1, "a", one), api.ErrForm}, {made(1, 1, "b", 0, 1, "a", one, 7), api.ErrLong}, {made(1, 17, k17, 0, 17, k17, one), api.ErrForm}, {made(1, 17, k17, 0, 17, k17, one, 1), api.ErrLong},
		{made(2, 0, 1, one, 0, 1, one), api.ErrForm}, {made(2, 0, 1, one, 0, 1, one, 0), api.ErrLong}, {made(2, 1, "a", 0, 1, "b", one, 1, "b", 1, one), api.ErrForm}, {made(2, 1, "a", 0, 1, "b", one, 1, "b", 1, one, 0), api.ErrLong},
		// The first of several: what is cut off ahead of what can't be right, and what can't be read ahead of both.
		{made(2, 1, "b", 0, 1, "a", one), api.ErrShort}, {made(2, 1, "b", 0, 1, "a", one, 0), api.ErrShort}, {made(2, 1, "b", 0, 1, "a", one, 18), api.ErrForm}, {made(2, 1, "b", 0, 1, "a", one, 0, 2), api.ErrForm}, {made(2, 0, 1, 0, 0, 1, 17), api.ErrForm}, {made(2, 0, 1, 0, 0, 1, 1), api.ErrShort},
		{made(3, 0, 1, one, 0, 1, one, 18, 1, 1), api.ErrForm}, {made(3, 1, "a", 0, 9, "b"), api.ErrShort}, {made(3, 1, "a", 3, 9, "b"), api.ErrForm}, {made(2, 0, 1, 1, 1, 1, 0, 0, 1, "a"), api.ErrShort}, {made(2, 0, 1, 1, 1, 1, 0, 0, 1, "a", 2), api.ErrForm},
	} {
		ofPieces().CheckError(t, c.b, c.e)
		ofPieces().CheckBytes(t, c.b)
	}
}

// runs is a right list of so many runs, the first one from 2 on.
func runs(n int) []api.Run {
	var l []api.Run
	for i := range n {
		l = append(l, run(5*i+2, 5*i+3+i%2))
	}
	return l
}

// withRuns are sets that have so many runs of one replica: alone, and ahead of others, between and behind them.
func withRuns(n int) []set {
	l := runs(n)
	return []set{{known(1, l...)}, {known(1, l...), one(2, 1)}, {one(1, 1), known(2, l...), one(3, 1)}, {one(1, 1), one(2, 1), known(16, l...)}}
}

// around is knowledge that has a set in one of its pieces: the first, one between and the last.
func around(s set) []list {
	return []list{all(s...), {piece(to("a", "b"), s...), piece(from("b"), one(9, 9))}, {piece(to("a", "b"), one(9, 9)), piece(to("b", "c"), s...), piece(from("d"), one(9, 9))}, {piece(to("a", "b"), one(9, 9)), piece(from("c"), s...)}}
}

// checkLong is that a long list is put as its bytes, and read of them, and of no others: neither cut off nor with one behind them.
func checkLong[T any](t *testing.T, c sample.Code[T], l []T) {
	t.Helper()
	b := c.All(l)
	c.CheckPut(t, l, b)
	c.CheckRead(t, b, l)
	for _, cut := range []int{1, 2, 3, 9, 1000} {
		c.CheckError(t, b[:len(b)-min(cut, len(b))], api.ErrShort)
	}
	c.CheckError(t, append(b, 0), api.ErrLong)
}

// checkTooLong is that a list that is too long isn't put, nor read of its bytes, also of such that are cut off or go on.
func checkTooLong[T any](t *testing.T, c sample.Code[T], l []T) {
	t.Helper()
	b := c.All(l)
	c.CheckUnput(t, l)
	c.CheckError(t, b, api.ErrForm)
	c.CheckError(t, b[:len(b)-1], api.ErrForm)
	c.CheckError(t, append(b, 0), api.ErrForm)
}

// P16.1 and P16.2: MaxPieces runs, and one more.
func TestMaxRuns(t *testing.T) {
	for _, n := range []int{127, 128, 129, 4095, 4096} {
		for _, s := range withRuns(n) {
			checkLong(t, ofSets(), s)
			for _, k := range around(s) {
				checkLong(t, ofPieces(), k)
			}
		}
	}
	for _, n := range []int{4097, 4098, 8192, 16384} {
		for _, s := range withRuns(n) {
			checkTooLong(t, ofSets(), s)
			for _, k := range around(s) {
				checkTooLong(t, ofPieces(), k)
			}
		}
	}
	for _, n := range []int{4097, 8192, 1 << 20, 1 << 48} {
		ofSets().CheckError(t, made(1, 1, number(n)), api.ErrForm)
		ofPieces().CheckError(t, made(1, 0, 1, 1, 1, number(n)), api.ErrForm)
	}
	if b, _ := kcode.Set(set{known(1, runs(4096)...)}); !bytes.HasPrefix(b, []byte{1, 1, 128, 32, 2, 1, 4, 2, 3, 1, 4, 2}) {
		t.Errorf("4096 runs begin with %v", b[:min(12, len(b))])
	}
	// As many runs as a set may have at all, and one more of one replica.
	var every set
	for n := 1; n <= 16; n++ {
		every = append(every, known(n, runs(4096)...))
	}
	checkLong(t, ofSets(), every)
	checkLong(t, ofPieces(), all(every...))
	for i := range every {
		more := slices.Clone(every)
		more[i].Runs = runs(4097)
		checkTooLong(t, ofSets(), more)
		checkTooLong(t, ofPieces(), all(more...))
	}
}

// P16.1 and P16.2: MaxReplicas Known, and one more.
func TestMaxReplicas(t *testing.T) {
	var every set
	for n := 1; n <= 16; n++ {
		every = append(every, known(n, run(n, 3*n), run(last-n, last)))
	}
	checkLong(t, ofSets(), every)
	checkLong(t, ofPieces(), all(every...))
	for _, k := range []api.Known{one(17, 1), one(16, last), one(1, 1), one(0, 1), {}} {
		for i := range 17 {
			more := slices.Insert(slices.Clone(every), i, k)
			checkTooLong(t, ofSets(), more)
			checkTooLong(t, ofPieces(), all(more...))
			ofPieces().CheckUnput(t, list{piece(to("a", "b"), every...), piece(to("b", "c"), more...)})
		}
	}
	for _, n := range []int{17, 18, 32, 127, 128, 1 << 16, 1 << 48} {
		ofSets().CheckError(t, number(n), api.ErrForm)
		ofPieces().CheckError(t, made(1, 0, 1, number(n)), api.ErrForm)
	}
	ofSets().CheckUnput(t, make(set, 17))
	ofSets().CheckUnput(t, make(set, 1<<20))
	ofSets().CheckUnput(t, slices.Repeat(set{one(1, 1)}, 1<<20))
}

// many is right knowledge of so many pieces, each of which ends at the next one, the last one open or not.
func many(n int, open bool) list {
	var k list
	edge := func(i int) string { return string([]byte{byte(i >> 8), byte(i)}) }
	for i := range n {
		k = append(k, piece(to(edge(i), edge(i+1)), one(i%16+1, i+1)))
	}
	if open {
		k[n-1].Range = from(k[n-1].Range.Lo)
	}
	return k
}

// P16.1 and P16.2: MaxPieces pieces, and one more.
func TestMaxPieces(t *testing.T) {
	for _, n := range []int{127, 128, 129, 4095, 4096} {
		for _, open := range []bool{false, true} {
			k := many(n, open)
			checkLong(t, ofPieces(), k)
			k[n-1].Set = k[n-2].Set
			ofPieces().CheckUnput(t, k)
			ofPieces().CheckError(t, ofPieces().All(k), api.ErrForm)
		}
	}
	if b, _ := kcode.Know(many(4096, true)); !bytes.HasPrefix(b, []byte{128, 32, 2, 0, 0, 0, 2, 0, 1, 1, 1, 1, 1, 0, 2, 0, 1}) {
		t.Errorf("4096 pieces begin with %v", b[:min(17, len(b))])
	}
	for _, n := range []int{4097, 4098, 8192, 16384} {
		checkTooLong(t, ofPieces(), many(n, n%2 == 0))
		ofPieces().CheckError(t, number(n), api.ErrForm)
	}
	ofPieces().CheckUnput(t, make(list, 4097))
	ofPieces().CheckUnput(t, make(list, 1<<20))
	ofPieces().CheckUnput(t, slices.Repeat(all(one(1, 1)), 1<<20))
}

// P16.2 and rule 7: the greatest numbers that can be read, also so many of them that their sum is the greatest one.
func TestGreatest(t *testing.T) {
	numbers := [][]byte{
		number(0), number(1), number(2), number(3), number(1 << 31), number(1 << 32), number(last - 3), number(last - 2), number(last - 1), number(last), number(last + 1), number(1 << 41), number(1 << 47), number(1<<48 - 1), number(1 << 48),
		// What is no number's bytes, or is more than one may be.
		number(1<<48 + 1), number(1 << 49), number(1<<62 - 1), made(128, 0), made(128),
	}
	for _, l := range sample.Lists(numbers, 4) {
		runs := slices.Concat(l...)
		b := made(1, 1, len(l)/2, runs)
		ofSets().CheckBytes(t, b)
		ofSets().CheckBytes(t, append(b, 0))
	}
	for _, l := range sample.Lists(numbers, 2) {
		b := made(2, 1, 1, 2, 1, 2, 1, slices.Concat(l...))
		ofSets().CheckBytes(t, b)
		ofPieces().CheckBytes(t, allBytes(b))
		ofPieces().CheckBytes(t, made(2, 0, 0, 1, "a", 1, 1, 1, 5, 1, 1, "a", 1, b))
	}
	for _, n := range []int{1, 2, 4095, 4096} {
		b := number(16)
		for replica := 1; replica <= 16; replica++ {
			b = append(append(append(b, byte(replica)), number(n)...), bytes.Repeat(number(1<<48), 2*n)...)
		}
		for _, c := range []struct {
			b []byte
			e api.Errno
		}{{b, api.ErrForm}, {append(slices.Clone(b), 0), api.ErrLong}, {b[:len(b)-1], api.ErrShort}, {append(b[:len(b)-1:len(b)-1], 65), api.ErrForm}} {
			ofSets().CheckError(t, c.b, c.e)
			ofPieces().CheckError(t, allBytes(c.b), c.e)
		}
	}
}

// P16.1 to P16.3: all sets of up to three of some Known, right or not, as the words say.
func TestListsOfKnown(t *testing.T) {
	some := set{
		{}, known(1), one(1, 1), one(1, 2), known(1, run(1, 3), run(6, 6)), known(1, run(1, 3), run(4, 6)), known(1, run(6, 6), run(1, 3)), known(1, run(3, 2)), known(1, run(0, 2)), known(1, run(1, last+1)), known(1, run(1, last)),
		known(2), one(2, 1), one(2, last), known(2, run(1, 1), run(3, 3)), known(2, run(1, 1), run(2, 3)), known(2, run(1, 4), run(3, 5)), one(15, 7), one(16, 7), one(16, last+1), one(17, 7), one(0, 7), one(-1, 7), one(256, 1), one(257, 1), one(1<<32+1, 1),
	}
	for _, s := range sample.Lists(some, 3) {
		ofSets().CheckList(t, s)
	}
	for _, s := range sample.Lists(set{one(1, 2), known(2, run(1, 2), run(4, 5)), one(3, 1), one(16, 300), known(4), known(5, run(1, 1), run(2, 2))}, 5) {
		ofSets().CheckList(t, s)
		ofPieces().CheckList(t, all(s...))
	}
}

// P16.1 to P16.3: all lists of up to two pieces by some edges, right or not, and of up to four of some, as the words say.
func TestListsOfPieces(t *testing.T) {
	var some list
	for _, r := range sample.All([]string{"", "a", "a\x00", "\x80", long("k", 17), long("k", 18)}) {
		some = append(some, piece(r, one(1, 1)), piece(r, known(1, run(1, 2)), one(2, 300)))
	}
	for _, k := range sample.Lists(some, 2) {
		ofPieces().CheckList(t, k)
	}
	s, more := one(1, 1), known(1, run(1, 2))
	for _, k := range sample.Lists(list{piece(to("", "a"), s), piece(to("a", "b"), s), piece(to("a", "b"), more), piece(to("b", "c"), s, one(2, 1)), piece(to("b\x00", "c"), s), piece(from("c"), s), piece(from("c"), one(2, 1), s), piece(to("c", "d")), {}}, 4) {
		ofPieces().CheckList(t, k)
	}
}

// P16.2 and P16.3: all bytes of up to two, and more of some, as the words say.
func TestAllBytes(t *testing.T) {
	check := func(b []byte) {
		ofSets().CheckBytes(t, b)
		ofPieces().CheckBytes(t, b)
	}
	for _, b := range sample.Lists([]byte(sample.Every()), 2) {
		check(b)
	}
	for _, b := range sample.Lists([]byte{0, 1, 2, 3, 16, 17, 128, 129}, 5) {
		check(b)
		check(made(1, 1, b))
		check(allBytes(b))
	}
	for _, b := range sample.Lists([]byte{0, 1, 2, 128}, 8) {
		check(b)
	}
	for _, b := range sample.Lists([]byte{0, 1, 2}, 10) {
		check(b)
	}
}

// P16.1 to P16.3: drawn sets, there and back, changed ones, and changed bytes of them.
func TestDrawnSets(t *testing.T) {
	for seed := range 3000 {
		for _, numbers := range [][]int{sample.Numbers(), {0, 1, 2, 3, 4, 5, 6, 7, 8, 9}} {
			roll := sample.Draw(seed)
			s := sample.DrawnSet(roll, numbers)
			ofSets().CheckList(t, s)
			ofSets().CheckDrawn(t, roll, sample.OwnSet(s))
			ofSets().CheckList(t, sample.TurnedSet(sample.OwnSet(s)))
		}
	}
}

// P16.1 to P16.3: drawn knowledge, there and back, changed, and changed bytes of it.
func TestDrawnKnow(t *testing.T) {
	for seed := range 3000 {
		for _, numbers := range [][]int{sample.Numbers(), {0, 1, 2, 3, 4}} {
			roll := sample.Draw(seed)
			k := sample.DrawnPieces(roll, sample.Edges(), numbers)
			ofPieces().CheckList(t, k)
			right := know.Of(k...)
			ofPieces().CheckDrawn(t, roll, right)
			if n := len(right); n > 0 {
				i, j := roll(n), roll(n)
				right[i], right[j] = right[j], right[i]
				ofPieces().CheckList(t, right)
				right[i].Set = right[j].Set
				ofPieces().CheckList(t, right)
			}
		}
	}
}

// P16.3: what is put as the same bytes is the same.
func TestUnlike(t *testing.T) {
	var some set
	for replica := 1; replica <= 2; replica++ {
		for _, l := range sample.Lists([]api.Run{run(1, 1), run(1, 2), run(2, 2), run(3, 3), run(3, 4), run(4, 4), run(6, 6)}, 3) {
			some = append(some, known(replica, l...))
		}
	}
	ofSets().CheckUnlike(t, sample.Lists(some, 2), 500)
	var pieces list
	for _, r := range sample.All([]string{"", "\x00", "\x01", "\x01\x00"}) {
		pieces = append(pieces, piece(r, one(1, 1)), piece(r, one(1, 2)), piece(r, one(1, 1), one(2, 1)))
	}
	ofPieces().CheckUnlike(t, sample.Lists(pieces, 2), 100)
}

// handed are right lists that the tests of what is handed in hand in.
func handed() []list {
	s, more := known(1, run(1, 3), run(5, 6)), known(1, run(1, 4))
	return []list{
		{piece(to("a", "b"), s), piece(to("b", "c"), more, one(2, 7)), piece(from("c"), s)},
		{piece(to("", "b"), s, one(16, last)), piece(to("b", long("k", 17)), known(2, run(1, 3), run(300, 700), run(last, last)), one(3, 1), one(4, 1))},
		all(known(1, run(1, 3)), known(2, run(1, 3)), known(3, run(1, 3))),
	}
}

// P16.1, P16.2 and rule 5: what is handed in is as it was afterwards, whatever is answered.
func TestHandedIn(t *testing.T) {
	bent := known(2, run(5, 7), run(1, 2), run(0, 4))
	for _, k := range append(handed(), list{piece(from("c"), one(2, 2), one(1, 1)), piece(to("a", "d"), bent, one(17, 1)), {}, piece(to("b", "a"), one(1, 1))}, list{piece(to("a", "b"), one(1, 1), known(1)), piece(to("b", "c"), one(1, 1))}) {
		b := ofPieces().All(k)
		ofPieces().CheckHandedIn(t, k, slices.Concat(b, []byte{0, 2, 0, 0, 1, 128, 0}, b))
		for _, p := range k {
			b := ofSets().All(p.Set)
			ofSets().CheckHandedIn(t, p.Set, slices.Concat(b, []byte{0, 17, 1, 128, 0}, b))
		}
	}
}

// P16.1, P16.2 and rule 5: answers share nothing with what was handed in, nor with one another, nor among their own lists.
func TestAnswersAreNew(t *testing.T) {
	for _, k := range append(handed(), nil, many(300, true)) {
		ofPieces().CheckNew(t, k)
		for _, p := range k {
			ofSets().CheckNew(t, p.Set)
		}
		got, _ := kcode.ReadKnow(ofPieces().All(k))
		for i, p := range got {
			for n := range p.Set {
				sample.Spoil(p.Set[n : n+1 : n+1])
				if !sample.EqualSets(p.Set[n+1:], k[i].Set[n+1:]) || !sample.EqualPieces(got[i+1:], k[i+1:]) {
					t.Fatalf("what was read became %#v, was %#v", got, k)
				}
			}
		}
	}
	ofSets().CheckNew(t, nil)
	ofSets().CheckNew(t, set{known(1, runs(300)...), known(2, runs(300)...), one(3, 3)})
}
