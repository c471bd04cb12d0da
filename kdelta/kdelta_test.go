package kdelta_test

import (
	"bytes"
	"slices"
	"testing"

	"winnower/api"
	"winnower/kcode"
	"winnower/kdelta"
	"winnower/know"
	"winnower/sample"
	"winnower/span"
)

// set and list are short names of what the calls take and answer.
type (
	set  = []api.Known
	list = []api.Piece
)

// last is the greatest count.
const last = 1 << 40

// What knowledge and bytes are made by here: the tests of several layers have it together.
var (
	to, from, long  = sample.To, sample.From, sample.Long
	run, known, one = sample.Run, sample.Known, sample.One
	piece, ver      = sample.Piece, sample.Ver
	number, made    = sample.NumberBytes, sample.Made
)

// fromNone is what is asked of deltas from none, and of what they are applied to: they are knowledge's own bytes.
func fromNone() sample.Code[api.Piece] {
	return sample.PieceCode("Delta",
		func(k list) ([]byte, api.Errno) { return kdelta.Delta(nil, k) },
		func(b []byte) (list, api.Errno) { return kdelta.Apply(nil, b) })
}

// bytesOf are knowledge's bytes, as the words say them.
func bytesOf(k list) []byte {
	return fromNone().All(k)
}

// all is a list of one piece of all texts, with a set.
func all(s ...api.Known) list {
	return list{piece(from(""), s...)}
}

// head is the beginning of a list, which is told of one that may be long.
func head[T any](l []T) []T {
	return l[:min(len(l), 20)]
}

// checkDelta is that a delta is some bytes.
func checkDelta(t *testing.T, a, b list, want []byte) {
	t.Helper()
	if d, e := kdelta.Delta(a, b); e != api.OK || !bytes.Equal(d, want) {
		t.Fatalf("Delta(%#v, %#v), of %d and %d, = %v, of %d, and %d, want %v, of %d, and OK", head(a), head(b), len(a), len(b), head(d), len(d), e, head(want), len(want))
	}
}

// checkNoDelta is that there is no delta.
func checkNoDelta(t *testing.T, a, b list) {
	t.Helper()
	if d, e := kdelta.Delta(a, b); e != api.ErrArg || len(d) != 0 {
		t.Fatalf("Delta(%#v, %#v), of %d and %d, = %v, of %d, and %d, want none, and ErrArg", head(a), head(b), len(a), len(b), head(d), len(d), e)
	}
}

// checkChain is what comes of some deltas, one behind the other; of just one, of Apply too.
func checkChain(t *testing.T, k, want list, d ...[]byte) {
	t.Helper()
	got, e := kdelta.Chain(k, d...)
	if e != api.OK || !sample.EqualPieces(got, want) {
		t.Fatalf("Chain(%#v, %v), of %d, = %#v, of %d, and %d, want %#v, of %d, and OK", head(k), head(d), len(k), head(got), len(got), e, head(want), len(want))
	}
	if !sample.RightPieces(got) || !know.Right(got) {
		t.Fatalf("Chain(%#v, %v) = %#v, which isn't right", head(k), head(d), head(got))
	}
	if len(d) != 1 {
		return
	}
	if got, e := kdelta.Apply(k, d[0]); e != api.OK || !sample.EqualPieces(got, want) {
		t.Fatalf("Apply(%#v, %v), of %d, = %#v, of %d, and %d, want %#v, of %d, and OK", head(k), head(d[0]), len(k), head(got), len(got), e, head(want), len(want))
	}
}

// checkNone is that nothing comes of some deltas but an error; of just one, of Apply neither.
func checkNone(t *testing.T, k list, want api.Errno, d ...[]byte) {
	t.Helper()
	if got, e := kdelta.Chain(k, d...); e != want || len(got) != 0 {
		t.Fatalf("Chain(%#v, %v), of %d, = %#v, of %d, and %d, want none, and %d", head(k), head(d), len(k), head(got), len(got), e, want)
	}
	if len(d) != 1 {
		return
	}
	if got, e := kdelta.Apply(k, d[0]); e != want || len(got) != 0 {
		t.Fatalf("Apply(%#v, %v), of %d, = %#v, of %d, and %d, want none, and %d", head(k), head(d[0]), len(k), head(got), len(got), e, want)
	}
}

// checkWays holds two right lists against one another: a delta, and what comes of it, once, twice and behind others.
func checkWays(t *testing.T, a, b list, d []byte, both list) {
	t.Helper()
	nothing := []byte{0}
	checkDelta(t, a, b, d)
	checkDelta(t, a, both, d)
	checkDelta(t, both, a, nothing)
	checkDelta(t, both, b, nothing)
	checkDelta(t, a, a, nothing)
	checkChain(t, a, a, nothing)
	checkChain(t, a, both, d)
	checkChain(t, both, both, d)
	checkChain(t, a, both, d, d)
	checkChain(t, a, both, nothing, d, nothing)
	checkChain(t, a, both, d, nothing, nothing, d)
}

// checkTwo holds all that is asked of two right lists, either way round, against the words.
func checkTwo(t *testing.T, a, b list) {
	t.Helper()
	both := sample.OwnPieces(slices.Concat(a, b))
	more, less := sample.LessPieces(b, a), sample.LessPieces(a, b)
	checkWays(t, a, b, bytesOf(more), both)
	checkWays(t, b, a, bytesOf(less), both)
	checkChain(t, nil, more, bytesOf(more))
	checkChain(t, nil, both, bytesOf(more), bytesOf(a))
	checkChain(t, nil, both, bytesOf(a), bytesOf(more))
	checkChain(t, less, sample.OwnPieces(slices.Concat(less, more)), bytesOf(more))
}

// checkWrong is that there is neither a delta of knowledge that isn't right, on whichever side, nor anything that one is applied to; but a chain of none has what it has.
func checkWrong(t *testing.T, k list) {
	t.Helper()
	checkNoDelta(t, k, nil)
	checkNoDelta(t, nil, k)
	checkNoDelta(t, k, k)
	for _, other := range []list{all(known(1, run(1, 3))), all(known(1, run(1, last)), known(2, run(1, last)), known(16, run(1, last))), {piece(to("a", "b"), one(2, 7)), piece(to("b", "c"), one(3, 7))}} {
		checkNoDelta(t, k, other)
		checkNoDelta(t, other, k)
		checkNone(t, k, api.ErrArg, bytesOf(other))
		checkNone(t, k, api.ErrArg, bytesOf(other), []byte{0})
	}
	for _, d := range [][]byte{{0}, {}, nil, {1}, {0, 0}, {128, 0}, {1, 0, 1, 0}} {
		checkNone(t, k, api.ErrArg, d)
		checkNone(t, k, api.ErrArg, d, d)
		checkNone(t, k, api.ErrArg, []byte{0}, d)
		checkNone(t, k, api.ErrArg, d, []byte{0})
	}
	checkChain(t, k, sample.OwnPieces(k))
}

// P17.1 to P17.3: the chapter's example.
func TestExample(t *testing.T) {
	for _, a := range []list{nil, {}} {
		for _, b := range []list{nil, {}} {
			checkWays(t, a, b, []byte{0}, nil)
		}
		checkChain(t, a, nil)
	}
}

// P17.1 to P17.3: deltas beside bytes that are written out, and what comes of them.
func TestDelta(t *testing.T) {
	s, more, other := known(1, run(1, 3)), known(1, run(1, 4)), one(2, 7)
	k16, k17 := long("k", 16), long("k", 17)
	var every, but set
	for n := 1; n <= 16; n++ {
		every = append(every, known(n, run(1, n)))
		if n != 9 {
			but = append(but, known(n, run(1, n)))
		}
	}
	for _, c := range []struct {
		a, b list
		d    []byte
		both list
	}{
		// None on either side.
		{nil, all(s), made(1, 0, 1, 1, 1, 1, 1, 2), all(s)},
		{all(s), nil, made(0), all(s)},
		{nil, list{piece(to("a", "b"), s), piece(from("b"), more, other)}, made(2, 1, "a", 0, 1, "b", 1, 1, 1, 1, 2, 1, "b", 1, 2, 1, 1, 1, 3, 2, 1, 7, 0), list{piece(to("a", "b"), s), piece(from("b"), more, other)}},
		// The same, less, more, some of both, nothing together.
		{all(s), all(s), made(0), all(s)},
		{all(more), all(s), made(0), all(more)},
		{all(s, other), all(other), made(0), all(s, other)},
		{all(s), all(more), made(1, 0, 1, 1, 1, 1, 4, 0), all(more)},
		{all(s), all(more, other), made(1, 0, 1, 2, 1, 1, 4, 0, 2, 1, 7, 0), all(more, other)},
		{all(s), all(other), made(1, 0, 1, 1, 2, 1, 7, 0), all(s, other)},
		{all(other), all(s), made(1, 0, 1, 1, 1, 1, 1, 2), all(s, other)},
		{all(known(1, run(1, 5))), all(known(1, run(3, 9))), made(1, 0, 1, 1, 1, 1, 6, 3), all(known(1, run(1, 9)))},
		{all(known(1, run(3, 9))), all(known(1, run(1, 5))), made(1, 0, 1, 1, 1, 1, 1, 1), all(known(1, run(1, 9)))},
		{all(one(1, 3)), all(known(1, run(1, 5))), made(1, 0, 1, 1, 1, 2, 1, 1, 2, 1), all(known(1, run(1, 5)))},
		{all(known(1, run(1, 2), run(4, 5))), all(one(1, 3)), made(1, 0, 1, 1, 1, 1, 3, 0), all(known(1, run(1, 5)))},
		{all(known(1, run(1, 2), run(5, 6))), all(known(1, run(2, 3), run(6, 9), run(12, 300))), made(1, 0, 1, 1, 1, 3, 3, 0, 4, 2, 3, 160, 2), all(known(1, run(1, 3), run(5, 9), run(12, 300)))},
		{all(s, one(3, 1)), all(more, one(2, 2)), made(1, 0, 1, 2, 1, 1, 4, 0, 2, 1, 2, 0), all(more, one(2, 2), one(3, 1))},
		{all(but...), all(every...), made(1, 0, 1, 1, 9, 1, 1, 8), all(every...)},
		// The greatest count.
		{all(known(1, run(1, last-1))), all(known(1, run(1, last))), made(1, 0, 1, 1, 1, 1, 128, 128, 128, 128, 128, 32, 0), all(known(1, run(1, last)))},
		{all(one(16, last)), all(known(16, run(1, last))), made(1, 0, 1, 1, 16, 1, 1, 254, 255, 255, 255, 255, 31), all(known(16, run(1, last)))},
		{all(known(1, run(1, last))), all(one(1, last)), made(0), all(known(1, run(1, last)))},
		// Of other texts: beside one another, apart, within, on top, with edges together.
		{list{piece(to("a", "b"), s)}, list{piece(to("b", "c"), s)}, made(1, 1, "b", 0, 1, "c", 1, 1, 1, 1, 2), list{piece(to("a", "c"), s)}},
		{list{piece(to("b", "c"), s)}, list{piece(to("a", "b"), s)}, made(1, 1, "a", 0, 1, "b", 1, 1, 1, 1, 2), list{piece(to("a", "c"), s)}},
		{list{piece(to("a", "b"), s)}, list{piece(to("a", "c"), s)}, made(1, 1, "b", 0, 1, "c", 1, 1, 1, 1, 2), list{piece(to("a", "c"), s)}},
		{list{piece(to("b", "c"), s)}, list{piece(to("a", "c"), s)}, made(1, 1, "a", 0, 1, "b", 1, 1, 1, 1, 2), list{piece(to("a", "c"), s)}},
		{list{piece(to("a", "b"), s)}, list{piece(to("c", "d"), s)}, made(1, 1, "c", 0, 1, "d", 1, 1, 1, 1, 2), list{piece(to("a", "b"), s), piece(to("c", "d"), s)}},
		{list{piece(to("a", "c"), s)}, list{piece(to("b", "d"), more)}, made(2, 1, "b", 0, 1, "c", 1, 1, 1, 4, 0, 1, "c", 0, 1, "d", 1, 1, 1, 1, 3), list{piece(to("a", "b"), s), piece(to("b", "d"), more)}},
		{list{piece(to("a", "c"), more)}, list{piece(to("b", "d"), s)}, made(1, 1, "c", 0, 1, "d", 1, 1, 1, 1, 2), list{piece(to("a", "c"), more), piece(to("c", "d"), s)}},
		{list{piece(to("b", "c"), s)}, all(s), made(2, 0, 0, 1, "b", 1, 1, 1, 1, 2, 1, "c", 1, 1, 1, 1, 1, 2), all(s)},
		{all(s), list{piece(to("b", "c"), s)}, made(0), all(s)},
		{all(s), list{piece(span.Of("a"), more)}, made(1, 1, "a", 0, 2, "a", 0, 1, 1, 1, 4, 0), list{piece(to("", "a"), s), piece(span.Of("a"), more), piece(from("a\x00"), s)}},
		{list{piece(span.Of("a"), s)}, all(more), made(3, 0, 0, 1, "a", 1, 1, 1, 1, 3, 1, "a", 0, 2, "a", 0, 1, 1, 1, 4, 0, 2, "a", 0, 1, 1, 1, 1, 1, 3), all(more)},
		{all(known(1, run(1, 5))), list{piece(span.Prefix("k"), known(1, run(1, 9)))}, made(1, 1, "k", 0, 1, "l", 1, 1, 1, 6, 3), list{piece(to("", "k"), known(1, run(1, 5))), piece(to("k", "l"), known(1, run(1, 9))), piece(from("l"), known(1, run(1, 5)))}},
		{list{piece(to("", "\x80"), s)}, list{piece(from("\x7f"), s)}, made(1, 1, 128, 1, 1, 1, 1, 1, 2), all(s)},
		{list{piece(to("", k17), s)}, all(s), made(1, 17, k17, 1, 1, 1, 1, 1, 2), all(s)},
		{list{piece(from(k17), s)}, list{piece(from(k16), s)}, made(1, 16, k16, 0, 17, k17, 1, 1, 1, 1, 2), list{piece(from(k16), s)}},
		{list{piece(from("\x00"), s)}, all(s), made(1, 0, 0, 1, 0, 1, 1, 1, 1, 2), all(s)},
		// Several pieces, of which some have more, less, the same, some of both.
		{all(s), list{piece(to("a", "b"), s), piece(to("b", "c"), more), piece(to("c", "d"), s)}, made(1, 1, "b", 0, 1, "c", 1, 1, 1, 4, 0), list{piece(to("", "b"), s), piece(to("b", "c"), more), piece(from("c"), s)}},
		{list{piece(to("a", "b"), s), piece(to("b", "c"), more), piece(to("c", "d"), s)}, all(s), made(2, 0, 0, 1, "a", 1, 1, 1, 1, 2, 1, "d", 1, 1, 1, 1, 1, 2), list{piece(to("", "b"), s), piece(to("b", "c"), more), piece(from("c"), s)}},
		{list{piece(to("a", "b"), s), piece(to("c", "d"), s)}, list{piece(to("a", "b"), more), piece(to("c", "d"), s), piece(from("e"), other)}, made(2, 1, "a", 0, 1, "b", 1, 1, 1, 4, 0, 1, "e", 1, 1, 2, 1, 7, 0), list{piece(to("a", "b"), more), piece(to("c", "d"), s), piece(from("e"), other)}},
		{list{piece(to("a", "b"), more), piece(from("c"), other)}, list{piece(to("a", "b"), s, other), piece(from("b"), other)}, made(1, 1, "a", 0, 1, "c", 1, 2, 1, 7, 0), list{piece(to("a", "b"), more, other), piece(from("b"), other)}},
		// What is more is the same, where those that have it are not; and another one, where they are the same.
		{list{piece(to("a", "b"), s)}, list{piece(to("a", "b"), s, other), piece(to("b", "c"), other)}, made(1, 1, "a", 0, 1, "c", 1, 2, 1, 7, 0), list{piece(to("a", "b"), s, other), piece(to("b", "c"), other)}},
		{list{piece(to("a", "b"), s), piece(to("b", "c"), known(1, run(1, 2)))}, list{piece(to("a", "c"), more)}, made(2, 1, "a", 0, 1, "b", 1, 1, 1, 4, 0, 1, "b", 0, 1, "c", 1, 1, 1, 3, 1), list{piece(to("a", "c"), more)}},
		{list{piece(to("a", "b"), s), piece(to("b", "c"), more)}, list{piece(to("a", "b"), known(1, run(1, 5))), piece(to("b", "c"), known(1, run(4, 5)))}, made(2, 1, "a", 0, 1, "b", 1, 1, 1, 4, 1, 1, "b", 0, 1, "c", 1, 1, 1, 5, 0), list{piece(to("a", "c"), known(1, run(1, 5)))}},
	} {
		checkWays(t, c.a, c.b, c.d, c.both)
		checkTwo(t, c.a, c.b)
		fromNone().CheckBoth(t, sample.LessPieces(c.b, c.a), c.d)
		for n := range len(c.d) {
			checkNone(t, c.a, api.ErrShort, c.d[:n])
			checkNone(t, c.a, api.ErrLong, slices.Concat(c.d, c.d[:n+1]))
		}
	}
}

// P17.1 and P17.2: knowledge that isn't right, on either side, with a wrong piece at each place.
func TestWrongPiece(t *testing.T) {
	s := known(1, run(1, 3))
	good := list{piece(to("", "\x00"), s), piece(to("a", "b"), s), piece(to("c", "d"), one(2, 7)), piece(from("e"), s)}
	bad := sample.Idle()
	for _, k := range sample.Bent() {
		bad = append(bad, piece(to("d", "e"), k), piece(to("d", "e"), one(1, 1), k))
	}
	for _, p := range bad {
		checkWrong(t, list{p})
		for i := range len(good) + 1 {
			k := slices.Insert(slices.Clone(good), i, p)
			checkNoDelta(t, k, good)
			checkNoDelta(t, good, k)
			checkNone(t, k, api.ErrArg, []byte{0})
			checkNone(t, k, api.ErrArg, bytesOf(good), bytesOf(good))
			checkNone(t, k, api.ErrArg, []byte{2})
		}
	}
}

// wrongLists are some of which no piece is wrong, but the list.
func wrongLists() []list {
	s, more := known(1, run(1, 3)), known(1, run(1, 4))
	return []list{
		// Pieces that could be one.
		{piece(to("a", "b"), s), piece(to("b", "c"), s)}, {piece(to("a", "b"), s), piece(from("b"), s)}, {piece(to("", "\x00"), s), piece(to("\x00", "a"), s)}, {piece(to("a", "b"), more), piece(to("b", "c"), s), piece(to("c", "d"), s)},
		// Out of order, on top of one another, the same more than once.
		{piece(to("c", "d"), s), piece(to("a", "b"), s)}, {piece(to("b", "c"), s), piece(to("a", "b"), more)}, {piece(to("a", "b"), s), piece(to("e", "f"), s), piece(to("c", "d"), s)}, {piece(to("\x80", "\xff"), s), piece(to("a", "\x7f"), s)},
		{piece(to("a", "c"), s), piece(to("b", "d"), more)}, {piece(to("a", "d"), s), piece(to("b", "c"), more)}, {piece(to("a", "b"), s), piece(to("a", "c"), more)}, {piece(to("a", "b"), s), piece(to("a", "b"), s)}, {piece(to("a", "b"), s), piece(to("a", "b"), more)},
		// Behind an open range there is nothing.
		{piece(from("a"), s), piece(to("b", "c"), more)}, {piece(from("a"), s), piece(from("b"), more)}, {piece(from(""), s), piece(from(""), s)}, {piece(from("b"), s), piece(to("", "b"), more)}, {piece(to("a", "b"), s), piece(from("c"), s), piece(to("d", "e"), s)},
	}
}

// P17.1 and P17.2: knowledge that isn't right, though each of its pieces is.
func TestWrongList(t *testing.T) {
	for _, k := range wrongLists() {
		checkWrong(t, k)
		checkNone(t, nil, api.ErrForm, bytesOf(k))
		checkNone(t, nil, api.ErrLong, append(bytesOf(k), 0))
		checkNone(t, all(one(1, 1)), api.ErrForm, []byte{0}, bytesOf(k))
		// What is right, and has the same, is another one.
		checkTwo(t, sample.OwnPieces(k), all(known(1, run(2, 3))))
	}
}

// edge is the i-th of many texts in order.
func edge(i int) string {
	return string([]byte{byte(i >> 8), byte(i)})
}

// many is right knowledge of so many pieces, each of which ends at the next one, with counts of one replica.
func many(replica, n int) list {
	var k list
	for i := range n {
		k = append(k, piece(to(edge(i), edge(i+1)), one(replica, i+1)))
	}
	return k
}

// apart is right knowledge of so many pieces, with texts ahead of each that it hasn't.
func apart(n int) list {
	var k list
	for i := range n {
		k = append(k, piece(to(edge(2*i+1), edge(2*i+2)), one(1, 1)))
	}
	return k
}

// between is what apart hasn't: one piece more.
func between(n int) list {
	k := list{piece(to("", edge(1)), one(1, 1))}
	for i := range n {
		k = append(k, piece(to(edge(2*i+2), edge(2*i+3)), one(1, 1)))
	}
	k[n].Range = from(edge(2 * n))
	return k
}

// P17.1: what has MaxPieces pieces is put, what has one more isn't; how many both have doesn't matter.
func TestMaxPieces(t *testing.T) {
	every := all(one(1, 1))
	for _, n := range []int{1, 126, 127, 128, 4094, 4095} {
		d := bytesOf(between(n))
		if !bytes.HasPrefix(d, number(n+1)) {
			t.Fatalf("%d pieces are to be %v", n+1, head(d))
		}
		checkWays(t, apart(n), every, d, every)
	}
	for _, n := range []int{4096, 4097, 5000, 16384} {
		checkNoDelta(t, apart(n), every)
		checkWays(t, every, apart(n), []byte{0}, every)
	}
	// More pieces than may be put, of which some are known.
	for _, n := range []int{4098, 5000, 8192} {
		k := many(1, n)
		checkNoDelta(t, nil, k[:4097])
		checkNoDelta(t, nil, k)
		checkNoDelta(t, k[:n-4097], k)
		checkNoDelta(t, k[n-1:], k[n-4098:])
		checkNoDelta(t, all(one(2, 1)), k)
		checkWays(t, k[:n-4096], k, bytesOf(k[n-4096:]), k)
		checkWays(t, k[n-1:], k[n-4097:], bytesOf(k[n-4097:n-1]), k[n-4097:])
		checkWays(t, k[:n-1], k, bytesOf(k[n-1:]), k)
		checkWays(t, k, nil, []byte{0}, k)
		checkWays(t, k, k[9:2000], []byte{0}, k)
		checkWays(t, k, list{piece(to(edge(2), edge(3)), one(1, 3), one(2, 9))}, made(1, 2, edge(2), 0, 2, edge(3), 1, 2, 1, 9, 0), slices.Concat(k[:2], list{piece(k[2].Range, one(1, 3), one(2, 9))}, k[3:]))
	}
}

// P17.2: what is applied to, and what comes of it, may have more pieces than may be put.
func TestManyPieces(t *testing.T) {
	k, every := many(1, 8192), all(one(1, 1))
	checkChain(t, nil, k, bytesOf(k[4096:]), bytesOf(k[:4096]))
	checkWays(t, k[:4096], k[4096:], bytesOf(k[4096:]), k)
	checkChain(t, k[1000:6000], k, bytesOf(k[5000:]), bytesOf(k[:2000]))
	checkNone(t, nil, api.ErrForm, bytesOf(k[:4097]))
	checkNone(t, k, api.ErrForm, []byte{0}, bytesOf(k[:4097]))
	// Between the last one and the first there are more pieces than at the end.
	checkChain(t, nil, every, bytesOf(apart(4096)), bytesOf(between(4095)), bytesOf(every))
	checkChain(t, apart(4097), every, bytesOf(every))
	checkChain(t, between(4096), every, bytesOf(apart(4096)))
}

// evens are so many runs of single counts, with one count ahead of each that they haven't.
func evens(n int) []api.Run {
	var l []api.Run
	for i := range n {
		l = append(l, run(2*i+2, 2*i+2))
	}
	return l
}

// odds are the runs of the counts that evens hasn't: one run more.
func odds(n int) []api.Run {
	var l []api.Run
	for i := range n {
		l = append(l, run(2*i+1, 2*i+1))
	}
	return append(l, run(2*n+1, last))
}

// P17.1: a set of which a replica has MaxPieces runs is put, one with one run more isn't, whichever replica's they are, and in whichever piece.
func TestMaxRuns(t *testing.T) {
	for _, replica := range []int{1, 2, 9, 16} {
		whole := known(replica, run(1, last))
		for _, n := range []int{1, 126, 127, 128, 4094, 4095} {
			some, more := known(replica, evens(n)...), all(known(replica, odds(n)...))
			checkWays(t, all(some), all(whole), bytesOf(more), all(whole))
			checkWays(t, list{piece(to("a", "b"), some)}, list{piece(to("a", "b"), whole)}, bytesOf(list{piece(to("a", "b"), more[0].Set...)}), list{piece(to("a", "b"), whole)})
		}
		for _, n := range []int{4096, 4097, 5000, 16384} {
			some := known(replica, evens(n)...)
			checkNoDelta(t, all(some), all(whole))
			checkNoDelta(t, list{piece(to("b", "c"), some)}, all(whole))
			checkNoDelta(t, all(some), list{piece(to("b", "c"), whole)})
			checkNoDelta(t, list{piece(to("a", "b"), one(3, 1)), piece(to("b", "c"), some)}, list{piece(to("a", "b"), one(3, 2)), piece(to("b", "c"), whole), piece(from("c"), one(4, 1))})
			checkWays(t, all(whole), all(some), []byte{0}, all(whole))
		}
		// More runs than may be put, of which some are known.
		for _, n := range []int{4098, 5000} {
			l := evens(n)
			k := all(known(replica, l...))
			checkNoDelta(t, nil, k)
			checkNoDelta(t, all(known(replica, l[:n-4097]...)), k)
			checkNoDelta(t, all(known(replica, l[n-1:]...)), all(known(replica, l[n-4098:]...)))
			checkWays(t, all(known(replica, l[:n-4096]...)), k, bytesOf(all(known(replica, l[n-4096:]...))), k)
			checkWays(t, all(known(replica, l[n-1:]...)), all(known(replica, l[n-4097:]...)), bytesOf(all(known(replica, l[n-4097:n-1]...))), all(known(replica, l[n-4097:]...)))
			checkWays(t, k, all(one(replica, 2)), []byte{0}, k)
			checkNone(t, nil, api.ErrForm, bytesOf(k))
			checkNone(t, k, api.ErrForm, []byte{0}, bytesOf(k))
		}
	}
	// As many runs as there may be of all replicas.
	var ahead, more, whole set
	for n := 1; n <= 16; n++ {
		ahead, more, whole = append(ahead, known(n, evens(4095)...)), append(more, known(n, odds(4095)...)), append(whole, known(n, run(1, last)))
	}
	checkWays(t, all(ahead...), all(whole...), bytesOf(all(more...)), all(whole...))
	for i := range ahead {
		other := slices.Clone(ahead)
		other[i].Runs = evens(4096)
		checkNoDelta(t, all(other...), all(whole...))
	}
}

// wrongBytes are such as are no knowledge's, and what is told of them.
func wrongBytes() []struct {
	b []byte
	e api.Errno
} {
	s, k18 := []byte{1, 1, 1, 1, 0}, long("k", 18)
	return []struct {
		b []byte
		e api.Errno
	}{
		// Cut off.
		{nil, api.ErrShort}, {[]byte{}, api.ErrShort}, {made(1), api.ErrShort}, {made(128), api.ErrShort}, {made(1, 0), api.ErrShort}, {made(1, 1), api.ErrShort}, {made(1, 0, 0), api.ErrShort}, {made(1, 0, 1), api.ErrShort}, {made(1, 0, 1, 1, 1, 1, 1), api.ErrShort}, {made(2, 0, 1, s), api.ErrShort}, {made(1, 0, 1, 1, 1, 2, 1, 0), api.ErrShort},
		// They go on.
		{made(0, 0), api.ErrLong}, {made(0, 128), api.ErrLong}, {made(1, 0, 1, s, 0), api.ErrLong}, {made(0, 0, 1, s), api.ErrLong}, {made(1, 0, 1, s, 1, "a", 1, s), api.ErrLong}, {made(0, bytes.Repeat([]byte{128}, 100)), api.ErrLong},
		// Not right.
		{made(128, 0), api.ErrForm}, {made(129, 32), api.ErrForm}, {made(129, 0, 0, 1, s), api.ErrForm}, {bytes.Repeat([]byte{128}, 8), api.ErrForm}, {made(1, 18), api.ErrForm}, {made(1, 18, k18, 1, s), api.ErrForm}, {made(1, 0, 2, s), api.ErrForm}, {made(1, 0, 0, 18, k18, s), api.ErrForm},
		{made(1, 0, 1, 17), api.ErrForm}, {made(1, 0, 1, 1, 0, 1, 1, 0), api.ErrForm}, {made(1, 0, 1, 1, 17, 1, 1, 0), api.ErrForm}, {made(1, 0, 1, 1, 1, 129, 32), api.ErrForm}, {made(1, 0, 1, 1, 1, 1, number(1<<48+1), 0), api.ErrForm}, {made(1, 0, 1, 1, 1, 1, 1, number(1<<48+1)), api.ErrForm},
		// Of knowledge that isn't right; with a byte behind them, that is told first.
		{made(1, 0, 1, 0), api.ErrForm}, {made(1, 0, 1, 0, 0), api.ErrLong}, {made(1, 0, 0, 0, s), api.ErrForm}, {made(1, 0, 0, 0, s, 7), api.ErrLong}, {made(1, 1, "b", 0, 1, "a", s), api.ErrForm}, {made(2, 0, 1, s, 0, 1, s), api.ErrForm}, {made(2, 0, 1, s, 0, 1, s, 0), api.ErrLong}, {made(2, 1, "a", 0, 1, "b", s, 1, "b", 1, s), api.ErrForm},
		{made(1, 0, 1, 1, 1, 0), api.ErrForm}, {made(1, 0, 1, 1, 1, 1, 0, 0), api.ErrForm}, {made(1, 0, 1, 1, 1, 2, 1, 0, 1, 0), api.ErrForm}, {made(1, 0, 1, 2, 2, 1, 1, 0, 1, 1, 1, 0), api.ErrForm}, {made(1, 0, 1, 1, 1, 1, number(last), 1), api.ErrForm}, {made(1, 0, 1, 1, 1, 1, number(1<<48), number(1<<48)), api.ErrForm},
	}
}

// checkBytes is what comes of some bytes, or what is told of them, by what the layer below reads.
func checkBytes(t *testing.T, k list, b []byte) {
	t.Helper()
	more, e := kcode.ReadKnow(b)
	if e != api.OK {
		checkNone(t, k, e, b)
		checkNone(t, k, e, []byte{0}, b, nil)
		return
	}
	checkChain(t, k, sample.OwnPieces(slices.Concat(k, more)), b)
}

// P17.2: what is told of wrong bytes, whatever they are applied to, and at whichever place of a chain.
func TestWrongBytes(t *testing.T) {
	s := known(1, run(1, 3))
	for _, k := range []list{nil, {}, all(s), {piece(to("a", "b"), s), piece(from("b"), one(2, 7))}, many(3, 300)} {
		for _, c := range wrongBytes() {
			checkNone(t, k, c.e, c.b)
			for _, d := range [][]byte{{0}, bytesOf(all(one(4, 4))), bytesOf(k)} {
				checkNone(t, k, c.e, c.b, d)
				checkNone(t, k, c.e, d, c.b)
				checkNone(t, k, c.e, d, c.b, d)
				checkNone(t, k, c.e, d, d, d, c.b)
			}
		}
		for _, p := range sample.Idle() {
			checkBytes(t, k, bytesOf(list{p}))
		}
	}
	for _, k := range []list{all(s), {piece(to("a", "b"), s), piece(to("b", "c"), known(1, run(1, 4)), one(2, 300))}} {
		b := bytesOf(k)
		fromNone().CheckEnds(t, b, api.OK)
		fromNone().CheckChanged(t, b)
		for i := range b {
			for x := range 256 {
				other := slices.Clone(b)
				other[i] = byte(x)
				checkBytes(t, k, other)
			}
		}
	}
}

// P17.2: of several errors of a chain, the first; of knowledge that isn't right, that, whatever else is wrong.
func TestFirstError(t *testing.T) {
	type delta struct {
		b []byte
		k list
		e api.Errno
	}
	some := []delta{
		{made(0), nil, api.OK}, {made(1, 0, 1, 1, 1, 1, 4, 0), all(one(1, 4)), api.OK}, {made(1, 1, "a", 1, 1, 2, 1, 7, 0), list{piece(from("a"), one(2, 7))}, api.OK},
		{nil, nil, api.ErrShort}, {made(1, 0, 1, 1, 1, 1, 4), nil, api.ErrShort}, {made(128, 0), nil, api.ErrForm}, {made(1, 0, 1, 0), nil, api.ErrForm}, {made(0, 0), nil, api.ErrLong}, {made(1, 0, 1, 0, 0), nil, api.ErrLong},
	}
	for _, k := range []list{nil, all(known(1, run(1, 3))), {piece(to("a", "c"), one(2, 7)), piece(to("c", "d"), one(1, 4))}} {
		for _, l := range sample.Lists(some, 4) {
			var d [][]byte
			first, both := api.OK, slices.Clone(k)
			for _, x := range l {
				d, both = append(d, x.b), append(both, x.k...)
				if first == api.OK {
					first = x.e
				}
			}
			if first != api.OK {
				checkNone(t, k, first, d...)
			} else {
				checkChain(t, k, sample.OwnPieces(both), d...)
			}
		}
	}
	for _, k := range []list{{{}}, all(), all(one(2, 1), one(1, 1)), {piece(from("a"), one(1, 1)), piece(from("b"), one(1, 2))}} {
		for _, l := range sample.Lists(some, 3) {
			var d [][]byte
			for _, x := range l {
				d = append(d, x.b)
			}
			if len(d) > 0 {
				checkNone(t, k, api.ErrArg, d...)
			} else {
				checkChain(t, k, sample.OwnPieces(k), d...)
			}
		}
	}
}

// P17.2: a chain of none is what has all that was handed in, whatever that is.
func TestChainOfNone(t *testing.T) {
	s, more := known(1, run(1, 3)), known(1, run(1, 4))
	for _, c := range []struct{ k, want list }{
		{nil, nil}, {list{}, nil}, {all(s), all(s)}, {list{piece(to("a", "b"), s), piece(from("b"), more)}, list{piece(to("a", "b"), s), piece(from("b"), more)}},
		{list{{}}, nil}, {all(), nil}, {all(known(1)), nil}, {sample.Idle(), nil},
		{list{piece(to("a", "b"), s), piece(to("b", "c"), s)}, list{piece(to("a", "c"), s)}}, {list{piece(to("b", "c"), more), piece(to("a", "b"), s)}, list{piece(to("a", "b"), s), piece(to("b", "c"), more)}},
		{list{piece(to("a", "c"), s), piece(to("b", "d"), more)}, list{piece(to("a", "b"), s), piece(to("b", "d"), more)}}, {all(one(2, 1), one(1, 1)), all(one(1, 1), one(2, 1))}, {list{piece(to("b", "a"), s), piece(from("a"), more), {}}, list{piece(from("a"), more)}},
		{many(1, 5000), many(1, 5000)}, {all(known(1, evens(5000)...)), all(known(1, evens(5000)...))},
	} {
		checkChain(t, c.k, c.want)
		if got, e := kdelta.Chain(c.k, [][]byte{}...); e != api.OK || !sample.EqualPieces(got, c.want) {
			t.Fatalf("Chain(%#v) = %#v and %d, want %#v and OK", c.k, got, e, c.want)
		}
	}
	// One that has no byte is one all the same.
	checkNone(t, nil, api.ErrShort, nil)
	checkNone(t, nil, api.ErrShort, nil, nil)
	checkNone(t, nil, api.ErrShort, []byte{})
}

// P17.1 to P17.3: any two lists of up to two pieces by some texts, right or not, as the words say.
func TestLists(t *testing.T) {
	s, more := one(1, 1), known(1, run(1, 2))
	some := list{
		piece(from(""), s), piece(to("", "a"), s), piece(to("", "b"), more), piece(to("a", "a\x00"), s), piece(to("a", "b"), s, one(2, 1)), piece(to("a", "b"), one(2, 1), s), piece(to("b", "c"), more), piece(to("b", "a"), s),
		piece(from("b"), s), piece(from("b"), one(16, 9)), piece(from("c"), known(1, run(2, 4))), piece(to("a", "c"), known(1)), {},
	}
	lists := sample.Lists(some, 2)
	for _, a := range lists {
		for _, b := range lists {
			rightA, rightB := sample.RightPieces(a), sample.RightPieces(b)
			if rightA && rightB {
				checkTwo(t, a, b)
				continue
			}
			checkNoDelta(t, a, b)
			if rightA {
				checkBytes(t, a, bytesOf(b))
				continue
			}
			checkNone(t, a, api.ErrArg, bytesOf(b))
			checkNone(t, a, api.ErrArg, bytesOf(b), bytesOf(a))
		}
	}
}

// P17.1 to P17.3: any two of all knowledge by three edges, of two versions.
func TestAllKnowledge(t *testing.T) {
	var some list
	for _, r := range sample.All([]string{"", "a", "a\x00"}) {
		some = append(some, piece(r, one(1, 1)), piece(r, one(2, 1)), piece(r, one(1, 1), one(2, 1)))
	}
	var right []list
	for _, k := range sample.Lists(some, 3) {
		if sample.RightPieces(k) {
			right = append(right, k)
		}
	}
	// Of each of three ranges that the edges part, it has none of both versions, one of them, or both.
	if len(right) != 64 {
		t.Fatalf("%d right lists, want 64", len(right))
	}
	for _, a := range right {
		for _, b := range right {
			checkTwo(t, a, b)
			d, _ := kdelta.Delta(a, b)
			if within := know.Within(b, a); within != bytes.Equal(d, []byte{0}) {
				t.Fatalf("Delta(%#v, %#v) = %v, and within is %t", a, b, d, within)
			}
		}
	}
}

// drawnTwo are two right lists that hang on a draw; mostly the second one has some of the first.
func drawnTwo(roll func(int) int, edges []string, numbers []int) (a, b list) {
	a, b = sample.OwnPieces(sample.DrawnPieces(roll, edges, numbers)), sample.OwnPieces(sample.DrawnPieces(roll, edges, numbers))
	if roll(4) > 0 {
		b = sample.OwnPieces(slices.Concat(b, know.Restrict(a, sample.DrawnRanges(roll, edges))))
	}
	return a, b
}

// P17.1 to P17.3: drawn knowledge, right or not.
func TestDrawn(t *testing.T) {
	for seed := range 1500 {
		for _, some := range []struct {
			edges   []string
			numbers []int
		}{{sample.Edges(), sample.Numbers()}, {sample.Edges(), []int{0, 1, 2, 3, 4, 5, 6}}, {[]string{"", "a", "a\x00", "b", "c"}, []int{0, 1, 2, 3, 4}}} {
			roll := sample.Draw(seed)
			a, b := drawnTwo(roll, some.edges, some.numbers)
			checkTwo(t, a, b)
			k := sample.DrawnPieces(roll, some.edges, some.numbers)
			if sample.RightPieces(k) {
				checkTwo(t, a, k)
			} else {
				checkWrong(t, k)
				checkNoDelta(t, a, k)
				checkNoDelta(t, k, b)
			}
			if seed%10 == 0 {
				fromNone().CheckDrawn(t, roll, a)
			}
		}
	}
}

// P17.2 and P17.3: what a delta is applied to may be any other knowledge: it has that, and what was learned more, and nothing else.
func TestElsewhere(t *testing.T) {
	for seed := range 1000 {
		roll := sample.Draw(seed)
		numbers := []int{1, 2, 3, 4, 5, 6, last}
		a, b := drawnTwo(roll, sample.Edges(), numbers)
		c, _ := drawnTwo(roll, sample.Edges(), numbers)
		d, e := kdelta.Delta(a, b)
		if e != api.OK {
			t.Fatalf("Delta(%#v, %#v) tells %d", a, b, e)
		}
		more := sample.LessPieces(b, a)
		checkChain(t, c, sample.OwnPieces(slices.Concat(c, more)), d)
		checkChain(t, b, b, d)
		checkChain(t, c, sample.OwnPieces(slices.Concat(c, more, a)), d, bytesOf(a))
	}
}

// P17.2 and P17.3: deltas between knowledge that grows, applied in their order, in another one, and some of them twice.
func TestOrder(t *testing.T) {
	for seed := range 600 {
		roll := sample.Draw(seed)
		first, _ := drawnTwo(roll, sample.Edges(), []int{1, 2, 3, 4, 5, last})
		k := first
		var d [][]byte
		for range 1 + roll(6) {
			more, _ := drawnTwo(roll, sample.Edges(), []int{1, 2, 3, 4, 5, last})
			next := sample.OwnPieces(slices.Concat(k, more))
			b, e := kdelta.Delta(k, next)
			if e != api.OK {
				t.Fatalf("Delta(%#v, %#v) tells %d", k, next, e)
			}
			checkChain(t, k, next, b)
			d, k = append(d, b), next
		}
		checkChain(t, first, k, d...)
		whole, _ := kdelta.Delta(first, k)
		checkChain(t, first, k, whole)
		for range 4 {
			for i := range d {
				j := roll(i + 1)
				d[i], d[j] = d[j], d[i]
			}
			checkChain(t, first, k, d...)
			checkChain(t, first, k, append(d, d[roll(len(d))], d[roll(len(d))])...)
		}
		// A chain is each in turn.
		in := first
		for _, b := range d {
			next, e := kdelta.Apply(in, b)
			if e != api.OK {
				t.Fatalf("Apply(%#v, %v) tells %d", in, b, e)
			}
			in = next
		}
		if !sample.EqualPieces(in, k) {
			t.Fatalf("%v, each in turn, make %#v of %#v, want %#v", d, in, first, k)
		}
	}
}

// P17.3: what a delta is applied to has just what it should of all texts, also of such as stand between the edges, and far behind them.
func TestProbes(t *testing.T) {
	probes := sample.Near(sample.Edges())
	asked := []api.Version{ver(1, 1), ver(1, 2), ver(1, 4), ver(2, 1), ver(2, 3), ver(3, 2), ver(16, 4), ver(17, 1), ver(1, 0)}
	for seed := range 300 {
		roll := sample.Draw(seed)
		a, b := drawnTwo(roll, sample.Edges(), []int{0, 1, 2, 3, 4})
		d, _ := kdelta.Delta(a, b)
		both, e := kdelta.Apply(a, d)
		more, alone := kdelta.Apply(nil, d)
		if e != api.OK || alone != api.OK {
			t.Fatalf("Apply of Delta(%#v, %#v) tells %d and %d", a, b, e, alone)
		}
		for _, s := range probes {
			for _, v := range asked {
				inA, inB := sample.HasKnown(a, s, v), sample.HasKnown(b, s, v)
				if know.Has(both, s, v) != (inA || inB) || know.Has(more, s, v) != (inB && !inA) {
					t.Fatalf("%v of %#v, of %#v and %#v: %#v, and more %#v", v, s, a, b, both, more)
				}
			}
		}
	}
}

// handed are lists that the tests of what is handed in hand in, right ones and others.
func handed() []list {
	s, more := known(1, run(1, 3), run(5, 6)), known(1, run(1, 4))
	return []list{
		{piece(to("a", "b"), s), piece(to("b", "c"), more, one(2, 7)), piece(from("c"), s)},
		{piece(to("", "b"), s, one(16, last)), piece(to("b", "bb"), known(2, run(1, 3), run(300, 700), run(last, last)), one(3, 1), one(4, 1))},
		all(known(1, run(1, 3)), known(2, run(1, 3)), known(3, run(1, 3))),
		{piece(from("c"), s), piece(to("a", "d"), known(2, run(5, 7), run(1, 2), run(0, 4)), one(17, 1), s), {}, piece(to("b", "a"), s), piece(from(""))},
	}
}

// calls are all calls, with what they answer as knowledge.
func calls() []func(a, b list, d [][]byte) list {
	return []func(a, b list, d [][]byte) list{
		func(a, b list, d [][]byte) list { return taken(kdelta.Delta(a, b)) },
		func(a, b list, d [][]byte) list { return taken(kdelta.Delta(b, a)) },
		func(a, b list, d [][]byte) list { return taken(kdelta.Delta(a, nil)) },
		func(a, b list, d [][]byte) list { return first(kdelta.Apply(a, d[0])) },
		func(a, b list, d [][]byte) list { return first(kdelta.Apply(b, d[1])) },
		func(a, b list, d [][]byte) list { return first(kdelta.Apply(nil, d[1])) },
		func(a, b list, d [][]byte) list { return first(kdelta.Chain(a)) },
		func(a, b list, d [][]byte) list { return first(kdelta.Chain(b)) },
		func(a, b list, d [][]byte) list { return first(kdelta.Chain(a, d[:3]...)) },
		func(a, b list, d [][]byte) list { return first(kdelta.Chain(b, d...)) },
	}
}

// taken is what bytes tell of, which then are written over, also behind their end.
func taken(d []byte, _ api.Errno) list {
	k, _ := kcode.ReadKnow(d)
	clear(d)
	_ = append(d, 1, 2, 3)
	return k
}

// first is knowledge without its error.
func first(k list, _ api.Errno) list {
	return k
}

// deltas are some bytes, copied to where each has room behind it, with something in it; the last of all are handed in nowhere.
type deltas struct {
	wide [][]byte
	row  []byte
}

// laidDeltas are some bytes, and such as stand behind them.
func laidDeltas(d ...[]byte) deltas {
	wide, row := sample.Laid(append(d, []byte{7, 8, 9}), 77)
	return deltas{wide, row}
}

// list is all that is handed in.
func (d deltas) list() [][]byte {
	return d.wide[:len(d.wide)-1]
}

// same is whether all is as in another one.
func (d deltas) same(other deltas) bool {
	return slices.EqualFunc(d.wide, other.wide, bytes.Equal) && bytes.Equal(d.row, other.row)
}

// P17.1, P17.2 and rule 5: what is handed in is as it was afterwards, also behind its ends, and whoever writes into what is answered.
func TestHandedIn(t *testing.T) {
	for _, a := range handed() {
		for _, b := range handed() {
			p, q, keptP, keptQ := sample.LaidPieces(a), sample.LaidPieces(b), sample.LaidPieces(a), sample.LaidPieces(b)
			d, kept := laidDeltas([]byte{0}, bytesOf(b), bytesOf(a), []byte{1, 0}), laidDeltas([]byte{0}, bytesOf(b), bytesOf(a), []byte{1, 0})
			for n := range len(a) + 1 {
				for m := range n + 1 {
					for i, call := range calls() {
						got, again := call(p.List[m:n], q.List, d.list()), call(p.List[m:n], q.List, d.list())
						want := sample.ClonePieces(got)
						sample.SpoilPieces(got)
						if !p.Same(keptP) || !q.Same(keptQ) || !d.same(kept) {
							t.Fatalf("call %d of those from %d to %d of %#v and %#v: what was handed in is another one", i, m, n, a, b)
						}
						if !sample.EqualPieces(again, want) {
							t.Fatalf("call %d of those from %d to %d: %#v, and again %#v", i, m, n, want, again)
						}
					}
				}
			}
		}
		fromNone().CheckHandedIn(t, a, slices.Concat(bytesOf(a), []byte{0, 2, 0, 0, 1, 128, 0}, bytesOf(a)))
	}
}

// P17.1, P17.2 and rule 5: answers share nothing with what was handed in, nor with one another, nor among their own lists.
func TestAnswersAreNew(t *testing.T) {
	for _, a := range handed() {
		if sample.RightPieces(a) {
			fromNone().CheckNew(t, a)
		}
		for _, b := range handed() {
			for i, call := range calls() {
				p, q := sample.LaidPieces(a), sample.LaidPieces(b)
				d := laidDeltas([]byte{0}, bytesOf(b), bytesOf(a), []byte{0})
				got := call(p.List, q.List, d.list())
				want := sample.ClonePieces(got)
				for _, r := range []sample.Place{p, q} {
					clear(r.Runs)
					sample.SpoilPieces(r.List)
				}
				clear(d.row)
				if !sample.EqualPieces(got, want) {
					t.Fatalf("call %d of %#v and %#v: the answer became %#v, was %#v", i, a, b, got, want)
				}
				for j, p := range got {
					for n := range p.Set {
						sample.Spoil(p.Set[n : n+1 : n+1])
						if !sample.EqualSets(p.Set[n+1:], want[j].Set[n+1:]) {
							t.Fatalf("call %d: the answer's set became %v, was %v", i, p.Set, want[j].Set)
						}
					}
					sample.SpoilPieces(got[j : j+1 : j+1])
					if !sample.EqualPieces(got[j+1:], want[j+1:]) {
						t.Fatalf("call %d: the answer became %#v, was %#v", i, got[j+1:], want[j+1:])
					}
				}
			}
		}
	}
	fromNone().CheckNew(t, nil)
	fromNone().CheckNew(t, many(2, 300))
}

// P17.2 and rule 1: chains of many deltas, each of a piece of its own, of none, and of the same.
func TestLongChain(t *testing.T) {
	k := many(1, 30000)
	var d [][]byte
	for i := range k {
		// 7 and their number have nothing in common, so each comes once.
		j := i * 7 % len(k)
		d = append(d, bytesOf(k[j:j+1]))
	}
	checkChain(t, nil, k, d...)
	checkChain(t, k, k, d...)
	checkChain(t, k[:9000], k, d[1:]...)
	checkNone(t, nil, api.ErrShort, append(d, nil)...)
	checkNone(t, nil, api.ErrLong, append([][]byte{{0, 0}}, d...)...)
	checkChain(t, k[:4096], k[:4096], slices.Repeat([][]byte{{0}}, 1<<17)...)
	checkChain(t, nil, k[:100], slices.Repeat([][]byte{bytesOf(k[:100])}, 2000)...)
}

// Rule 6: each answer hangs on nothing that was called ahead of it.
func TestSameEachTime(t *testing.T) {
	other := list{piece(from("b"), known(1, run(2, 6)), known(16, run(last, last)))}
	for range 3 {
		for _, k := range handed() {
			if sample.RightPieces(k) {
				checkTwo(t, k, other)
			} else {
				checkWrong(t, k)
			}
		}
		for _, c := range wrongBytes() {
			checkNone(t, other, c.e, c.b)
		}
	}
}
