package fcode_test

import (
	"bytes"
	"math"
	"slices"
	"testing"

	"winnower/api"
	"winnower/fcode"
	"winnower/filter"
	"winnower/ranges"
	"winnower/sample"
)

// list and nodes are short names of what the calls take and answer.
type (
	list  = []api.Range
	nodes = []api.Node
)

// What ranges, texts and nodes are made by here: the tests of several layers have it together.
var (
	to, from, long          = sample.To, sample.From, sample.Long
	begins, between, behind = sample.Begins, sample.Between, sample.Behind
	each, some              = sample.Each, sample.Some
	number, text, made      = sample.NumberBytes, sample.TextBytes, sample.Made
)

// The nodes that need no more than their kind.
var all, none, turned = api.Node{Op: 1}, api.Node{Op: 2}, api.Node{Op: 6, Kids: 1}

// ofRanges is what is asked of lists of ranges.
func ofRanges() sample.Code[api.Range] {
	return sample.Code[api.Range]{
		Name: "Ranges", Put: fcode.Ranges, Read: fcode.ReadRanges, Most: 4096, Right: ranges.Right,
		All:  func(l list) []byte { return sample.ListBytes(l, sample.RangeBytes) },
		Next: func(w *sample.Words) list { return sample.Several(w, 4096, (*sample.Words).Range) },
		Same: slices.Equal[list], Spoil: sample.SpoilOne[api.Range], Lay: func(l list) (list, func() bool) { return sample.LayOne(l, to("over", "written")) },
	}
}

// ofNodes is what is asked of filters.
func ofNodes() sample.Code[api.Node] {
	return sample.Code[api.Node]{
		Name: "Filter", Put: fcode.Filter, Read: fcode.ReadFilter, Most: 32, Right: filter.Right,
		All:  func(l nodes) []byte { return sample.ListBytes(l, nodeBytes) },
		Next: func(w *sample.Words) nodes { return sample.Several(w, 32, nextNode) },
		Same: slices.Equal[nodes], Spoil: sample.SpoilOne[api.Node], Lay: func(l nodes) (nodes, func() bool) { return sample.LayOne(l, begins("overwritten")) },
	}
}

// nodeBytes are the bytes of a node, right or not: of Op, and of what its kind has.
func nodeBytes(n api.Node) []byte {
	switch n.Op {
	case 3, 5:
		return append(number(n.Op), text(n.Lo)...)
	case 4:
		return slices.Concat(number(n.Op), text(n.Lo), text(n.Hi))
	case 7, 8:
		return append(number(n.Op), number(n.Kids)...)
	}
	return number(n.Op)
}

// nextNode is the node that is read next.
func nextNode(w *sample.Words) api.Node {
	switch op := w.Number(1, 8); op {
	case 3:
		return begins(w.Edge())
	case 4:
		lo := w.Edge()
		return between(lo, w.Edge())
	case 5:
		return behind(w.Edge())
	case 6:
		return turned
	case 7, 8:
		return api.Node{Op: op, Kids: w.Number(0, 32)}
	default:
		return api.Node{Op: op}
	}
}

// P10.1 to P10.3: the chapter's examples.
func TestExamples(t *testing.T) {
	ofRanges().CheckBoth(t, list{{Open: true}}, []byte{1, 0, 1})
	ofNodes().CheckBoth(t, nodes{{Op: api.FAll}}, []byte{1, 1})
	ofNodes().CheckBoth(t, filter.All(), []byte{1, 1})
}

// P10.1 to P10.3: lists of ranges, and their bytes.
func TestRanges(t *testing.T) {
	for _, c := range []struct {
		l list
		b []byte
	}{
		{nil, made(0)},
		{list{}, made(0)},
		{list{to("a", "b")}, made(1, 1, "a", 0, 1, "b")},
		{list{from("a")}, made(1, 1, "a", 1)},
		{list{to("", "a")}, made(1, 0, 0, 1, "a")},
		{list{to("", "\x00")}, made(1, 0, 0, 1, 0)},
		{list{to("\x00", "\x01")}, made(1, 1, 0, 0, 1, 1)},
		{list{to("\x01", "\x02\x00")}, made(1, 1, 1, 0, 2, 2, 0)},
		{list{from("\xff")}, made(1, 1, 255, 1)},
		{list{to("\x7f", "\x80")}, made(1, 1, 127, 0, 1, 128)},
		{list{to("", "b"), from("c")}, made(2, 0, 0, 1, "b", 1, "c", 1)},
		{list{to("a", "b"), to("b\x00", "c")}, made(2, 1, "a", 0, 1, "b", 2, "b", 0, 0, 1, "c")},
		{list{to("a", "ab"), to("ac", "b"), to("é", "ü"), from("\xff\xfe")}, made(4, 1, "a", 0, 2, "ab", 2, "ac", 0, 1, "b", 2, 195, 169, 0, 2, 195, 188, 2, 255, 254, 1)},
		// Edges of just MaxEdge bytes.
		{list{from(long("k", 17))}, made(1, 17, long("k", 17), 1)},
		{list{to(long("k", 17), "l")}, made(1, 17, long("k", 17), 0, 1, "l")},
		{list{to("", long("k", 17))}, made(1, 0, 0, 17, long("k", 17))},
		{list{to(long("\x00", 16), long("\x00", 17)), to(long("\x01", 17), long("\xff", 16)), from(long("\xff", 17))},
			made(3, 16, long("\x00", 16), 0, 17, long("\x00", 17), 17, long("\x01", 17), 0, 16, long("\xff", 16), 17, long("\xff", 17), 1)},
	} {
		ofRanges().CheckBoth(t, c.l, c.b)
	}
}

// P10.1 to P10.3: filters, and their bytes.
func TestFilter(t *testing.T) {
	for _, c := range []struct {
		l nodes
		b []byte
	}{
		{nodes{all}, made(1, 1)},
		{nodes{none}, made(1, 2)},
		{nodes{begins("a")}, made(1, 3, 1, "a")},
		{nodes{begins("")}, made(1, 3, 0)},
		{nodes{begins("\x00\xff")}, made(1, 3, 2, 0, 255)},
		{nodes{between("a", "b")}, made(1, 4, 1, "a", 1, "b")},
		{nodes{between("", "\x00")}, made(1, 4, 0, 1, 0)},
		{nodes{between("ab", "é")}, made(1, 4, 2, "ab", 2, 195, 169)},
		{nodes{behind("a")}, made(1, 5, 1, "a")},
		{nodes{behind("")}, made(1, 5, 0)},
		{nodes{all, turned}, made(2, 1, 6)},
		{nodes{none, turned, turned}, made(3, 2, 6, 6)},
		{nodes{all, each(1)}, made(2, 1, 7, 1)},
		{nodes{all, some(1)}, made(2, 1, 8, 1)},
		{nodes{none, all, each(2)}, made(3, 2, 1, 7, 2)},
		{nodes{all, none, some(2)}, made(3, 1, 2, 8, 2)},
		{nodes{begins("a"), begins("ab"), turned, each(2)}, made(4, 3, 1, "a", 3, 2, "ab", 6, 7, 2)},
		{nodes{begins("a"), between("x", "y"), turned, behind("\xff"), none, some(2), each(3)}, made(7, 3, 1, "a", 4, 1, "x", 1, "y", 6, 5, 1, 255, 2, 8, 2, 7, 3)},
		// Texts of just MaxKey, and of just MaxEdge bytes.
		{nodes{begins(long("k", 16))}, made(1, 3, 16, long("k", 16))},
		{nodes{behind(long("k", 17))}, made(1, 5, 17, long("k", 17))},
		{nodes{between(long("k", 17), "l")}, made(1, 4, 17, long("k", 17), 1, "l")},
		{nodes{between(long("k", 16), long("k", 17))}, made(1, 4, 16, long("k", 16), 17, long("k", 17))},
		{nodes{between(long("k", 17), long("l", 17))}, made(1, 4, 17, long("k", 17), 17, long("l", 17))},
	} {
		ofNodes().CheckBoth(t, c.l, c.b)
	}
}

// P10.1: what filter's calls build has bytes too.
func TestBuilt(t *testing.T) {
	ofNodes().CheckBoth(t, filter.And(filter.Prefix("a"), filter.Not(filter.Prefix("ab"))), made(4, 3, 1, "a", 3, 2, "ab", 6, 7, 2))
	ofNodes().CheckBoth(t, filter.Or(filter.Between("a", "b"), filter.From("c"), filter.None()), made(4, 4, 1, "a", 1, "b", 5, 1, "c", 2, 8, 3))
	ofNodes().CheckBoth(t, filter.And(), made(1, 1))
	ofNodes().CheckBoth(t, filter.Or(), made(1, 2))
	ofRanges().CheckBoth(t, filter.Ranges(filter.Not(filter.Between("b", "c"))), made(2, 0, 0, 1, "b", 1, "c", 1))
	ofRanges().CheckBoth(t, filter.Ranges(filter.None()), made(0))
}

// P10.1 and P10.2: a list that has a range that isn't right, at each place, isn't put, and isn't read.
func TestWrongRange(t *testing.T) {
	good := list{to("", "\x00"), to("a", "b"), to("c", "d"), from("e")}
	for _, r := range sample.Wrong() {
		for i := range len(good) + 1 {
			ofRanges().CheckList(t, slices.Insert(slices.Clone(good), i, r))
			ofRanges().CheckUnput(t, slices.Insert(slices.Clone(good), i, r))
			if i < len(good) {
				l := slices.Clone(good)
				l[i] = r
				ofRanges().CheckList(t, l)
				ofRanges().CheckUnput(t, l)
			}
		}
		ofRanges().CheckUnput(t, list{r})
	}
}

// P10.1 and P10.2: ranges that touch, have texts together, are the same or not in order, are no list that is put, nor one that is read.
func TestNotApart(t *testing.T) {
	for _, l := range []list{
		{to("a", "b"), to("b", "c")}, {to("a", "b"), from("b")}, {to("", "\x00"), to("\x00", "a")},
		{to("a", "c"), to("b", "d")}, {to("a", "d"), to("b", "c")}, {to("a", "b"), to("a", "b")}, {to("a", "b"), to("a", "c")}, {from("a"), from("a")},
		{to("c", "d"), to("a", "b")}, {to("\x80", "\xff"), to("a", "\x7f")}, {from("c"), to("a", "b")}, {from("a"), to("b", "c")}, {from(""), from("")},
		{to("a", "b"), to("c", "d"), to("d", "e")}, {to("a", "b"), to("b", "c"), to("d", "e")}, {to("a", "b"), from("c"), to("d", "e")},
	} {
		ofRanges().CheckUnput(t, l)
		ofRanges().CheckEnds(t, ofRanges().All(l), api.ErrForm)
	}
}

// P10.1 and P10.2: a filter that has a node that isn't right, at each place, isn't put, nor are its bytes read as such a one.
func TestWrongNode(t *testing.T) {
	for _, n := range sample.WrongNodes() {
		for _, l := range []nodes{{n}, {n, turned}, {n, each(1)}, {all, n}, {all, n, some(2)}, {n, all, each(2)}, {all, none, n}, {all, all, n, each(3)}, {n, n}, {n, n, some(2)}} {
			ofNodes().CheckUnput(t, l)
			ofNodes().CheckBytes(t, ofNodes().All(l))
			ofNodes().CheckBytes(t, append(ofNodes().All(l), 0))
		}
	}
}

// P10.1 and P10.2: nodes that find too few kids, or of which more than one is left, or none, are no filter that is put, nor one that is read.
func TestWrongTree(t *testing.T) {
	for _, l := range []nodes{
		nil, {}, {turned}, {each(1)}, {some(1)}, {each(2)}, {some(32)}, {turned, all}, {each(1), all}, {all, each(2)}, {all, some(2), all}, {all, all, each(3)},
		{all, all}, {all, none}, {all, all, turned}, {all, all, all, some(2)}, {all, turned, each(2)}, {all, all, some(2), each(2)},
		// What is no node is read, but makes none.
		{each(0)}, {some(0)}, {all, each(0)}, {all, each(0), each(2)}, {all, some(0), turned}, {begins(long("k", 17))}, {all, begins(long("k", 17)), some(2)},
		{between("b", "a")}, {between("a", "a")}, {between("", "")}, {between(long("k", 17), long("k", 16))}, {between("b", "a"), turned},
	} {
		ofNodes().CheckUnput(t, l)
		ofNodes().CheckEnds(t, ofNodes().All(l), api.ErrForm)
	}
}

// P10.2: what is told of ranges that can't be read, and of several things the first.
func TestReadRangesWrong(t *testing.T) {
	k17, k18 := long("k", 17), long("k", 18)
	for _, c := range []struct {
		b []byte
		e api.Errno
	}{
		{nil, api.ErrShort}, {[]byte{}, api.ErrShort},
		// How many: half a number, one of too many bytes, one that is too large, with and without what follows.
		{made(129), api.ErrShort}, {made(128, 128, 128, 128, 128, 128, 128), api.ErrShort}, {made(128, 0), api.ErrForm}, {made(129, 0, 0, 1), api.ErrForm}, {made(129, 128, 0, 0, 1), api.ErrForm},
		{bytes.Repeat([]byte{128}, 8), api.ErrForm}, {bytes.Repeat([]byte{255}, 9), api.ErrForm}, {made(129, 32), api.ErrForm}, {made(129, 32, 0, 1), api.ErrForm}, {made(128, 64), api.ErrForm},
		{made(128, 128, 128, 128, 128, 128, 64), api.ErrForm}, {made(129, 128, 128, 128, 128, 128, 64), api.ErrForm}, {made(128, 128, 128, 128, 128, 128, 128, 0), api.ErrForm},
		// Told of more than there are.
		{made(1), api.ErrShort}, {made(2, 0, 1), api.ErrShort}, {made(2, 1, "a", 0, 1, "b"), api.ErrShort}, {made(127), api.ErrShort}, {made(128, 32), api.ErrShort}, {made(255, 31, 0, 1), api.ErrShort},
		// Of fewer.
		{made(0, 0), api.ErrLong}, {made(0, 0, 1), api.ErrLong}, {made(1, 0, 1, 1, "a", 1), api.ErrLong}, {made(0, 128), api.ErrLong}, {made(0, 255), api.ErrLong},
		// Lo: too long, of too many bytes, cut off.
		{made(1, 18, k18, 1), api.ErrForm}, {made(1, 18), api.ErrForm}, {made(1, 18, k18, 1, 1), api.ErrForm}, {made(1, 127), api.ErrForm}, {made(1, 128, 1), api.ErrForm}, {made(1, 128, 0, 1), api.ErrForm}, {made(1, 129, 0, "a", 1), api.ErrForm},
		{made(1, 17, long("k", 16)), api.ErrShort}, {made(1, 1), api.ErrShort}, {made(1, 128), api.ErrShort}, {made(1, 146), api.ErrShort}, {append(made(1), bytes.Repeat([]byte{128}, 8)...), api.ErrForm},
		// Open: neither 0 nor 1, of too many bytes, cut off.
		{made(1, 0, 2), api.ErrForm}, {made(1, 0, 2, 1), api.ErrForm}, {made(1, 0, 127), api.ErrForm}, {made(1, 0, 129, 0), api.ErrForm}, {made(1, 0, 128, 0, 1, "a"), api.ErrForm}, {made(1, 0, 128, 1), api.ErrForm}, {made(1, 0, 255), api.ErrShort},
		{made(1, 1, "a"), api.ErrShort}, {made(1, 17, k17), api.ErrShort},
		// Hi: too long, of too many bytes, cut off, none; one, though it is Open.
		{made(1, 0, 0, 18, k18), api.ErrForm}, {made(1, 0, 0, 18), api.ErrForm}, {made(1, 0, 0, 18, k18, 0), api.ErrForm}, {made(1, 0, 0, 128, 0), api.ErrForm}, {made(1, 0, 0, 129, 0, "a"), api.ErrForm},
		{made(1, 0, 0, 17, long("k", 16)), api.ErrShort}, {made(1, 0, 0, 1), api.ErrShort}, {made(1, 0, 0), api.ErrShort}, {made(1, 0, 0, 128), api.ErrShort},
		{made(1, 0, 1, 0), api.ErrLong}, {made(1, 1, "a", 1, 1, "b"), api.ErrLong}, {made(1, 1, "a", 1, 0), api.ErrLong},
		// Read whole, and not right; with a byte behind it, that is told first.
		{made(1, 0, 0, 0), api.ErrForm}, {made(1, 0, 0, 0, 0), api.ErrLong}, {made(1, 1, "a", 0, 1, "a"), api.ErrForm}, {made(1, 1, "b", 0, 1, "a"), api.ErrForm}, {made(1, 1, "b", 0, 1, "a", 7), api.ErrLong},
		{made(2, 0, 1, 0, 1), api.ErrForm}, {made(2, 1, "a", 0, 1, "b", 1, "b", 1), api.ErrForm}, {made(2, 1, "a", 0, 1, "b", 1, "b", 1, 0), api.ErrLong}, {made(1, 17, k17, 0, 17, k17), api.ErrForm}, {made(1, 17, k17, 0, 17, k17, 1), api.ErrLong},
		// The first of several: what is cut off ahead of what can't be right, and what can't be read ahead of both.
		{made(2, 1, "b", 0, 1, "a"), api.ErrShort}, {made(2, 1, "b", 0, 1, "a", 0), api.ErrShort}, {made(2, 1, "b", 0, 1, "a", 0, 2), api.ErrForm}, {made(2, 0, 2, 18), api.ErrForm}, {made(2, 5, "a"), api.ErrShort},
		{made(3, 0, 1, 0, 1, 18, 1, 1), api.ErrForm}, {made(3, 1, "a", 0, 9, "b"), api.ErrShort}, {made(3, 1, "a", 3, 9, "b"), api.ErrForm},
	} {
		ofRanges().CheckError(t, c.b, c.e)
		ofRanges().CheckBytes(t, c.b)
	}
}

// P10.2: what is told of nodes that can't be read, and of several things the first.
func TestReadFilterWrong(t *testing.T) {
	k17, k18 := long("k", 17), long("k", 18)
	for _, c := range []struct {
		b []byte
		e api.Errno
	}{
		{nil, api.ErrShort}, {[]byte{}, api.ErrShort},
		// How many: none, half a number, one of too many bytes, one that is too large, with and without what follows.
		{made(0), api.ErrForm}, {made(0, 0), api.ErrLong}, {made(0, 1), api.ErrLong}, {made(0, 128), api.ErrLong}, {made(129), api.ErrShort}, {made(128, 0), api.ErrForm}, {made(129, 0, 1), api.ErrForm}, {made(33), api.ErrForm}, {made(33, 1, 1), api.ErrForm},
		{made(127), api.ErrForm}, {made(160, 0), api.ErrForm}, {made(129, 2), api.ErrForm}, {bytes.Repeat([]byte{128}, 7), api.ErrShort}, {bytes.Repeat([]byte{128}, 8), api.ErrForm}, {made(128, 128, 128, 128, 128, 128, 64), api.ErrForm},
		// Told of more than there are, of fewer.
		{made(1), api.ErrShort}, {made(32), api.ErrShort}, {made(2, 1), api.ErrShort}, {made(32, 1, 6, 6), api.ErrShort}, {made(1, 1, 6), api.ErrLong}, {made(1, 1, 0), api.ErrLong}, {made(1, 1, 128), api.ErrLong},
		// Op: not from 1 to 8, of too many bytes, cut off.
		{made(1, 0), api.ErrForm}, {made(1, 0, 0), api.ErrForm}, {made(1, 9), api.ErrForm}, {made(1, 9, 9), api.ErrForm}, {made(1, 10), api.ErrForm}, {made(1, 127), api.ErrForm}, {made(1, 129, 0), api.ErrForm}, {made(1, 129, 2), api.ErrForm}, {made(1, 129), api.ErrShort}, {made(2, 1, 9), api.ErrForm}, {made(2, 1, 0), api.ErrForm},
		{made(2, 0), api.ErrForm}, {made(2, 9), api.ErrForm}, {append(made(1), bytes.Repeat([]byte{129}, 8)...), api.ErrForm},
		// Lo of those that begin with it: too long, of too many bytes, cut off; one of MaxEdge bytes is read, though it isn't right.
		{made(1, 3), api.ErrShort}, {made(1, 3, 2, "a"), api.ErrShort}, {made(1, 3, 18), api.ErrForm}, {made(1, 3, 18, k18), api.ErrForm}, {made(1, 3, 18, k18, 0), api.ErrForm}, {made(1, 3, 129, 0, "a"), api.ErrForm}, {made(1, 3, 128), api.ErrShort},
		{made(1, 3, 17, k17), api.ErrForm}, {made(1, 3, 17, k17, 0), api.ErrLong}, {made(1, 3, 17, long("k", 16)), api.ErrShort}, {made(2, 3, 17, k17), api.ErrShort}, {made(1, 3, 1, "a", 0), api.ErrLong}, {made(1, 3, 1, "a", 1, "b"), api.ErrLong},
		// Lo and Hi of a range.
		{made(1, 4), api.ErrShort}, {made(1, 4, 1), api.ErrShort}, {made(1, 4, 1, "a"), api.ErrShort}, {made(1, 4, 1, "a", 1), api.ErrShort}, {made(1, 4, 18), api.ErrForm}, {made(1, 4, 18, k18, 1, "l"), api.ErrForm}, {made(1, 4, 0, 18), api.ErrForm}, {made(1, 4, 0, 18, k18), api.ErrForm},
		{made(1, 4, 0, 18, k18, 0), api.ErrForm}, {made(1, 4, 128, 0, 1, "a"), api.ErrForm}, {made(1, 4, 0, 129, 0, "a"), api.ErrForm}, {made(1, 4, 0, 128, 0), api.ErrForm}, {made(1, 4, 17, long("k", 16)), api.ErrShort}, {made(1, 4, 0, 17, long("k", 16)), api.ErrShort},
		{made(1, 4, 0, 0), api.ErrForm}, {made(1, 4, 0, 0, 0), api.ErrLong}, {made(1, 4, 1, "a", 1, "a"), api.ErrForm}, {made(1, 4, 1, "b", 1, "a"), api.ErrForm}, {made(1, 4, 1, "b", 1, "a", 1), api.ErrLong}, {made(1, 4, 1, "a", 0, 1, "b"), api.ErrLong},
		// Lo of those from it on.
		{made(1, 5), api.ErrShort}, {made(1, 5, 2, "a"), api.ErrShort}, {made(1, 5, 18), api.ErrForm}, {made(1, 5, 18, k18), api.ErrForm}, {made(1, 5, 129, 0, "a"), api.ErrForm}, {made(1, 5, 17, k17, 0), api.ErrLong}, {made(1, 5, 1, "a", 1), api.ErrLong}, {made(1, 5, 1, "a", 1, "b"), api.ErrLong},
		// A Not's kid isn't put.
		{made(1, 6), api.ErrForm}, {made(2, 1, 6, 1), api.ErrLong}, {made(2, 1, 6, 0), api.ErrLong}, {made(1, 6, 1), api.ErrLong}, {made(3, 1, 6, 1), api.ErrForm},
		// Kids: none, up to MaxNodes, more, of too many bytes, cut off.
		{made(1, 7), api.ErrShort}, {made(1, 8), api.ErrShort}, {made(2, 1, 7), api.ErrShort}, {made(2, 1, 8), api.ErrShort}, {made(1, 7, 0), api.ErrForm}, {made(1, 8, 0), api.ErrForm}, {made(1, 7, 0, 0), api.ErrLong}, {made(1, 8, 0, 0), api.ErrLong}, {made(1, 7, 1), api.ErrForm}, {made(1, 8, 1), api.ErrForm},
		{made(1, 7, 32), api.ErrForm}, {made(1, 8, 32), api.ErrForm}, {made(1, 7, 32, 0), api.ErrLong}, {made(1, 8, 32, 0), api.ErrLong}, {made(2, 7, 32), api.ErrShort}, {made(2, 8, 32), api.ErrShort}, {made(1, 7, 33), api.ErrForm}, {made(1, 8, 33), api.ErrForm},
		{made(1, 7, 33, 0), api.ErrForm}, {made(1, 8, 33, 0), api.ErrForm}, {made(2, 7, 33), api.ErrForm}, {made(2, 8, 33), api.ErrForm}, {made(2, 1, 7, 127), api.ErrForm}, {made(2, 1, 8, 129, 0), api.ErrForm}, {made(2, 1, 7, 129, 0), api.ErrForm}, {made(2, 1, 8, 129, 2), api.ErrForm}, {made(2, 1, 7, 129), api.ErrShort}, {made(2, 1, 8, 129), api.ErrShort},
		// Neither all nor none has anything behind its Op.
		{made(1, 2, 0), api.ErrLong}, {made(1, 1, 1, "a"), api.ErrLong}, {made(2, 1, 0), api.ErrForm},
		// The first of several.
		{made(2, 6), api.ErrShort}, {made(2, 6, 9), api.ErrForm}, {made(3, 3, 18, 9), api.ErrForm}, {made(3, 3, 9, "a"), api.ErrShort}, {made(3, 9, 3, 9, "a"), api.ErrForm}, {made(2, 4, 1, "b", 1, "a"), api.ErrShort}, {made(2, 4, 1, "b", 1, "a", 0), api.ErrForm}, {made(2, 7, 0, 8), api.ErrShort}, {made(2, 7, 0, 8, 33, 1), api.ErrForm},
	} {
		ofNodes().CheckError(t, c.b, c.e)
		ofNodes().CheckBytes(t, c.b)
	}
}

// many is a right list of so many ranges, the last one Open or not.
func many(n int, open bool) list {
	var l list
	edge := func(i int) string { return string([]byte{byte(i >> 8), byte(i)}) }
	for i := range n {
		l = append(l, to(edge(2*i), edge(2*i+1)))
	}
	if open {
		l[n-1] = from(l[n-1].Lo)
	}
	return l
}

// P10.1 and P10.2: MaxPieces ranges, and one more.
func TestMaxPieces(t *testing.T) {
	for _, n := range []int{127, 128, 129, 4095, 4096} {
		for _, open := range []bool{false, true} {
			l := many(n, open)
			b := ofRanges().All(l)
			ofRanges().CheckPut(t, l, b)
			ofRanges().CheckRead(t, b, l)
			for _, cut := range []int{1, 2, 3, 9, 1000} {
				ofRanges().CheckError(t, b[:len(b)-min(cut, len(b))], api.ErrShort)
			}
			ofRanges().CheckError(t, append(b, 0), api.ErrLong)
			l[n-1].Lo = l[n-2].Lo
			ofRanges().CheckList(t, l)
			ofRanges().CheckUnput(t, l)
		}
	}
	if b, _ := fcode.Ranges(many(4096, true)); !bytes.HasPrefix(b, []byte{128, 32, 2, 0, 0, 0, 2, 0, 1}) {
		t.Errorf("4096 ranges begin with %v", b[:9])
	}
	for _, n := range []int{4097, 4098, 8192, 16384} {
		l := many(n, n%2 == 0)
		b := ofRanges().All(l)
		ofRanges().CheckUnput(t, l)
		ofRanges().CheckError(t, b, api.ErrForm)
		ofRanges().CheckError(t, number(n), api.ErrForm)
		ofRanges().CheckError(t, b[:len(b)-1], api.ErrForm)
		ofRanges().CheckError(t, append(b, 0), api.ErrForm)
	}
	ofRanges().CheckUnput(t, make(list, 4097))
	ofRanges().CheckUnput(t, make(list, 1<<20))
}

// times is a list of a node, n times, and other ones behind it.
func times(n int, one api.Node, rest ...api.Node) nodes {
	return append(slices.Repeat(nodes{one}, n), rest...)
}

// P10.1 and P10.2: MaxNodes nodes, and one more; MaxNodes kids can be told, but no filter has them.
func TestMaxNodes(t *testing.T) {
	for _, l := range []nodes{
		append(nodes{begins("a")}, times(31, turned)...), append(nodes{all}, times(31, each(1))...), append(nodes{none}, times(31, some(1))...),
		times(31, behind(long("k", 17)), each(31)), times(31, between(long("k", 17), long("l", 17)), some(31)), times(30, begins("b"), each(30), turned), times(16, all, times(14, some(2), each(2), turned)...),
	} {
		ofNodes().CheckBoth(t, l, ofNodes().All(l))
		for _, n := range []api.Node{turned, each(1), some(1)} {
			more := append(slices.Clone(l), n)
			b := ofNodes().All(more)
			ofNodes().CheckUnput(t, more)
			ofNodes().CheckError(t, b, api.ErrForm)
			ofNodes().CheckError(t, b[:1], api.ErrForm)
			ofNodes().CheckError(t, append(b, 0), api.ErrForm)
		}
	}
	for _, kids := range []int{32, 33, 127, 128, 255, 256, 1 << 20, 1 << 47, api.MaxNumber} {
		for _, n := range []api.Node{each(kids), some(kids)} {
			for _, ahead := range []int{0, 1, 31, 32} {
				ofNodes().CheckList(t, times(ahead, all, n))
				ofNodes().CheckUnput(t, times(ahead, all, n))
			}
		}
	}
	ofNodes().CheckUnput(t, times(32, all))
	ofNodes().CheckUnput(t, times(32, all, each(32)))
	ofNodes().CheckUnput(t, times(1<<20, all))
	ofNodes().CheckUnput(t, times(1<<20, all, some(1<<20)))
	ofNodes().CheckUnput(t, append(nodes{all}, times(1<<20, turned)...))
}

// P10.1 to P10.3: all lists of up to two ranges by some edges, right or not, and of up to four of some, as the words say.
func TestListsOfRanges(t *testing.T) {
	edges := []string{"", "\x00", "a", "a\x00", "b", "\x80", long("k", 17), long("k", 18)}
	for _, l := range sample.Lists(sample.All(edges), 2) {
		ofRanges().CheckList(t, l)
	}
	for _, l := range sample.Lists(list{to("", "a"), to("a", "b"), to("b", "c"), to("b\x00", "c"), from("d"), from("c"), {}}, 4) {
		ofRanges().CheckList(t, l)
	}
}

// P10.1 to P10.3: all lists of up to four of some nodes, right or not, as the words say.
func TestListsOfNodes(t *testing.T) {
	some := nodes{all, none, begins("a"), begins(long("k", 17)), between("", "b"), between("b", "a"), behind("a\x00"), turned, each(0), each(1), each(2), some(1), some(3), some(32)}
	for _, l := range sample.Lists(some, 4) {
		ofNodes().CheckList(t, l)
	}
}

// P10.2 and P10.3: all bytes of up to two, and more of some, as the words say.
func TestAllBytes(t *testing.T) {
	check := func(b []byte) {
		ofRanges().CheckBytes(t, b)
		ofNodes().CheckBytes(t, b)
	}
	var every []byte
	for x := range 256 {
		every = append(every, byte(x))
	}
	for _, b := range sample.Lists(every, 2) {
		check(b)
	}
	for _, b := range sample.Lists([]byte{0, 1, 2, 3, 4, 6, 7, 8, 128, 129}, 5) {
		check(b)
	}
	for _, b := range sample.Lists([]byte{0, 1, 2, 128}, 8) {
		ofRanges().CheckBytes(t, b)
	}
	for _, b := range sample.Lists([]byte{1, 3, 4, 6, 7}, 6) {
		ofNodes().CheckBytes(t, b)
	}
}

// P10.1 to P10.3: drawn lists of ranges, there and back, and changed bytes of them.
func TestDrawnRanges(t *testing.T) {
	edges := sample.Edges()
	in := make([]bool, len(edges))
	for seed := range 4000 {
		roll := sample.Draw(seed)
		odds := 1 + roll(4)
		for i := range in {
			in[i] = roll(5) < odds
		}
		l := sample.List(in, edges)
		ofRanges().CheckDrawn(t, roll, l)
		if n := len(l); n > 0 {
			i, j := roll(n), roll(n)
			l[i], l[j] = l[j], l[i]
			ofRanges().CheckList(t, l)
		}
	}
}

// P10.1 to P10.3: drawn filters, there and back, changed ones, and changed bytes of them.
func TestDrawnFilters(t *testing.T) {
	for seed := range 4000 {
		roll := sample.Draw(seed)
		l := sample.Grown(roll, 1+roll(32))
		ofNodes().CheckDrawn(t, roll, l)
		for range 4 {
			l := sample.Spoilt(roll, l)
			if filter.Right(l) {
				ofNodes().CheckList(t, l)
			} else {
				ofNodes().CheckUnput(t, l)
			}
		}
	}
}

// P10.3: what is put as the same bytes is the same.
func TestUnlike(t *testing.T) {
	ofRanges().CheckUnlike(t, sample.Lists(sample.All([]string{"", "\x00", "\x01", "\x01\x00"}), 2), 16)
	ofNodes().CheckUnlike(t, sample.Lists(nodes{all, none, begins(""), begins("\x01"), between("", "\x01"), between("\x01", "\x02"), behind(""), behind("\x01"), turned, each(1), each(2), some(1), some(2)}, 4), 16)
}

// P10.1, P10.2 and rule 5: what is handed in is as it was afterwards, whatever is answered.
func TestHandedIn(t *testing.T) {
	l := list{to("a", "b"), to("c", long("k", 17)), from("m"), to("b", "a"), {}, to("n", long("n", 18)), from("x")}
	ofRanges().CheckHandedIn(t, l, slices.Concat(ofRanges().All(l[:3]), []byte{0, 2, 0, 0, 1, 128, 0}, ofRanges().All(l[3:])))
	f := nodes{begins("a"), between("x", "y"), turned, each(2), {Op: 9, Kids: -1, Lo: "b", Hi: "a"}, behind("b"), some(1), {Op: 7, Kids: math.MaxInt}}
	ofNodes().CheckHandedIn(t, f, slices.Concat(ofNodes().All(f[:4]), []byte{9, 128, 0}, ofNodes().All(f[5:])))
}

// P10.1 and P10.2: answers share nothing with what was handed in, nor with one another.
func TestAnswersAreNew(t *testing.T) {
	ofRanges().CheckNew(t, nil)
	ofRanges().CheckNew(t, list{from("")})
	ofRanges().CheckNew(t, list{to("a", "b"), to("c", long("k", 17)), from("m")})
	ofRanges().CheckNew(t, many(300, true))
	ofNodes().CheckNew(t, nodes{all})
	ofNodes().CheckNew(t, nodes{begins("a"), between("x", "y"), turned, behind("b"), some(2), each(2)})
}
