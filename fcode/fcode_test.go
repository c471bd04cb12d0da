package fcode_test

import (
	"bytes"
	"fmt"
	"math"
	"slices"
	"testing"

	"winnower/api"
	"winnower/fcode"
	"winnower/filter"
	"winnower/ranges"
	"winnower/sample"
)

// list and nodes are short names of what the calls take and answer.
type (
	list  = []api.Range
	nodes = []api.Node
)

// What ranges, texts and nodes are made by here: the tests of several layers have it together.
var (
	to, from, long          = sample.To, sample.From, sample.Long
	begins, between, behind = sample.Begins, sample.Between, sample.Behind
	each, some              = sample.Each, sample.Some
)

// The nodes that need no more than their kind.
var all, none, turned = api.Node{Op: 1}, api.Node{Op: 2}, api.Node{Op: 6, Kids: 1}

// number are a number's bytes, as layer 2's words have them; of one below 0 none.
func number(n int) []byte {
	switch {
	case n < 0:
		return nil
	case n < 128:
		return []byte{byte(n)}
	}
	return append([]byte{byte(n%128 + 128)}, number(n/128)...)
}

// text are a text's bytes.
func text(s string) []byte {
	return append(number(len(s)), s...)
}

// words reads bytes from the left, as the words of layer 2 have it, and keeps the first error.
type words struct {
	left []byte
	e    api.Errno
}

// number reads a number from lo to hi.
func (w *words) number(lo, hi int) int {
	if w.e != api.OK {
		return 0
	}
	n := 0
	w.e = api.ErrShort
	for i, x := range w.left {
		n += int(x%128) << (7 * i)
		if x < 128 || i == 7 {
			w.e = api.OK
			if x >= 128 || i > 0 && x == 0 || n < lo || n > hi {
				w.e = api.ErrForm
				return 0
			}
			w.left = w.left[i+1:]
			return n
		}
	}
	return 0
}

// text reads a text of at most MaxEdge bytes.
func (w *words) text() string {
	n := w.number(0, 17)
	if w.e == api.OK && n > len(w.left) {
		w.e = api.ErrShort
	}
	if w.e != api.OK {
		return ""
	}
	s := string(w.left[:n])
	w.left = w.left[n:]
	return s
}

// code is what is asked of lists of ranges, and of filters: both calls, and what the chapter's words say of them.
type code[T comparable] struct {
	name  string
	put   func(l []T) ([]byte, api.Errno)
	read  func(b []byte) ([]T, api.Errno)
	most  int
	right func(l []T) bool
	bytes func(x T) []byte
	next  func(w *words) T
}

// ofRanges is what is asked of lists of ranges.
func ofRanges() code[api.Range] {
	return code[api.Range]{"Ranges", fcode.Ranges, fcode.ReadRanges, 4096, ranges.Right, rangeBytes, nextRange}
}

// rangeBytes are the bytes of a range, right or not: of Lo, whether it is Open, and, if it isn't, of Hi.
func rangeBytes(r api.Range) []byte {
	if r.Open {
		return append(text(r.Lo), 1)
	}
	return slices.Concat(text(r.Lo), []byte{0}, text(r.Hi))
}

// nextRange is the range that is read next.
func nextRange(w *words) api.Range {
	lo := w.text()
	if w.number(0, 1) == 1 {
		return from(lo)
	}
	return to(lo, w.text())
}

// ofNodes is what is asked of filters.
func ofNodes() code[api.Node] {
	return code[api.Node]{"Filter", fcode.Filter, fcode.ReadFilter, 32, filter.Right, nodeBytes, nextNode}
}

// nodeBytes are the bytes of a node, right or not: of Op, and of what its kind has.
func nodeBytes(n api.Node) []byte {
	switch n.Op {
	case 3, 5:
		return append(number(n.Op), text(n.Lo)...)
	case 4:
		return slices.Concat(number(n.Op), text(n.Lo), text(n.Hi))
	case 7, 8:
		return append(number(n.Op), number(n.Kids)...)
	}
	return number(n.Op)
}

// nextNode is the node that is read next.
func nextNode(w *words) api.Node {
	switch op := w.number(1, 8); op {
	case 3:
		return begins(w.text())
	case 4:
		lo := w.text()
		return between(lo, w.text())
	case 5:
		return behind(w.text())
	case 6:
		return turned
	case 7, 8:
		return api.Node{Op: op, Kids: w.number(0, 32)}
	default:
		return api.Node{Op: op}
	}
}

// all are the bytes of a list, right or not: how many there are, and of each.
func (c code[T]) all(l []T) []byte {
	b := number(len(l))
	for _, x := range l {
		b = append(b, c.bytes(x)...)
	}
	return b
}

// byWords is what is read, and what is told, as the chapter says it.
func (c code[T]) byWords(b []byte) ([]T, api.Errno) {
	w := &words{left: b}
	var l []T
	for n := w.number(0, c.most); len(l) < n && w.e == api.OK; {
		l = append(l, c.next(w))
	}
	switch {
	case w.e != api.OK:
		return nil, w.e
	case len(w.left) > 0:
		return nil, api.ErrLong
	case !c.right(l):
		return nil, api.ErrForm
	}
	return l, api.OK
}

// told is a list as a text, of a long one its beginning.
func told[T any](l []T) string {
	if len(l) > 60 {
		return fmt.Sprintf("%#v and so on, %d in all", l[:60], len(l))
	}
	return fmt.Sprintf("%#v", l)
}

// checkPut is that a list is put as some bytes.
func (c code[T]) checkPut(t *testing.T, l []T, want []byte) {
	t.Helper()
	if b, e := c.put(l); e != api.OK || !bytes.Equal(b, want) {
		t.Fatalf("%s(%s) = %s, %d, want %s, OK", c.name, told(l), told(b), e, told(want))
	}
}

// checkUnput is that a list isn't put.
func (c code[T]) checkUnput(t *testing.T, l []T) {
	t.Helper()
	if b, e := c.put(l); e != api.ErrArg || len(b) != 0 {
		t.Fatalf("%s(%s) = %s, %d, want none, ErrArg", c.name, told(l), told(b), e)
	}
}

// checkRead is that bytes are read as a list.
func (c code[T]) checkRead(t *testing.T, b []byte, want []T) {
	t.Helper()
	if l, e := c.read(b); e != api.OK || !slices.Equal(l, want) {
		t.Fatalf("Read%s(%s) = %s, %d, want %s, OK", c.name, told(b), told(l), e, told(want))
	}
}

// checkError is that bytes aren't read, and what is told.
func (c code[T]) checkError(t *testing.T, b []byte, want api.Errno) {
	t.Helper()
	if l, e := c.read(b); e != want || len(l) != 0 {
		t.Fatalf("Read%s(%s) = %s, %d, want none, %d", c.name, told(b), told(l), e, want)
	}
}

// checkBytes holds what is read of some bytes against the words; if it is a list, that it was put just so.
func (c code[T]) checkBytes(t *testing.T, b []byte) {
	t.Helper()
	l, e := c.byWords(b)
	if e != api.OK {
		c.checkError(t, b, e)
		return
	}
	c.checkRead(t, b, l)
	c.checkPut(t, l, b)
}

// checkList holds what is put of a list, right or not, against the words, and what is read of its bytes, whole and with one behind them.
func (c code[T]) checkList(t *testing.T, l []T) {
	t.Helper()
	b := c.all(l)
	if len(l) <= c.most && c.right(l) {
		c.checkPut(t, l, b)
		c.checkRead(t, b, l)
		c.checkError(t, append(b, 0), api.ErrLong)
		return
	}
	c.checkUnput(t, l)
	c.checkBytes(t, b)
	c.checkBytes(t, append(b, 0))
}

// checkBoth is that a list is put as some bytes, and they are read as it, and in no other way: neither cut off at any place, nor with bytes behind them.
func (c code[T]) checkBoth(t *testing.T, l []T, b []byte) {
	t.Helper()
	c.checkPut(t, l, b)
	c.checkRead(t, b, l)
	for n := range len(b) {
		c.checkError(t, b[:n], api.ErrShort)
	}
	for x := range 256 {
		c.checkError(t, append(slices.Clone(b), byte(x)), api.ErrLong)
	}
	c.checkError(t, slices.Concat(b, b), api.ErrLong)
	c.checkError(t, slices.Concat(b, bytes.Repeat([]byte{128}, 1000)), api.ErrLong)
}

// made are bytes, made of numbers and texts: numbers as bytes of one each, a text as its bytes alone.
func made(parts ...any) []byte {
	var b []byte
	for _, part := range parts {
		switch x := part.(type) {
		case int:
			b = append(b, byte(x))
		case string:
			b = append(b, x...)
		}
	}
	return b
}

// P10.1 to P10.3: the chapter's examples.
func TestExamples(t *testing.T) {
	ofRanges().checkBoth(t, list{{Open: true}}, []byte{1, 0, 1})
	ofNodes().checkBoth(t, nodes{{Op: api.FAll}}, []byte{1, 1})
	ofNodes().checkBoth(t, filter.All(), []byte{1, 1})
}

// P10.1 to P10.3: lists of ranges, and their bytes.
func TestRanges(t *testing.T) {
	for _, c := range []struct {
		l list
		b []byte
	}{
		{nil, made(0)},
		{list{}, made(0)},
		{list{to("a", "b")}, made(1, 1, "a", 0, 1, "b")},
		{list{from("a")}, made(1, 1, "a", 1)},
		{list{to("", "a")}, made(1, 0, 0, 1, "a")},
		{list{to("", "\x00")}, made(1, 0, 0, 1, 0)},
		{list{to("\x00", "\x01")}, made(1, 1, 0, 0, 1, 1)},
		{list{to("\x01", "\x02\x00")}, made(1, 1, 1, 0, 2, 2, 0)},
		{list{from("\xff")}, made(1, 1, 255, 1)},
		{list{to("\x7f", "\x80")}, made(1, 1, 127, 0, 1, 128)},
		{list{to("", "b"), from("c")}, made(2, 0, 0, 1, "b", 1, "c", 1)},
		{list{to("a", "b"), to("b\x00", "c")}, made(2, 1, "a", 0, 1, "b", 2, "b", 0, 0, 1, "c")},
		{list{to("a", "ab"), to("ac", "b"), to("é", "ü"), from("\xff\xfe")}, made(4, 1, "a", 0, 2, "ab", 2, "ac", 0, 1, "b", 2, 195, 169, 0, 2, 195, 188, 2, 255, 254, 1)},
		// Edges of just MaxEdge bytes.
		{list{from(long("k", 17))}, made(1, 17, long("k", 17), 1)},
		{list{to(long("k", 17), "l")}, made(1, 17, long("k", 17), 0, 1, "l")},
		{list{to("", long("k", 17))}, made(1, 0, 0, 17, long("k", 17))},
		{list{to(long("\x00", 16), long("\x00", 17)), to(long("\x01", 17), long("\xff", 16)), from(long("\xff", 17))},
			made(3, 16, long("\x00", 16), 0, 17, long("\x00", 17), 17, long("\x01", 17), 0, 16, long("\xff", 16), 17, long("\xff", 17), 1)},
	} {
		ofRanges().checkBoth(t, c.l, c.b)
	}
}

// P10.1 to P10.3: filters, and their bytes.
func TestFilter(t *testing.T) {
	for _, c := range []struct {
		l nodes
		b []byte
	}{
		{nodes{all}, made(1, 1)},
		{nodes{none}, made(1, 2)},
		{nodes{begins("a")}, made(1, 3, 1, "a")},
		{nodes{begins("")}, made(1, 3, 0)},
		{nodes{begins("\x00\xff")}, made(1, 3, 2, 0, 255)},
		{nodes{between("a", "b")}, made(1, 4, 1, "a", 1, "b")},
		{nodes{between("", "\x00")}, made(1, 4, 0, 1, 0)},
		{nodes{between("ab", "é")}, made(1, 4, 2, "ab", 2, 195, 169)},
		{nodes{behind("a")}, made(1, 5, 1, "a")},
		{nodes{behind("")}, made(1, 5, 0)},
		{nodes{all, turned}, made(2, 1, 6)},
		{nodes{none, turned, turned}, made(3, 2, 6, 6)},
		{nodes{all, each(1)}, made(2, 1, 7, 1)},
		{nodes{all, some(1)}, made(2, 1, 8, 1)},
		{nodes{none, all, each(2)}, made(3, 2, 1, 7, 2)},
		{nodes{all, none, some(2)}, made(3, 1, 2, 8, 2)},
		{nodes{begins("a"), begins("ab"), turned, each(2)}, made(4, 3, 1, "a", 3, 2, "ab", 6, 7, 2)},
		{nodes{begins("a"), between("x", "y"), turned, behind("\xff"), none, some(2), each(3)}, made(7, 3, 1, "a", 4, 1, "x", 1, "y", 6, 5, 1, 255, 2, 8, 2, 7, 3)},
		// Texts of just MaxKey, and of just MaxEdge bytes.
		{nodes{begins(long("k", 16))}, made(1, 3, 16, long("k", 16))},
		{nodes{behind(long("k", 17))}, made(1, 5, 17, long("k", 17))},
		{nodes{between(long("k", 17), "l")}, made(1, 4, 17, long("k", 17), 1, "l")},
		{nodes{between(long("k", 16), long("k", 17))}, made(1, 4, 16, long("k", 16), 17, long("k", 17))},
		{nodes{between(long("k", 17), long("l", 17))}, made(1, 4, 17, long("k", 17), 17, long("l", 17))},
	} {
		ofNodes().checkBoth(t, c.l, c.b)
	}
}

// P10.1: what filter's calls build has bytes too.
func TestBuilt(t *testing.T) {
	ofNodes().checkBoth(t, filter.And(filter.Prefix("a"), filter.Not(filter.Prefix("ab"))), made(4, 3, 1, "a", 3, 2, "ab", 6, 7, 2))
	ofNodes().checkBoth(t, filter.Or(filter.Between("a", "b"), filter.From("c"), filter.None()), made(4, 4, 1, "a", 1, "b", 5, 1, "c", 2, 8, 3))
	ofNodes().checkBoth(t, filter.And(), made(1, 1))
	ofNodes().checkBoth(t, filter.Or(), made(1, 2))
	ofRanges().checkBoth(t, filter.Ranges(filter.Not(filter.Between("b", "c"))), made(2, 0, 0, 1, "b", 1, "c", 1))
	ofRanges().checkBoth(t, filter.Ranges(filter.None()), made(0))
}

// P10.1 and P10.2: a list that has a range that isn't right, at each place, isn't put, and isn't read.
func TestWrongRange(t *testing.T) {
	good := list{to("", "\x00"), to("a", "b"), to("c", "d"), from("e")}
	for _, r := range sample.Wrong() {
		for i := range len(good) + 1 {
			ofRanges().checkList(t, slices.Insert(slices.Clone(good), i, r))
			ofRanges().checkUnput(t, slices.Insert(slices.Clone(good), i, r))
			if i < len(good) {
				l := slices.Clone(good)
				l[i] = r
				ofRanges().checkList(t, l)
				ofRanges().checkUnput(t, l)
			}
		}
		ofRanges().checkUnput(t, list{r})
	}
}

// P10.1 and P10.2: ranges that touch, have texts together, are the same or not in order, are no list that is put, nor one that is read.
func TestNotApart(t *testing.T) {
	for _, l := range []list{
		{to("a", "b"), to("b", "c")}, {to("a", "b"), from("b")}, {to("", "\x00"), to("\x00", "a")},
		{to("a", "c"), to("b", "d")}, {to("a", "d"), to("b", "c")}, {to("a", "b"), to("a", "b")}, {to("a", "b"), to("a", "c")}, {from("a"), from("a")},
		{to("c", "d"), to("a", "b")}, {to("\x80", "\xff"), to("a", "\x7f")}, {from("c"), to("a", "b")}, {from("a"), to("b", "c")}, {from(""), from("")},
		{to("a", "b"), to("c", "d"), to("d", "e")}, {to("a", "b"), to("b", "c"), to("d", "e")}, {to("a", "b"), from("c"), to("d", "e")},
	} {
		ofRanges().checkUnput(t, l)
		b := ofRanges().all(l)
		ofRanges().checkError(t, b, api.ErrForm)
		for n := range len(b) {
			ofRanges().checkError(t, b[:n], api.ErrShort)
		}
		for x := range 256 {
			ofRanges().checkError(t, append(slices.Clone(b), byte(x)), api.ErrLong)
		}
	}
}

// P10.1 and P10.2: a filter that has a node that isn't right, at each place, isn't put, nor are its bytes read as such a one.
func TestWrongNode(t *testing.T) {
	for _, n := range sample.WrongNodes() {
		for _, l := range []nodes{{n}, {n, turned}, {n, each(1)}, {all, n}, {all, n, some(2)}, {n, all, each(2)}, {all, none, n}, {all, all, n, each(3)}, {n, n}, {n, n, some(2)}} {
			ofNodes().checkUnput(t, l)
			ofNodes().checkBytes(t, ofNodes().all(l))
			ofNodes().checkBytes(t, append(ofNodes().all(l), 0))
		}
	}
}

// P10.1 and P10.2: nodes that find too few kids, or of which more than one is left, or none, are no filter that is put, nor one that is read.
func TestWrongTree(t *testing.T) {
	for _, l := range []nodes{
		nil, {}, {turned}, {each(1)}, {some(1)}, {each(2)}, {some(32)}, {turned, all}, {each(1), all}, {all, each(2)}, {all, some(2), all}, {all, all, each(3)},
		{all, all}, {all, none}, {all, all, turned}, {all, all, all, some(2)}, {all, turned, each(2)}, {all, all, some(2), each(2)},
		// What is no node is read, but makes none.
		{each(0)}, {some(0)}, {all, each(0)}, {all, each(0), each(2)}, {all, some(0), turned}, {begins(long("k", 17))}, {all, begins(long("k", 17)), some(2)},
		{between("b", "a")}, {between("a", "a")}, {between("", "")}, {between(long("k", 17), long("k", 16))}, {between("b", "a"), turned},
	} {
		ofNodes().checkUnput(t, l)
		b := ofNodes().all(l)
		ofNodes().checkError(t, b, api.ErrForm)
		for n := range len(b) {
			ofNodes().checkError(t, b[:n], api.ErrShort)
		}
		for x := range 256 {
			ofNodes().checkError(t, append(slices.Clone(b), byte(x)), api.ErrLong)
		}
	}
}

// P10.2: what is told of ranges that can't be read, and of several things the first.
func TestReadRangesWrong(t *testing.T) {
	k17, k18 := long("k", 17), long("k", 18)
	for _, c := range []struct {
		b []byte
		e api.Errno
	}{
		{nil, api.ErrShort}, {[]byte{}, api.ErrShort},
		// How many: half a number, one of too many bytes, one that is too large, with and without what follows.
		{made(129), api.ErrShort}, {made(128, 128, 128, 128, 128, 128, 128), api.ErrShort}, {made(128, 0), api.ErrForm}, {made(129, 0, 0, 1), api.ErrForm}, {made(129, 128, 0, 0, 1), api.ErrForm},
		{bytes.Repeat([]byte{128}, 8), api.ErrForm}, {bytes.Repeat([]byte{255}, 9), api.ErrForm}, {made(129, 32), api.ErrForm}, {made(129, 32, 0, 1), api.ErrForm}, {made(128, 64), api.ErrForm},
		{made(128, 128, 128, 128, 128, 128, 64), api.ErrForm}, {made(129, 128, 128, 128, 128, 128, 64), api.ErrForm}, {made(128, 128, 128, 128, 128, 128, 128, 0), api.ErrForm},
		// Told of more than there are.
		{made(1), api.ErrShort}, {made(2, 0, 1), api.ErrShort}, {made(2, 1, "a", 0, 1, "b"), api.ErrShort}, {made(127), api.ErrShort}, {made(128, 32), api.ErrShort}, {made(255, 31, 0, 1), api.ErrShort},
		// Of fewer.
		{made(0, 0), api.ErrLong}, {made(0, 0, 1), api.ErrLong}, {made(1, 0, 1, 1, "a", 1), api.ErrLong}, {made(0, 128), api.ErrLong}, {made(0, 255), api.ErrLong},
		// Lo: too long, of too many bytes, cut off.
		{made(1, 18, k18, 1), api.ErrForm}, {made(1, 18), api.ErrForm}, {made(1, 18, k18, 1, 1), api.ErrForm}, {made(1, 127), api.ErrForm}, {made(1, 128, 1), api.ErrForm}, {made(1, 128, 0, 1), api.ErrForm}, {made(1, 129, 0, "a", 1), api.ErrForm},
		{made(1, 17, long("k", 16)), api.ErrShort}, {made(1, 1), api.ErrShort}, {made(1, 128), api.ErrShort}, {made(1, 146), api.ErrShort}, {append(made(1), bytes.Repeat([]byte{128}, 8)...), api.ErrForm},
		// Open: neither 0 nor 1, of too many bytes, cut off.
		{made(1, 0, 2), api.ErrForm}, {made(1, 0, 2, 1), api.ErrForm}, {made(1, 0, 127), api.ErrForm}, {made(1, 0, 129, 0), api.ErrForm}, {made(1, 0, 128, 0, 1, "a"), api.ErrForm}, {made(1, 0, 128, 1), api.ErrForm}, {made(1, 0, 255), api.ErrShort},
		{made(1, 1, "a"), api.ErrShort}, {made(1, 17, k17), api.ErrShort},
		// Hi: too long, of too many bytes, cut off, none; one, though it is Open.
		{made(1, 0, 0, 18, k18), api.ErrForm}, {made(1, 0, 0, 18), api.ErrForm}, {made(1, 0, 0, 18, k18, 0), api.ErrForm}, {made(1, 0, 0, 128, 0), api.ErrForm}, {made(1, 0, 0, 129, 0, "a"), api.ErrForm},
		{made(1, 0, 0, 17, long("k", 16)), api.ErrShort}, {made(1, 0, 0, 1), api.ErrShort}, {made(1, 0, 0), api.ErrShort}, {made(1, 0, 0, 128), api.ErrShort},
		{made(1, 0, 1, 0), api.ErrLong}, {made(1, 1, "a", 1, 1, "b"), api.ErrLong}, {made(1, 1, "a", 1, 0), api.ErrLong},
		// Read whole, and not right; with a byte behind it, that is told first.
		{made(1, 0, 0, 0), api.ErrForm}, {made(1, 0, 0, 0, 0), api.ErrLong}, {made(1, 1, "a", 0, 1, "a"), api.ErrForm}, {made(1, 1, "b", 0, 1, "a"), api.ErrForm}, {made(1, 1, "b", 0, 1, "a", 7), api.ErrLong},
		{made(2, 0, 1, 0, 1), api.ErrForm}, {made(2, 1, "a", 0, 1, "b", 1, "b", 1), api.ErrForm}, {made(2, 1, "a", 0, 1, "b", 1, "b", 1, 0), api.ErrLong}, {made(1, 17, k17, 0, 17, k17), api.ErrForm}, {made(1, 17, k17, 0, 17, k17, 1), api.ErrLong},
		// The first of several: what is cut off ahead of what can't be right, and what can't be read ahead of both.
		{made(2, 1, "b", 0, 1, "a"), api.ErrShort}, {made(2, 1, "b", 0, 1, "a", 0), api.ErrShort}, {made(2, 1, "b", 0, 1, "a", 0, 2), api.ErrForm}, {made(2, 0, 2, 18), api.ErrForm}, {made(2, 5, "a"), api.ErrShort},
		{made(3, 0, 1, 0, 1, 18, 1, 1), api.ErrForm}, {made(3, 1, "a", 0, 9, "b"), api.ErrShort}, {made(3, 1, "a", 3, 9, "b"), api.ErrForm},
	} {
		ofRanges().checkError(t, c.b, c.e)
		ofRanges().checkBytes(t, c.b)
	}
}

// P10.2: what is told of nodes that can't be read, and of several things the first.
func TestReadFilterWrong(t *testing.T) {
	k17, k18 := long("k", 17), long("k", 18)
	for _, c := range []struct {
		b []byte
		e api.Errno
	}{
		{nil, api.ErrShort}, {[]byte{}, api.ErrShort},
		// How many: none, half a number, one of too many bytes, one that is too large, with and without what follows.
		{made(0), api.ErrForm}, {made(0, 0), api.ErrLong}, {made(0, 1), api.ErrLong}, {made(0, 128), api.ErrLong}, {made(129), api.ErrShort}, {made(128, 0), api.ErrForm}, {made(129, 0, 1), api.ErrForm}, {made(33), api.ErrForm}, {made(33, 1, 1), api.ErrForm},
		{made(127), api.ErrForm}, {made(160, 0), api.ErrForm}, {made(129, 2), api.ErrForm}, {bytes.Repeat([]byte{128}, 7), api.ErrShort}, {bytes.Repeat([]byte{128}, 8), api.ErrForm}, {made(128, 128, 128, 128, 128, 128, 64), api.ErrForm},
		// Told of more than there are, of fewer.
		{made(1), api.ErrShort}, {made(32), api.ErrShort}, {made(2, 1), api.ErrShort}, {made(32, 1, 6, 6), api.ErrShort}, {made(1, 1, 6), api.ErrLong}, {made(1, 1, 0), api.ErrLong}, {made(1, 1, 128), api.ErrLong},
		// Op: not from 1 to 8, of too many bytes, cut off.
		{made(1, 0), api.ErrForm}, {made(1, 0, 0), api.ErrForm}, {made(1, 9), api.ErrForm}, {made(1, 9, 9), api.ErrForm}, {made(1, 10), api.ErrForm}, {made(1, 127), api.ErrForm}, {made(1, 129, 0), api.ErrForm}, {made(1, 129, 2), api.ErrForm}, {made(1, 129), api.ErrShort}, {made(2, 1, 9), api.ErrForm}, {made(2, 1, 0), api.ErrForm},
		{made(2, 0), api.ErrForm}, {made(2, 9), api.ErrForm}, {append(made(1), bytes.Repeat([]byte{129}, 8)...), api.ErrForm},
		// Lo of those that begin with it: too long, of too many bytes, cut off; one of MaxEdge bytes is read, though it isn't right.
		{made(1, 3), api.ErrShort}, {made(1, 3, 2, "a"), api.ErrShort}, {made(1, 3, 18), api.ErrForm}, {made(1, 3, 18, k18), api.ErrForm}, {made(1, 3, 18, k18, 0), api.ErrForm}, {made(1, 3, 129, 0, "a"), api.ErrForm}, {made(1, 3, 128), api.ErrShort},
		{made(1, 3, 17, k17), api.ErrForm}, {made(1, 3, 17, k17, 0), api.ErrLong}, {made(1, 3, 17, long("k", 16)), api.ErrShort}, {made(2, 3, 17, k17), api.ErrShort}, {made(1, 3, 1, "a", 0), api.ErrLong}, {made(1, 3, 1, "a", 1, "b"), api.ErrLong},
		// Lo and Hi of a range.
		{made(1, 4), api.ErrShort}, {made(1, 4, 1), api.ErrShort}, {made(1, 4, 1, "a"), api.ErrShort}, {made(1, 4, 1, "a", 1), api.ErrShort}, {made(1, 4, 18), api.ErrForm}, {made(1, 4, 18, k18, 1, "l"), api.ErrForm}, {made(1, 4, 0, 18), api.ErrForm}, {made(1, 4, 0, 18, k18), api.ErrForm},
		{made(1, 4, 0, 18, k18, 0), api.ErrForm}, {made(1, 4, 128, 0, 1, "a"), api.ErrForm}, {made(1, 4, 0, 129, 0, "a"), api.ErrForm}, {made(1, 4, 0, 128, 0), api.ErrForm}, {made(1, 4, 17, long("k", 16)), api.ErrShort}, {made(1, 4, 0, 17, long("k", 16)), api.ErrShort},
		{made(1, 4, 0, 0), api.ErrForm}, {made(1, 4, 0, 0, 0), api.ErrLong}, {made(1, 4, 1, "a", 1, "a"), api.ErrForm}, {made(1, 4, 1, "b", 1, "a"), api.ErrForm}, {made(1, 4, 1, "b", 1, "a", 1), api.ErrLong}, {made(1, 4, 1, "a", 0, 1, "b"), api.ErrLong},
		// Lo of those from it on.
		{made(1, 5), api.ErrShort}, {made(1, 5, 2, "a"), api.ErrShort}, {made(1, 5, 18), api.ErrForm}, {made(1, 5, 18, k18), api.ErrForm}, {made(1, 5, 129, 0, "a"), api.ErrForm}, {made(1, 5, 17, k17, 0), api.ErrLong}, {made(1, 5, 1, "a", 1), api.ErrLong}, {made(1, 5, 1, "a", 1, "b"), api.ErrLong},
		// A Not's kid isn't put.
		{made(1, 6), api.ErrForm}, {made(2, 1, 6, 1), api.ErrLong}, {made(2, 1, 6, 0), api.ErrLong}, {made(1, 6, 1), api.ErrLong}, {made(3, 1, 6, 1), api.ErrForm},
		// Kids: none, up to MaxNodes, more, of too many bytes, cut off.
		{made(1, 7), api.ErrShort}, {made(1, 8), api.ErrShort}, {made(2, 1, 7), api.ErrShort}, {made(2, 1, 8), api.ErrShort}, {made(1, 7, 0), api.ErrForm}, {made(1, 8, 0), api.ErrForm}, {made(1, 7, 0, 0), api.ErrLong}, {made(1, 8, 0, 0), api.ErrLong}, {made(1, 7, 1), api.ErrForm}, {made(1, 8, 1), api.ErrForm},
		{made(1, 7, 32), api.ErrForm}, {made(1, 8, 32), api.ErrForm}, {made(1, 7, 32, 0), api.ErrLong}, {made(1, 8, 32, 0), api.ErrLong}, {made(2, 7, 32), api.ErrShort}, {made(2, 8, 32), api.ErrShort}, {made(1, 7, 33), api.ErrForm}, {made(1, 8, 33), api.ErrForm},
		{made(1, 7, 33, 0), api.ErrForm}, {made(1, 8, 33, 0), api.ErrForm}, {made(2, 7, 33), api.ErrForm}, {made(2, 8, 33), api.ErrForm}, {made(2, 1, 7, 127), api.ErrForm}, {made(2, 1, 8, 129, 0), api.ErrForm}, {made(2, 1, 7, 129, 0), api.ErrForm}, {made(2, 1, 8, 129, 2), api.ErrForm}, {made(2, 1, 7, 129), api.ErrShort}, {made(2, 1, 8, 129), api.ErrShort},
		// Neither all nor none has anything behind its Op.
		{made(1, 2, 0), api.ErrLong}, {made(1, 1, 1, "a"), api.ErrLong}, {made(2, 1, 0), api.ErrForm},
		// The first of several.
		{made(2, 6), api.ErrShort}, {made(2, 6, 9), api.ErrForm}, {made(3, 3, 18, 9), api.ErrForm}, {made(3, 3, 9, "a"), api.ErrShort}, {made(3, 9, 3, 9, "a"), api.ErrForm}, {made(2, 4, 1, "b", 1, "a"), api.ErrShort}, {made(2, 4, 1, "b", 1, "a", 0), api.ErrForm}, {made(2, 7, 0, 8), api.ErrShort}, {made(2, 7, 0, 8, 33, 1), api.ErrForm},
	} {
		ofNodes().checkError(t, c.b, c.e)
		ofNodes().checkBytes(t, c.b)
	}
}

// many is a right list of so many ranges, the last one Open or not.
func many(n int, open bool) list {
	var l list
	edge := func(i int) string { return string([]byte{byte(i >> 8), byte(i)}) }
	for i := range n {
		l = append(l, to(edge(2*i), edge(2*i+1)))
	}
	if open {
		l[n-1] = from(l[n-1].Lo)
	}
	return l
}

// P10.1 and P10.2: MaxPieces ranges, and one more.
func TestMaxPieces(t *testing.T) {
	for _, n := range []int{127, 128, 129, 4095, 4096} {
		for _, open := range []bool{false, true} {
			l := many(n, open)
			b := ofRanges().all(l)
			ofRanges().checkPut(t, l, b)
			ofRanges().checkRead(t, b, l)
			for _, cut := range []int{1, 2, 3, 9, 1000} {
				ofRanges().checkError(t, b[:len(b)-min(cut, len(b))], api.ErrShort)
			}
			ofRanges().checkError(t, append(b, 0), api.ErrLong)
			l[n-1].Lo = l[n-2].Lo
			ofRanges().checkList(t, l)
			ofRanges().checkUnput(t, l)
		}
	}
	if b, _ := fcode.Ranges(many(4096, true)); !bytes.HasPrefix(b, []byte{128, 32, 2, 0, 0, 0, 2, 0, 1}) {
		t.Errorf("4096 ranges begin with %v", b[:9])
	}
	for _, n := range []int{4097, 4098, 8192, 16384} {
		l := many(n, n%2 == 0)
		b := ofRanges().all(l)
		ofRanges().checkUnput(t, l)
		ofRanges().checkError(t, b, api.ErrForm)
		ofRanges().checkError(t, number(n), api.ErrForm)
		ofRanges().checkError(t, b[:len(b)-1], api.ErrForm)
		ofRanges().checkError(t, append(b, 0), api.ErrForm)
	}
	ofRanges().checkUnput(t, make(list, 4097))
	ofRanges().checkUnput(t, make(list, 1<<20))
}

// times is a list of a node, n times, and other ones behind it.
func times(n int, one api.Node, rest ...api.Node) nodes {
	return append(slices.Repeat(nodes{one}, n), rest...)
}

// P10.1 and P10.2: MaxNodes nodes, and one more; MaxNodes kids can be told, but no filter has them.
func TestMaxNodes(t *testing.T) {
	for _, l := range []nodes{
		append(nodes{begins("a")}, times(31, turned)...), append(nodes{all}, times(31, each(1))...), append(nodes{none}, times(31, some(1))...),
		times(31, behind(long("k", 17)), each(31)), times(31, between(long("k", 17), long("l", 17)), some(31)), times(30, begins("b"), each(30), turned), times(16, all, times(14, some(2), each(2), turned)...),
	} {
		ofNodes().checkBoth(t, l, ofNodes().all(l))
		for _, n := range []api.Node{turned, each(1), some(1)} {
			more := append(slices.Clone(l), n)
			b := ofNodes().all(more)
			ofNodes().checkUnput(t, more)
			ofNodes().checkError(t, b, api.ErrForm)
			ofNodes().checkError(t, b[:1], api.ErrForm)
			ofNodes().checkError(t, append(b, 0), api.ErrForm)
		}
	}
	for _, kids := range []int{32, 33, 127, 128, 255, 256, 1 << 20, 1 << 47, api.MaxNumber} {
		for _, n := range []api.Node{each(kids), some(kids)} {
			for _, ahead := range []int{0, 1, 31, 32} {
				ofNodes().checkList(t, times(ahead, all, n))
				ofNodes().checkUnput(t, times(ahead, all, n))
			}
		}
	}
	ofNodes().checkUnput(t, times(32, all))
	ofNodes().checkUnput(t, times(32, all, each(32)))
	ofNodes().checkUnput(t, times(1<<20, all))
	ofNodes().checkUnput(t, times(1<<20, all, some(1<<20)))
	ofNodes().checkUnput(t, append(nodes{all}, times(1<<20, turned)...))
}

// P10.1 to P10.3: all lists of up to two ranges by some edges, right or not, and of up to four of some, as the words say.
func TestListsOfRanges(t *testing.T) {
	edges := []string{"", "\x00", "a", "a\x00", "b", "\x80", long("k", 17), long("k", 18)}
	for _, l := range sample.Lists(sample.All(edges), 2) {
		ofRanges().checkList(t, l)
	}
	for _, l := range sample.Lists(list{to("", "a"), to("a", "b"), to("b", "c"), to("b\x00", "c"), from("d"), from("c"), {}}, 4) {
		ofRanges().checkList(t, l)
	}
}

// P10.1 to P10.3: all lists of up to four of some nodes, right or not, as the words say.
func TestListsOfNodes(t *testing.T) {
	some := nodes{all, none, begins("a"), begins(long("k", 17)), between("", "b"), between("b", "a"), behind("a\x00"), turned, each(0), each(1), each(2), some(1), some(3), some(32)}
	for _, l := range sample.Lists(some, 4) {
		ofNodes().checkList(t, l)
	}
}

// P10.2 and P10.3: all bytes of up to two, and more of some, as the words say.
func TestAllBytes(t *testing.T) {
	check := func(b []byte) {
		ofRanges().checkBytes(t, b)
		ofNodes().checkBytes(t, b)
	}
	var every []byte
	for x := range 256 {
		every = append(every, byte(x))
	}
	for _, b := range sample.Lists(every, 2) {
		check(b)
	}
	for _, b := range sample.Lists([]byte{0, 1, 2, 3, 4, 6, 7, 8, 128, 129}, 5) {
		check(b)
	}
	for _, b := range sample.Lists([]byte{0, 1, 2, 128}, 8) {
		ofRanges().checkBytes(t, b)
	}
	for _, b := range sample.Lists([]byte{1, 3, 4, 6, 7}, 6) {
		ofNodes().checkBytes(t, b)
	}
}

// spoilt are some bytes, changed in one place.
func spoilt(roll func(n int) int, b []byte) []byte {
	b = slices.Clone(b)
	if len(b) == 0 {
		return []byte{byte(roll(256))}
	}
	i := roll(len(b))
	switch roll(8) {
	case 0:
		b[i] = byte(roll(256))
	case 1:
		b[i] ^= 1 << roll(8)
	case 2:
		b[i]++
	case 3:
		b[i]--
	case 4:
		b = slices.Delete(b, i, i+1)
	case 5:
		b = slices.Insert(b, i, byte(roll(256)))
	case 6:
		// The number is told in a byte more than it takes.
		b[i] |= 128
		b = slices.Insert(b, i+1, 0)
	case 7:
		b = b[:i]
	}
	return b
}

// checkDrawn holds a right list that is drawn, and what comes of its bytes by one change and by two, against the words.
func (c code[T]) checkDrawn(t *testing.T, roll func(n int) int, l []T) {
	t.Helper()
	b := c.all(l)
	c.checkPut(t, l, b)
	c.checkRead(t, b, l)
	for range 20 {
		once := spoilt(roll, b)
		c.checkBytes(t, once)
		c.checkBytes(t, spoilt(roll, once))
	}
}

// P10.1 to P10.3: drawn lists of ranges, there and back, and changed bytes of them.
func TestDrawnRanges(t *testing.T) {
	edges := sample.Edges()
	in := make([]bool, len(edges))
	for seed := range 4000 {
		roll := sample.Draw(seed)
		odds := 1 + roll(4)
		for i := range in {
			in[i] = roll(5) < odds
		}
		l := sample.List(in, edges)
		ofRanges().checkDrawn(t, roll, l)
		if n := len(l); n > 0 {
			i, j := roll(n), roll(n)
			l[i], l[j] = l[j], l[i]
			ofRanges().checkList(t, l)
		}
	}
}

// P10.1 to P10.3: drawn filters, there and back, changed ones, and changed bytes of them.
func TestDrawnFilters(t *testing.T) {
	for seed := range 4000 {
		roll := sample.Draw(seed)
		l := sample.Grown(roll, 1+roll(32))
		ofNodes().checkDrawn(t, roll, l)
		for range 4 {
			l := sample.Spoilt(roll, l)
			if filter.Right(l) {
				ofNodes().checkList(t, l)
			} else {
				ofNodes().checkUnput(t, l)
			}
		}
	}
}

// checkUnlike is that no two of some lists are put as the same bytes.
func (c code[T]) checkUnlike(t *testing.T, lists [][]T) {
	t.Helper()
	seen := map[string][]T{}
	for _, l := range lists {
		b, e := c.put(l)
		if e != api.OK {
			continue
		}
		if other, ok := seen[string(b)]; ok {
			t.Errorf("%s and %s are both put as %v", told(other), told(l), b)
		}
		seen[string(b)] = l
	}
	if len(seen) < 16 {
		t.Errorf("just %d are put", len(seen))
	}
}

// P10.3: what is put as the same bytes is the same.
func TestUnlike(t *testing.T) {
	ofRanges().checkUnlike(t, sample.Lists(sample.All([]string{"", "\x00", "\x01", "\x01\x00"}), 2))
	ofNodes().checkUnlike(t, sample.Lists(nodes{all, none, begins(""), begins("\x01"), between("", "\x01"), between("\x01", "\x02"), behind(""), behind("\x01"), turned, each(1), each(2), some(1), some(2)}, 4))
}

// checkHandedIn is that what is handed in to both calls is as it was, also ahead of its beginning and behind its end.
func (c code[T]) checkHandedIn(t *testing.T, kept []T, wide []byte) {
	t.Helper()
	l := slices.Clone(kept)
	for n := range len(l) + 1 {
		for m := range n + 1 {
			c.put(l[m:n])
			if !slices.Equal(l, kept) {
				t.Fatalf("%s of those from %d to %d left %s of %s", c.name, m, n, told(l), told(kept))
			}
		}
	}
	b := slices.Clone(wide)
	for n := range len(b) + 1 {
		for m := range n + 1 {
			c.read(b[m:n])
			if !bytes.Equal(b, wide) {
				t.Fatalf("Read%s of the bytes from %d to %d left %v of %v", c.name, m, n, b, wide)
			}
		}
	}
}

// P10.1, P10.2 and rule 5: what is handed in is as it was afterwards, whatever is answered.
func TestHandedIn(t *testing.T) {
	l := list{to("a", "b"), to("c", long("k", 17)), from("m"), to("b", "a"), {}, to("n", long("n", 18)), from("x")}
	ofRanges().checkHandedIn(t, l, slices.Concat(ofRanges().all(l[:3]), []byte{0, 2, 0, 0, 1, 128, 0}, ofRanges().all(l[3:])))
	f := nodes{begins("a"), between("x", "y"), turned, each(2), {Op: 9, Kids: -1, Lo: "b", Hi: "a"}, behind("b"), some(1), {Op: 7, Kids: math.MaxInt}}
	ofNodes().checkHandedIn(t, f, slices.Concat(ofNodes().all(f[:4]), []byte{9, 128, 0}, ofNodes().all(f[5:])))
}

// checkNew is that what is answered is new: who writes into it, or into what was handed in, changes no answer.
func (c code[T]) checkNew(t *testing.T, l []T) {
	t.Helper()
	var other T
	kept, want := slices.Clone(l), c.all(l)
	b, _ := c.put(l)
	another, _ := c.put(l)
	for i := range b {
		b[i] ^= 255
	}
	_ = append(b, 1, 2, 3)
	if !slices.Equal(l, kept) || !bytes.Equal(another, want) {
		t.Fatalf("%s and %v, want %s and %v", told(l), another, told(kept), want)
	}
	c.checkPut(t, l, want)
	for i := range l {
		l[i] = other
	}
	if !bytes.Equal(another, want) {
		t.Fatalf("%s(%s) became %v", c.name, told(kept), another)
	}
	first, _ := c.read(another)
	second, _ := c.read(another)
	for i := range another {
		another[i] ^= 255
	}
	for i := range first {
		first[i] = other
	}
	if !slices.Equal(second, kept) {
		t.Fatalf("Read%s(%v) became %s, was %s", c.name, want, told(second), told(kept))
	}
	c.checkRead(t, want, kept)
}

// P10.1 and P10.2: answers share nothing with what was handed in, nor with one another.
func TestAnswersAreNew(t *testing.T) {
	ofRanges().checkNew(t, nil)
	ofRanges().checkNew(t, list{from("")})
	ofRanges().checkNew(t, list{to("a", "b"), to("c", long("k", 17)), from("m")})
	ofRanges().checkNew(t, many(300, true))
	ofNodes().checkNew(t, nodes{all})
	ofNodes().checkNew(t, nodes{begins("a"), between("x", "y"), turned, behind("b"), some(2), each(2)})
}
