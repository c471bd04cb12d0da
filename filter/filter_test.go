package filter_test

import (
	"fmt"
	"math"
	"slices"
	"strings"
	"testing"

	"winnower/api"
	"winnower/filter"
	"winnower/key"
	"winnower/ranges"
	"winnower/sample"
)

// nodes and list are short names of what the calls take and answer.
type (
	nodes = []api.Node
	list  = []api.Range
)

// What ranges, texts and nodes are made by here: the tests of several layers have it together.
var (
	to, from, long, wrong   = sample.To, sample.From, sample.Long, sample.Wrong
	begins, between, behind = sample.Begins, sample.Between, sample.Behind
	each, some              = sample.Each, sample.Some
	grown, spoilt           = sample.Grown, sample.Spoilt
)

// The nodes that need no more than their kind.
var all, none, turned = api.Node{Op: 1}, api.Node{Op: 2}, api.Node{Op: 6, Kids: 1}

// times is a list of a node, n times, and other ones behind it.
func times(n int, one api.Node, rest ...api.Node) nodes {
	return append(slices.Repeat(nodes{one}, n), rest...)
}

// tree is a filter, as the chapter's words have it: a node, and the filters that are its kids, the last one first.
type tree struct {
	api.Node
	kids []tree
}

// treeByWords is what the chapter says that a right filter is.
func treeByWords(l nodes) (tree, bool) {
	if len(l) < 1 || len(l) > 32 {
		return tree{}, false
	}
	f, rest, ok := lastByWords(l)
	return f, ok && len(rest) == 0
}

// lastByWords takes the filter that ends a list off: its node, and ahead of it, one by one, its kids.
func lastByWords(l nodes) (tree, nodes, bool) {
	if len(l) == 0 || !nodeByWords(l[len(l)-1]) {
		return tree{}, nil, false
	}
	f, rest := tree{Node: l[len(l)-1]}, l[:len(l)-1]
	for range f.Kids {
		kid, ahead, ok := lastByWords(rest)
		if !ok {
			return tree{}, nil, false
		}
		f.kids, rest = append(f.kids, kid), ahead
	}
	return f, rest, true
}

// nodeByWords is the chapter's table: what of a node is named, and what is 0 or empty.
func nodeByWords(n api.Node) bool {
	bare := n.Lo == "" && n.Hi == ""
	switch n.Op {
	case 1, 2:
		return n.Kids == 0 && bare
	case 3:
		return n.Kids == 0 && len(n.Lo) <= 16 && n.Hi == ""
	case 4:
		return n.Kids == 0 && len(n.Lo) <= 17 && len(n.Hi) <= 17 && n.Lo < n.Hi
	case 5:
		return n.Kids == 0 && len(n.Lo) <= 17 && n.Hi == ""
	case 6:
		return n.Kids == 1 && bare
	case 7, 8:
		return 1 <= n.Kids && n.Kids <= 32 && bare
	}
	return false
}

// has is what the chapter says that a right filter has.
func (f tree) has(s string) bool {
	in := func(kid tree) bool { return kid.has(s) }
	out := func(kid tree) bool { return !kid.has(s) }
	switch f.Op {
	case 1:
		return true
	case 3:
		return strings.HasPrefix(s, f.Lo)
	case 4:
		return f.Lo <= s && s < f.Hi
	case 5:
		return f.Lo <= s
	case 6:
		return !f.kids[0].has(s)
	case 7:
		return !slices.ContainsFunc(f.kids, out)
	case 8:
		return slices.ContainsFunc(f.kids, in)
	}
	return false
}

// edgesOf are the texts at which what a filter has may begin and end, in order, the empty text first.
func edgesOf(l nodes) []string {
	texts := []string{""}
	for _, n := range l {
		texts = append(texts, n.Lo, n.Hi)
		if end, ok := key.End(n.Lo); ok {
			texts = append(texts, end)
		}
	}
	slices.Sort(texts)
	return slices.Compact(texts)
}

// told is a filter as a text; of one that has very many nodes how many.
func told(l nodes) string {
	if len(l) > 100 {
		return fmt.Sprintf("%d nodes", len(l))
	}
	return fmt.Sprintf("%#v", l)
}

// checkWords holds all that is asked of a filter against the chapter's words.
func checkWords(t *testing.T, l nodes) {
	t.Helper()
	f, right := treeByWords(l)
	if !right {
		checkWrong(t, l)
		return
	}
	texts := edgesOf(l)
	in := make([]bool, len(texts))
	for i, s := range texts {
		in[i] = f.has(s)
	}
	checkRight(t, l, sample.List(in, texts))
	for _, s := range sample.Near(texts) {
		if got, want := filter.Match(l, s), f.has(s); got != want {
			t.Fatalf("Match(%s, %q) = %t, want %t", told(l), s, got, want)
		}
	}
}

// checkRight is that a filter is right, and has the texts of a list, range by range.
func checkRight(t *testing.T, l nodes, want list) {
	t.Helper()
	if !filter.Right(l) {
		t.Fatalf("Right(%s) = false, want true", told(l))
	}
	got := filter.Ranges(l)
	if !slices.Equal(got, want) || !ranges.Right(got) {
		t.Fatalf("Ranges(%s) = %#v, want %#v", told(l), got, want)
	}
	for _, s := range sample.Near(edgesOf(l)) {
		if got, want := filter.Match(l, s), ranges.Has(want, s); got != want {
			t.Fatalf("Match(%s, %q) = %t, want %t", told(l), s, got, want)
		}
	}
}

// checkWrong is that a filter isn't right, and has nothing.
func checkWrong(t *testing.T, l nodes) {
	t.Helper()
	if filter.Right(l) {
		t.Fatalf("Right(%s) = true, want false", told(l))
	}
	if got := filter.Ranges(l); len(got) != 0 {
		t.Fatalf("Ranges(%s) = %#v, want none", told(l), got)
	}
	for _, s := range []string{"", "\x00", "a", "ab", "b", "k", "x", "\xff", long("k", 17)} {
		if filter.Match(l, s) {
			t.Fatalf("Match(%s, %q) = true, want false", told(l), s)
		}
	}
}

// checkNodes holds what a call built against what is wanted, node by node.
func checkNodes(t *testing.T, call string, got, want nodes) {
	t.Helper()
	if !slices.Equal(got, want) {
		t.Fatalf("%s = %s, want %s", call, told(got), told(want))
	}
}

// P9.1 and P9.2: the chapter's example.
func TestExample(t *testing.T) {
	l := filter.And(filter.Prefix("a"), filter.Not(filter.Prefix("ab")))
	checkNodes(t, "the example", l, nodes{begins("a"), begins("ab"), turned, each(2)})
	checkRight(t, l, list{to("a", "ab"), to("ac", "b")})
	for s, want := range map[string]bool{"": false, "a": true, "a\xff": true, "aazz": true, "ab": false, "ab\x00": false, "abz": false, "ab\xff\xff": false, "ac": true, "b": false} {
		if got := filter.Match(l, s); got != want {
			t.Errorf("Match(%s, %q) = %t, want %t", told(l), s, got, want)
		}
	}
}

// P9.1: no node at all.
func TestNoNode(t *testing.T) {
	checkWrong(t, nil)
	checkWrong(t, nodes{})
	checkWrong(t, times(4, all)[:0])
}

// P9.1: filters of one node, and what they have.
func TestOneNode(t *testing.T) {
	for _, c := range []struct {
		n    api.Node
		want list
	}{
		{all, list{from("")}}, {none, nil},
		{begins("a"), list{to("a", "b")}}, {begins("ab"), list{to("ab", "ac")}}, {begins(""), list{from("")}}, {begins("\x00"), list{to("\x00", "\x01")}},
		{begins("\xff"), list{from("\xff")}}, {begins("\xff\xff"), list{from("\xff\xff")}}, {begins("a\xff"), list{to("a\xff", "b")}}, {begins("\x7f"), list{to("\x7f", "\x80")}},
		// A Prefix of just MaxKey bytes.
		{begins(long("k", 16)), list{to(long("k", 16), long("k", 15)+"l")}}, {begins(long("\xff", 16)), list{from(long("\xff", 16))}}, {begins(long("\x00", 16)), list{to(long("\x00", 16), long("\x00", 15)+"\x01")}},
		{begins("a" + long("\xff", 15)), list{to("a"+long("\xff", 15), "b")}},
		{between("a", "b"), list{to("a", "b")}}, {between("", "a"), list{to("", "a")}}, {between("", "\x00"), list{to("", "\x00")}}, {between("a", "a\x00"), list{to("a", "a\x00")}},
		{between("\x7f", "\x80"), list{to("\x7f", "\x80")}}, {between("Z", "a"), list{to("Z", "a")}}, {between("10", "9"), list{to("10", "9")}},
		// Edges of just MaxEdge bytes.
		{between(long("k", 17), "l"), list{to(long("k", 17), "l")}}, {between("", long("k", 17)), list{to("", long("k", 17))}}, {between(long("k", 16), long("k", 17)), list{to(long("k", 16), long("k", 17))}},
		{between(long("k", 17), long("l", 17)), list{to(long("k", 17), long("l", 17))}}, {between("a", long("\xff", 17)), list{to("a", long("\xff", 17))}},
		{behind(""), list{from("")}}, {behind("a"), list{from("a")}}, {behind("\x00"), list{from("\x00")}}, {behind("\xff"), list{from("\xff")}},
		{behind(long("k", 17)), list{from(long("k", 17))}}, {behind(long("\xff", 17)), list{from(long("\xff", 17))}},
	} {
		checkRight(t, nodes{c.n}, c.want)
		checkWords(t, nodes{c.n})
	}
}

// P9.1: a filter isn't right, if one of its nodes is none of the table, however many filters stand ahead of it and behind it.
func TestWrongNode(t *testing.T) {
	for _, n := range sample.WrongNodes() {
		if nodeByWords(n) {
			t.Fatalf("%#v is right", n)
		}
		for ahead := range 4 {
			checkWrong(t, times(ahead, all, n))
			checkWrong(t, times(ahead, all, n, turned))
			for kids := 1; kids <= ahead+1; kids++ {
				checkWrong(t, times(ahead, all, n, some(kids)))
				checkWrong(t, times(ahead, begins("b"), n, begins("a"), each(kids)))
			}
		}
		checkWrong(t, nodes{n, n})
		checkWrong(t, nodes{n, all, some(2)})
		checkWrong(t, nodes{n, turned, turned})
		checkWrong(t, nodes{all, n, none, begins("a"), some(3)})
		checkWrong(t, times(30, all, n))
		checkWrong(t, times(31, all, n))
		checkWrong(t, times(30, all, n, some(31)))
	}
}

// P9.1: a node takes just as many filters as its Kids say: with one too few ahead, or one left, it isn't right.
func TestKids(t *testing.T) {
	for ahead := range 36 {
		for kids := range 36 {
			fits := kids == ahead && kids >= 1 && ahead+1 <= 32
			for _, c := range []struct {
				n    api.Node
				fits bool
				want list
			}{
				{api.Node{Op: 6, Kids: kids}, fits && kids == 1, list{to("", "a"), from("b")}},
				{each(kids), fits, list{to("a", "b")}}, {some(kids), fits, list{to("a", "b")}},
			} {
				if l := times(ahead, begins("a"), c.n); c.fits {
					checkRight(t, l, c.want)
				} else {
					checkWrong(t, l)
				}
			}
		}
	}
}

// P9.1: no node finds what stands behind it, nor what is a node's kid already, and one filter is left.
func TestFound(t *testing.T) {
	for _, l := range []nodes{
		{turned}, {each(1)}, {some(1)}, {each(2)}, {some(32)}, {turned, turned},
		// As many in all, but not ahead.
		{turned, all}, {each(1), all}, {some(1), all}, {all, each(2), all}, {all, some(2), all}, {some(2), all, all}, {all, all, each(3), all}, {turned, all, all, some(2)},
		{all, each(2), all, turned}, {all, turned, some(2), all},
		// They are a node's kids already.
		{all, turned, each(2)}, {all, all, some(2), each(2)}, {all, all, all, some(3), some(3)}, {all, all, some(2), some(1), each(2)},
		// More than one is left.
		{all, all}, {all, none}, {all, all, all}, {all, all, turned}, {all, all, each(1)}, {all, all, some(1)}, {all, all, all, some(2)}, {all, turned, all}, {all, all, some(2), all},
		{all, turned, all, turned}, {all, all, some(2), all, all, some(2)}, {none, begins("a"), begins("b"), turned, each(2)},
	} {
		checkWrong(t, l)
		checkWords(t, l)
	}
	for _, c := range []struct {
		l    nodes
		want list
	}{
		{nodes{all, turned}, nil}, {nodes{none, turned}, list{from("")}}, {nodes{all, turned, turned}, list{from("")}}, {nodes{begins("a"), turned}, list{to("", "a"), from("b")}},
		{nodes{all, each(1)}, list{from("")}}, {nodes{none, each(1)}, nil}, {nodes{all, some(1)}, list{from("")}}, {nodes{none, some(1)}, nil},
		{nodes{begins("a"), each(1), some(1), turned}, list{to("", "a"), from("b")}},
		{nodes{all, none, each(2)}, nil}, {nodes{none, all, each(2)}, nil}, {nodes{all, none, some(2)}, list{from("")}}, {nodes{none, all, some(2)}, list{from("")}},
		{nodes{none, none, some(2)}, nil}, {nodes{all, all, each(2)}, list{from("")}},
		{nodes{begins("a"), begins("b"), some(2)}, list{to("a", "c")}}, {nodes{begins("b"), begins("a"), some(2)}, list{to("a", "c")}}, {nodes{begins("a"), begins("b"), each(2)}, nil},
		{nodes{begins("a"), begins("ab"), some(2)}, list{to("a", "b")}}, {nodes{begins("a"), begins("ab"), each(2)}, list{to("ab", "ac")}},
		// Just one text between.
		{nodes{between("a", "b"), between("b\x00", "c"), some(2)}, list{to("a", "b"), to("b\x00", "c")}}, {nodes{between("a", "b\x00"), between("b", "c"), each(2)}, list{to("b", "b\x00")}},
		{nodes{between("", "b"), behind("b"), some(2)}, list{from("")}}, {nodes{between("", "b"), behind("b"), each(2)}, nil}, {nodes{between("", "b"), behind("b\x00"), some(2)}, list{to("", "b"), from("b\x00")}},
		// Each kid counts: the first one, one between, the last one.
		{nodes{begins("a"), all, all, each(3)}, list{to("a", "b")}}, {nodes{all, begins("a"), all, each(3)}, list{to("a", "b")}}, {nodes{all, all, begins("a"), each(3)}, list{to("a", "b")}},
		{nodes{begins("a"), none, none, some(3)}, list{to("a", "b")}}, {nodes{none, begins("a"), none, some(3)}, list{to("a", "b")}}, {nodes{none, none, begins("a"), some(3)}, list{to("a", "b")}},
		{nodes{behind("b"), between("", "e"), begins("c"), turned, each(3)}, list{to("b", "c"), to("d", "e")}},
		// The last ones are taken, and the others stay.
		{nodes{begins("a"), begins("b"), turned, each(2)}, list{to("a", "b")}}, {nodes{begins("a"), turned, begins("b"), each(2)}, list{to("b", "c")}},
		{nodes{none, all, begins("a"), some(2), each(2)}, nil}, {nodes{none, all, some(2), begins("a"), each(2)}, list{to("a", "b")}},
		{nodes{all, none, begins("a"), each(2), some(2)}, list{from("")}}, {nodes{all, none, each(2), begins("a"), some(2)}, list{to("a", "b")}},
		{nodes{begins("x"), begins("a"), begins("b"), begins("c"), some(3), turned, each(2)}, list{to("x", "y")}},
		{nodes{begins("a"), behind("b"), between("c", "f"), begins("d"), turned, each(3), some(2)}, list{to("a", "b"), to("c", "d"), to("e", "f")}},
	} {
		checkRight(t, c.l, c.want)
		checkWords(t, c.l)
	}
}

// P9.1: MaxNodes nodes, and one more.
func TestMaxNodes(t *testing.T) {
	a := begins("a")
	for _, c := range []struct {
		l    nodes
		want list
	}{
		{append(nodes{a}, times(31, turned)...), list{to("", "a"), from("b")}}, {append(nodes{a}, times(31, each(1))...), list{to("a", "b")}}, {append(nodes{a}, times(31, some(1))...), list{to("a", "b")}},
		{times(31, a, each(31)), list{to("a", "b")}}, {times(31, a, some(31)), list{to("a", "b")}}, {times(30, a, each(30), turned), list{to("", "a"), from("b")}},
		{times(16, a, times(14, some(2), each(2), turned)...), list{to("", "a"), from("b")}},
	} {
		if len(c.l) != api.MaxNodes {
			t.Fatalf("%d nodes", len(c.l))
		}
		checkRight(t, c.l, c.want)
		checkWrong(t, append(slices.Clone(c.l), turned))
		checkWrong(t, append(slices.Clone(c.l), each(1)))
		checkWrong(t, append(slices.Clone(c.l), all))
		checkWrong(t, append(nodes{all}, c.l...))
		checkWords(t, c.l[:31])
	}
	checkWrong(t, times(32, a, each(32)))
	checkWrong(t, times(32, a, some(32)))
	checkWrong(t, times(31, a, some(32)))
	checkWrong(t, times(32, a))
	checkWrong(t, times(33, a))
	checkWrong(t, append(nodes{a}, times(1<<20, turned)...))
	checkWrong(t, times(1<<20, a))
	checkWrong(t, times(1<<20, a, some(1<<20)))
}

// P9.1 and P9.3: any one node, right or not, behind any number of filters, as the words say.
func TestNodesByWords(t *testing.T) {
	texts := []string{"", "\x00", "a", "b", long("a", 16), long("a", 17), long("a", 18)}
	for _, op := range []int{math.MinInt, -1, 0, 1, 2, 3, 4, 5, 6, 7, 8, 9, 10, 1<<32 + 1, math.MaxInt} {
		for _, kids := range []int{math.MinInt, -1, 0, 1, 2, 3, 31, 32, 33, 1<<32 + 1, math.MaxInt} {
			for _, lo := range texts {
				for _, hi := range texts {
					n := api.Node{Op: op, Kids: kids, Lo: lo, Hi: hi}
					for _, ahead := range []int{0, 1, 2, 31, 32} {
						checkWords(t, times(ahead, behind("aa"), n))
					}
				}
			}
		}
	}
}

// P9.1 and P9.3: all lists of some nodes, as the words say.
func TestListsByWords(t *testing.T) {
	for _, l := range sample.Lists(nodes{all, none, begins("a"), between("", "b"), behind("a\x00"), turned, each(1), each(2), each(3), some(1), some(2), some(3), {}, {Op: 1, Kids: 1}}, 4) {
		checkWords(t, l)
	}
	for _, l := range sample.Lists(nodes{begins("a"), behind("b"), turned, each(2), some(2)}, 6) {
		checkWords(t, l)
	}
}

// P9.1 and P9.3: drawn filters of any size, and what comes of them by a change, as the words say.
func TestDrawnByWords(t *testing.T) {
	for seed := range 4000 {
		roll := sample.Draw(seed)
		l := grown(roll, 1+roll(32))
		if _, right := treeByWords(l); !right {
			t.Fatalf("%s isn't right", told(l))
		}
		checkWords(t, l)
		for range 4 {
			checkWords(t, spoilt(roll, l))
		}
		checkWords(t, spoilt(roll, append(spoilt(roll, l), each(2))))
	}
}

// P9.3: a right filter has a text, just if its list has, of all texts of up to four bytes that matter, and of long ones.
func TestHasAsItsList(t *testing.T) {
	probes := []string{long("a", 1<<20), "a" + long("\xff", 1<<10), long("k", 18), long("\xff", 40), "é", "\uFFFD"}
	for _, b := range sample.Lists([]byte{0, 'a', 'b', 127, 128, 255}, 4) {
		probes = append(probes, string(b))
	}
	for seed := range 300 {
		roll := sample.Draw(seed)
		l := grown(roll, 1+roll(32))
		has := filter.Ranges(l)
		for _, s := range probes {
			if got, want := filter.Match(l, s), ranges.Has(has, s); got != want {
				t.Fatalf("Match(%s, %q) = %t, its list %#v has it: %t", told(l), s, got, has, want)
			}
		}
	}
}

// P9.1 and P9.2: what Not, And and Or build has what ranges' calls make of their kids' lists.
func TestAsRanges(t *testing.T) {
	for seed := range 3000 {
		roll := sample.Draw(seed)
		a, b, c := grown(roll, 1+roll(10)), grown(roll, 1+roll(10)), grown(roll, 1+roll(10))
		inA, inB, inC := filter.Ranges(a), filter.Ranges(b), filter.Ranges(c)
		checkRight(t, filter.Not(a), ranges.Not(inA))
		checkRight(t, filter.Not(filter.Not(a)), inA)
		checkRight(t, filter.And(a), inA)
		checkRight(t, filter.Or(a), inA)
		checkRight(t, filter.And(a, b), ranges.Meet(inA, inB))
		checkRight(t, filter.Or(a, b), ranges.Union(inA, inB))
		checkRight(t, filter.And(a, b, c), ranges.Meet(ranges.Meet(inA, inB), inC))
		checkRight(t, filter.Or(a, b, c), ranges.Union(ranges.Union(inA, inB), inC))
		checkRight(t, filter.And(a, filter.Not(b)), ranges.Less(inA, inB))
		checkRight(t, filter.And(a, filter.Not(a)), nil)
		checkRight(t, filter.Or(a, filter.Not(a)), list{from("")})
		checkRight(t, filter.Not(filter.Or(filter.Not(a), filter.Not(b))), ranges.Meet(inA, inB))
	}
}

// P9.2: All, None, Prefix, Between and From are one node of what they are handed, also where that isn't right.
func TestBuildOne(t *testing.T) {
	checkNodes(t, "All", filter.All(), nodes{{Op: 1}})
	checkNodes(t, "None", filter.None(), nodes{{Op: 2}})
	edges := []string{"", "\x00", "a", "b", "a\xffb", "é", " ", long("k", 16), long("k", 17), long("k", 18), long("\xff", 17), long("\xff", 1000)}
	for _, lo := range edges {
		checkNodes(t, "Prefix", filter.Prefix(lo), nodes{{Op: 3, Lo: lo}})
		checkNodes(t, "From", filter.From(lo), nodes{{Op: 5, Lo: lo}})
		for _, hi := range edges {
			checkNodes(t, "Between", filter.Between(lo, hi), nodes{{Op: 4, Lo: lo, Hi: hi}})
			checkWords(t, filter.Between(lo, hi))
		}
		checkWords(t, filter.Prefix(lo))
		checkWords(t, filter.From(lo))
	}
	for _, r := range wrong() {
		checkNodes(t, "Between", filter.Between(r.Lo, r.Hi), nodes{{Op: 4, Lo: r.Lo, Hi: r.Hi}})
		checkWords(t, filter.Between(r.Lo, r.Hi))
		if !r.Open {
			checkWrong(t, filter.Between(r.Lo, r.Hi))
		}
	}
	// What would be Open is no range of a filter: From is.
	checkWrong(t, filter.Between("a", ""))
	checkWrong(t, filter.Between("", ""))
}

// P9.2: And of none is All, Or of none None.
func TestBuildOfNone(t *testing.T) {
	checkNodes(t, "And", filter.And(), nodes{all})
	checkNodes(t, "Or", filter.Or(), nodes{none})
	checkNodes(t, "And", filter.And([]nodes{}...), nodes{all})
	checkNodes(t, "Or", filter.Or([]nodes{}...), nodes{none})
	checkRight(t, filter.And(), list{from("")})
	checkRight(t, filter.Or(), nil)
	// One kid without a node is a kid.
	for _, l := range []nodes{nil, {}} {
		checkNodes(t, "And", filter.And(l), nodes{each(1)})
		checkNodes(t, "Or", filter.Or(l), nodes{some(1)})
		checkNodes(t, "Not", filter.Not(l), nodes{turned})
		checkWrong(t, filter.And(l))
		checkWrong(t, filter.Or(l))
		checkWrong(t, filter.Not(l))
	}
}

// kids are filters, right or not, that are handed on.
func kids() []nodes {
	return []nodes{
		nil, {}, {all}, {begins("a")}, {between("b", "d")}, {begins("a"), begins("ab"), turned, each(2)}, times(31, all, some(31)),
		// They aren't right.
		{{}}, {turned}, {all, all}, {turned, all}, {each(2), all}, {{Op: 9}}, {{Op: math.MinInt, Kids: math.MaxInt}}, {{Op: 7, Kids: -1}}, {{Op: 1, Kids: 1}}, {{Op: 1, Lo: "a"}},
		{between("b", "a")}, {begins(long("k", 17))}, {{Op: 5, Lo: "a", Hi: "b"}}, times(40, all),
	}
}

// P9.2: Not, And and Or are the kids, one behind the other, and the node behind them, whatever the kids are.
func TestBuildBehindKids(t *testing.T) {
	for _, l := range kids() {
		checkNodes(t, "Not", filter.Not(l), append(slices.Clone(l), turned))
		checkNodes(t, "Not", filter.Not(filter.Not(l)), append(slices.Clone(l), turned, turned))
		checkWords(t, filter.Not(l))
		if got, want := filter.Right(filter.Not(l)), filter.Right(l) && len(l) < 32; got != want {
			t.Errorf("Right(Not(%s)) = %t, want %t", told(l), got, want)
		}
	}
	for _, l := range sample.Lists(kids(), 3) {
		if len(l) == 0 {
			continue
		}
		var want nodes
		for _, kid := range l {
			want = append(want, kid...)
		}
		checkNodes(t, "And", filter.And(l...), append(slices.Clone(want), each(len(l))))
		checkNodes(t, "Or", filter.Or(l...), append(slices.Clone(want), some(len(l))))
		checkWords(t, filter.And(l...))
		checkWords(t, filter.Or(l...))
	}
	// Kids that aren't right may together be two that are.
	checkRight(t, filter.Or(nil, nodes{begins("a"), begins("b")}), list{to("a", "c")})
	checkRight(t, filter.And(nodes{begins("b"), begins("a")}, nodes{turned}), list{to("b", "c")})
}

// P9.2: as many kids as there are.
func TestBuildMany(t *testing.T) {
	for _, n := range []int{1, 2, 30, 31, 32, 33, 255, 256, 1 << 16} {
		l := make([]nodes, n)
		for i := range l {
			l[i] = nodes{begins("a")}
		}
		checkNodes(t, "And", filter.And(l...), times(n, begins("a"), each(n)))
		checkNodes(t, "Or", filter.Or(l...), times(n, begins("a"), some(n)))
		if got := filter.Right(filter.And(l...)); got != (n < 32) || filter.Right(filter.Or(l...)) != got {
			t.Errorf("of %d kids Right = %t", n, got)
		}
	}
	deep := nodes{all}
	for n := 1; n < 70; n++ {
		if got, want := filter.Right(deep), n <= 32; got != want {
			t.Errorf("Right of %d nodes = %t, want %t", n, got, want)
		}
		deep = filter.Not(deep)
	}
}

// P9.1, P9.2 and rule 5: what is handed in is as it was, also behind its end.
func TestHandedIn(t *testing.T) {
	kept := nodes{begins("a"), begins("ab"), turned, each(2), begins("x"), some(2), {Op: 9, Kids: -1, Lo: "b", Hi: "a"}, all, turned}
	l := slices.Clone(kept)
	for n := range len(l) + 1 {
		for m := range n + 1 {
			filter.Right(l[m:n])
			filter.Match(l[m:n], "ab")
			filter.Ranges(l[m:n])
			filter.Not(l[m:n])
			filter.And(l[m:n])
			filter.Or(l[m:n])
			lists := []nodes{l[:m], l[m:n], l[:n], nil, {}}
			filter.And(lists...)
			filter.Or(lists...)
			filter.And(lists[:2]...)
			filter.Or(lists[:2]...)
			if !slices.Equal(l, kept) {
				t.Fatalf("of the nodes from %d to %d: %s", m, n, told(l))
			}
			for i, want := range []nodes{kept[:m], kept[m:n], kept[:n], nil, {}} {
				if !slices.Equal(lists[i], want) {
					t.Fatalf("of the nodes from %d to %d: the kid %d is %s", m, n, i, told(lists[i]))
				}
			}
		}
	}
}

// P9.1 and P9.2: what is answered is new: who writes into it, changes nothing that was handed in, and no other answer.
func TestAnswersAreNew(t *testing.T) {
	other := api.Node{Op: 9, Kids: 9, Lo: "over", Hi: "written"}
	overwrite := func(l nodes) {
		for i := range l {
			l[i] = other
		}
		_ = append(l, other, other)
	}
	for _, kept := range kids() {
		for _, call := range []func(l nodes) nodes{
			filter.Not, func(l nodes) nodes { return filter.And(l) }, func(l nodes) nodes { return filter.Or(l) },
			func(l nodes) nodes { return filter.And(l, l) }, func(l nodes) nodes { return filter.Or(nil, l, nil) },
			func(nodes) nodes { return filter.All() }, func(nodes) nodes { return filter.None() }, func(nodes) nodes { return filter.And() }, func(nodes) nodes { return filter.Or() },
			func(nodes) nodes { return filter.Prefix("a") }, func(nodes) nodes { return filter.Between("a", "b") }, func(nodes) nodes { return filter.From("a") },
		} {
			l := slices.Grow(slices.Clone(kept), 8)
			one, another := call(l), call(l)
			want := slices.Clone(another)
			overwrite(one)
			if !slices.Equal(l, kept) || !slices.Equal(another, want) || !slices.Equal(call(l), want) || slices.Contains(l[:cap(l)], other) {
				t.Fatalf("%s and %s, want %s and %s", told(l), told(another), told(kept), told(want))
			}
		}
	}
	for _, l := range []nodes{{all}, {begins("a")}, {begins("a"), begins("x"), some(2)}, {begins("a"), each(1), some(1)}, {begins("a"), turned}} {
		one, another := filter.Ranges(l), filter.Ranges(l)
		want := slices.Clone(another)
		one[0] = to("over", "written")
		_ = append(one, to("over", "written"))
		if !slices.Equal(another, want) || !slices.Equal(filter.Ranges(l), want) {
			t.Fatalf("Ranges(%s) = %#v, want %#v", told(l), another, want)
		}
	}
}
