package ftext_test

import (
	"fmt"
	"math"
	"slices"
	"strings"
	"testing"

	"winnower/api"
	"winnower/filter"
	"winnower/ftext"
	"winnower/sample"
	"winnower/word"
)

// nodes is a short name of what the calls take and answer.
type nodes = []api.Node

// What texts, nodes and filters are made by here: the tests of several layers have it together.
var (
	long                    = sample.Long
	begins, between, behind = sample.Begins, sample.Between, sample.Behind
	each, some              = sample.Each, sample.Some
	grown, spoilt           = sample.Grown, sample.Spoilt
	every, changed          = sample.Every, sample.Changed
)

// The nodes that need no more than their kind.
var all, none, turned = api.Node{Op: 1}, api.Node{Op: 2}, api.Node{Op: 6, Kids: 1}

// times is a list of a node, n times, and other ones behind it.
func times(n int, one api.Node, rest ...api.Node) nodes {
	return append(slices.Repeat(nodes{one}, n), rest...)
}

// wordByWords is a text's word, as layer 5's words have it.
func wordByWords(s string) string {
	if s == "" {
		return "_"
	}
	w := ""
	for _, b := range []byte(s) {
		if b >= 'a' && b <= 'z' || b >= '0' && b <= '9' {
			w += string(rune(b))
		} else {
			w += fmt.Sprintf("-%02x", b)
		}
	}
	return w
}

// textByWords is the text of the filter that ends a list, and what stands ahead of it; its nodes may be wrong, but each finds its kids.
func textByWords(l nodes) (string, nodes) {
	n, rest := l[len(l)-1], l[:len(l)-1]
	kids := ""
	for range n.Kids {
		var kid string
		kid, rest = textByWords(rest)
		if kids != "" {
			kid += ","
		}
		kids = kid + kids
	}
	lo, hi := wordByWords(n.Lo), wordByWords(n.Hi)
	switch n.Op {
	case 1:
		return "all", rest
	case 2:
		return "none", rest
	case 3:
		return "prefix(" + lo + ")", rest
	case 4:
		return "range(" + lo + "," + hi + ")", rest
	case 5:
		return "from(" + lo + ")", rest
	case 6:
		return "not(" + kids + ")", rest
	case 7:
		return "and(" + kids + ")", rest
	case 8:
		return "or(" + kids + ")", rest
	}
	return fmt.Sprintf("op%d(%s)", n.Op, kids), rest
}

// textOf is the text of a filter whose nodes may be wrong, but each finds its kids.
func textOf(l nodes) string {
	s, _ := textByWords(l)
	return s
}

// parts are the parts of a text, cut at the commas that stand between no brackets of it.
func parts(s string) []string {
	l := []string{""}
	deep := 0
	for _, b := range []byte(s) {
		switch b {
		case '(':
			deep++
		case ')':
			deep--
		case ',':
			if deep == 0 {
				l = append(l, "")
				continue
			}
		}
		l[len(l)-1] += string([]byte{b})
	}
	return l
}

// guessed are the nodes of a text, if it is a filter's; else they are any, and their text is another one.
func guessed(s string) nodes {
	name, inner, _ := strings.Cut(s, "(")
	l := parts(strings.TrimSuffix(inner, ")"))
	lo, _ := word.Read(l[0])
	hi, _ := word.Read(l[len(l)-1])
	op := slices.Index([]string{"all", "none", "prefix", "range", "from", "not", "and", "or"}, name) + 1
	switch op {
	case 1, 2:
		return nodes{{Op: op}}
	case 3, 5:
		return nodes{{Op: op, Lo: lo}}
	case 4:
		return nodes{between(lo, hi)}
	case 6, 7, 8:
		var kids nodes
		for _, kid := range l {
			kids = append(kids, guessed(kid)...)
		}
		return append(kids, api.Node{Op: op, Kids: len(l)})
	}
	return nodes{{Op: op}}
}

// byWords is the filter whose text s is, as the chapter says it: the right one that is told so.
func byWords(s string) (nodes, bool) {
	l := guessed(s)
	return l, filter.Right(l) && textOf(l) == s
}

// shown is a filter as a text of Go; of one that has very many nodes how many.
func shown(l nodes) string {
	if len(l) > 100 {
		return fmt.Sprintf("%d nodes", len(l))
	}
	return fmt.Sprintf("%#v", l)
}

// cut is a text; of a very long one its beginning.
func cut(s string) string {
	if len(s) > 2000 {
		return fmt.Sprintf("%q and so on, %d bytes", s[:2000], len(s))
	}
	return fmt.Sprintf("%q", s)
}

// checkTold is that a filter has a text.
func checkTold(t *testing.T, l nodes, want string) {
	t.Helper()
	if s, e := ftext.Text(l); e != api.OK || s != want {
		t.Fatalf("Text(%s) = %s, %d, want %s, OK", shown(l), cut(s), e, cut(want))
	}
}

// checkUntold is that a filter, which isn't right, has no text.
func checkUntold(t *testing.T, l nodes) {
	t.Helper()
	if s, e := ftext.Text(l); e != api.ErrArg || s != "" {
		t.Fatalf("Text(%s) = %s, %d, want none, ErrArg", shown(l), cut(s), e)
	}
}

// checkParsed is that a text is a filter's.
func checkParsed(t *testing.T, s string, want nodes) {
	t.Helper()
	if l, e := ftext.Parse(s); e != api.OK || !slices.Equal(l, want) {
		t.Fatalf("Parse(%s) = %s, %d, want %s, OK", cut(s), shown(l), e, shown(want))
	}
}

// checkNone is that a text is no filter's.
func checkNone(t *testing.T, s string) {
	t.Helper()
	if l, e := ftext.Parse(s); e != api.ErrForm || len(l) != 0 {
		t.Fatalf("Parse(%s) = %s, %d, want none, ErrForm", cut(s), shown(l), e)
	}
}

// checkText holds what is parsed of a text against the words; if it is a filter's, that this is told so.
func checkText(t *testing.T, s string) bool {
	t.Helper()
	l, ok := byWords(s)
	if !ok {
		checkNone(t, s)
		return false
	}
	checkParsed(t, s, l)
	checkTold(t, l, s)
	return true
}

// checkBoth is that a filter has a text, and this is parsed as it, and in no other way: neither cut off at any place, nor with bytes behind or ahead of it.
func checkBoth(t *testing.T, l nodes, s string) {
	t.Helper()
	checkTold(t, l, s)
	checkParsed(t, s, l)
	for n := range len(s) {
		checkNone(t, s[:n])
		if n > 0 {
			checkNone(t, s[n:])
		}
	}
	for x := range 256 {
		b := string([]byte{byte(x)})
		checkNone(t, s+b)
		checkNone(t, b+s)
	}
	for _, more := range []string{s, "," + s, "(" + s + ")", "()", "\r\n", "  ", "all", long(")", 1000), long("(", 1000)} {
		checkNone(t, s+more)
	}
	checkNone(t, "("+s+")")
}

// checkFilter holds what is told of a filter, right or not, against the words, and what is parsed of its text.
func checkFilter(t *testing.T, l nodes) {
	t.Helper()
	if !filter.Right(l) {
		checkUntold(t, l)
		return
	}
	s := textOf(l)
	checkTold(t, l, s)
	checkParsed(t, s, l)
}

// told are filters of each kind, and nested ones, and their texts.
var told = []struct {
	l nodes
	s string
}{
	{nodes{all}, "all"},
	{nodes{none}, "none"},
	{nodes{begins("a")}, "prefix(a)"},
	{nodes{begins("ab0")}, "prefix(ab0)"},
	{nodes{between("a", "b")}, "range(a,b)"},
	{nodes{between("9", "a")}, "range(9,a)"},
	{nodes{behind("a")}, "from(a)"},
	{nodes{behind("xyz")}, "from(xyz)"},
	// Empty texts.
	{nodes{begins("")}, "prefix(_)"},
	{nodes{behind("")}, "from(_)"},
	{nodes{between("", "b")}, "range(_,b)"},
	{nodes{between("", "\x00")}, "range(_,-00)"},
	// Texts whose words are not they themselves.
	{nodes{begins("a B")}, "prefix(a-20-42)"},
	{nodes{begins("_")}, "prefix(-5f)"},
	{nodes{begins("-")}, "prefix(-2d)"},
	{nodes{begins("-20")}, "prefix(-2d20)"},
	{nodes{begins("é")}, "prefix(-c3-a9)"},
	{nodes{behind("\x00\xff")}, "from(-00-ff)"},
	{nodes{behind("Z\n")}, "from(-5a-0a)"},
	{nodes{between("A", "a")}, "range(-41,a)"},
	{nodes{between("\x7f", "\x80")}, "range(-7f,-80)"},
	// Signs within texts.
	{nodes{begins("(")}, "prefix(-28)"},
	{nodes{begins(")")}, "prefix(-29)"},
	{nodes{behind(",")}, "from(-2c)"},
	{nodes{between("a)", "a,b")}, "range(a-29,a-2cb)"},
	{nodes{begins("all(none,x)")}, "prefix(all-28none-2cx-29)"},
	// Names within texts.
	{nodes{begins("all")}, "prefix(all)"},
	{nodes{behind("not")}, "from(not)"},
	{nodes{between("and", "or")}, "range(and,or)"},
	// Texts of just MaxKey, and of just MaxEdge bytes.
	{nodes{begins("kkkkkkkkkkkkkkkk")}, "prefix(kkkkkkkkkkkkkkkk)"},
	{nodes{begins("\xff\xff\xff\xff\xff\xff\xff\xff\xff\xff\xff\xff\xff\xff\xff\xff")}, "prefix(-ff-ff-ff-ff-ff-ff-ff-ff-ff-ff-ff-ff-ff-ff-ff-ff)"},
	{nodes{behind("kkkkkkkkkkkkkkkkk")}, "from(kkkkkkkkkkkkkkkkk)"},
	{nodes{between("kkkkkkkkkkkkkkkkk", "lllllllllllllllll")}, "range(kkkkkkkkkkkkkkkkk,lllllllllllllllll)"},
	{nodes{between("", "KKKKKKKKKKKKKKKKK")}, "range(_,-4b-4b-4b-4b-4b-4b-4b-4b-4b-4b-4b-4b-4b-4b-4b-4b-4b)"},
	// Kids: one, and more.
	{nodes{all, turned}, "not(all)"},
	{nodes{none, turned, turned}, "not(not(none))"},
	{nodes{all, each(1)}, "and(all)"},
	{nodes{none, some(1)}, "or(none)"},
	{nodes{all, some(1), each(1)}, "and(or(all))"},
	{nodes{all, none, each(2)}, "and(all,none)"},
	{nodes{none, all, some(2)}, "or(none,all)"},
	{nodes{all, all, all, each(3)}, "and(all,all,all)"},
	{nodes{begins("a"), begins("b"), behind("c"), some(3)}, "or(prefix(a),prefix(b),from(c))"},
	{nodes{begins("a"), begins("ab"), turned, each(2)}, "and(prefix(a),not(prefix(ab)))"},
	{nodes{begins("a"), turned, begins("ab"), each(2)}, "and(not(prefix(a)),prefix(ab))"},
	{nodes{begins("a"), between("b", "c"), turned, each(2)}, "and(prefix(a),not(range(b,c)))"},
	{nodes{all, none, begins("a"), some(2), each(2)}, "and(all,or(none,prefix(a)))"},
	{nodes{all, none, some(2), begins("a"), each(2)}, "and(or(all,none),prefix(a))"},
	{nodes{all, none, some(2), begins("a"), behind(""), each(2), some(2)}, "or(or(all,none),and(prefix(a),from(_)))"},
	{nodes{begins("a"), none, behind(""), each(2), all, turned, turned, some(3)}, "or(prefix(a),and(none,from(_)),not(not(all)))"},
	{nodes{begins("a"), between("x", "y"), turned, behind("\xff"), none, some(2), each(3)}, "and(prefix(a),not(range(x,y)),or(from(-ff),none))"},
}

// P11.1 to P11.3: the chapter's example.
func TestExample(t *testing.T) {
	l := filter.And(filter.Prefix("a"), filter.Not(filter.Between("b", "c")))
	checkBoth(t, l, "and(prefix(a),not(range(b,c)))")
}

// P11.1 to P11.3: filters and their texts, each written out by hand.
func TestTold(t *testing.T) {
	for _, c := range told {
		checkBoth(t, c.l, c.s)
		if s := textOf(c.l); s != c.s {
			t.Errorf("the words tell %q, want %q", s, c.s)
		}
		if l, ok := byWords(c.s); !ok || !slices.Equal(l, c.l) {
			t.Errorf("the words parse %q as %s, %t", c.s, shown(l), ok)
		}
	}
}

// P11.1 to P11.3: what filter's calls build has a text too.
func TestBuilt(t *testing.T) {
	a, b := filter.Prefix("a"), filter.Between("b", "c")
	for _, c := range []struct {
		l nodes
		s string
	}{
		{filter.All(), "all"}, {filter.None(), "none"}, {a, "prefix(a)"}, {b, "range(b,c)"}, {filter.From(""), "from(_)"}, {filter.Not(a), "not(prefix(a))"},
		{filter.And(a, b), "and(prefix(a),range(b,c))"}, {filter.Or(b, a), "or(range(b,c),prefix(a))"}, {filter.And(filter.Or(a), b), "and(or(prefix(a)),range(b,c))"},
		// Of no kid they are no And, and no Or.
		{filter.And(), "all"}, {filter.Or(), "none"}, {filter.Not(filter.Or()), "not(none)"},
	} {
		checkBoth(t, c.l, c.s)
	}
}

// P11.1: a filter without a node isn't right; the empty text is none's.
func TestNoNode(t *testing.T) {
	for _, l := range []nodes{nil, {}, times(2, all)[:0]} {
		checkUntold(t, l)
	}
	checkNone(t, "")
}

// P11.1 to P11.3: each byte, alone and beside others, in each text that a filter has.
func TestEveryByte(t *testing.T) {
	for x := range 256 {
		b := string([]byte{byte(x)})
		w := wordByWords(b)
		checkBoth(t, nodes{begins(b)}, "prefix("+w+")")
		checkBoth(t, nodes{behind(b)}, "from("+w+")")
		checkBoth(t, nodes{between("", b)}, "range(_,"+w+")")
		checkBoth(t, nodes{between(b, b+b)}, "range("+w+","+w+w+")")
		checkBoth(t, nodes{begins("a" + b + "z"), behind(b + "9"), each(2)}, "and(prefix(a"+w+"z),from("+w+"9))")
		if w == b {
			continue
		}
		checkNone(t, "from(a"+b+"z)")
		checkNone(t, "range(_,a"+b+")")
		// Alone it may be the sign of the empty text.
		if b != "_" {
			checkNone(t, "prefix("+b+")")
			checkNone(t, "range("+b+",zz)")
		}
	}
}

// P11.1: a filter that has a node that isn't right, at each place, has no text.
func TestWrongNode(t *testing.T) {
	for _, n := range sample.WrongNodes() {
		for _, l := range []nodes{{n}, {n, turned}, {n, each(1)}, {all, n}, {all, n, some(2)}, {n, all, each(2)}, {all, none, n}, {all, all, n, each(3)}, {n, n}, {n, n, some(2)}} {
			checkUntold(t, l)
		}
	}
}

// P11.1: nodes that find too few kids, or of which more than one is left, have no text.
func TestWrongTree(t *testing.T) {
	for _, l := range []nodes{
		{turned}, {each(1)}, {some(1)}, {each(2)}, {some(32)}, {turned, all}, {each(1), all}, {all, each(2)}, {all, some(2), all}, {all, all, each(3)},
		{all, all}, {all, none}, {all, all, turned}, {all, all, each(1)}, {all, all, all, some(2)}, {all, turned, each(2)}, {all, all, some(2), each(2)}, {all, turned, all, turned},
		{each(0)}, {some(0)}, {all, each(0)}, {all, each(0), each(2)}, {all, some(0), turned},
	} {
		checkUntold(t, l)
	}
}

// P11.2: texts of filters whose nodes are wrong, but find their kids, are none's.
func TestTextOfWrong(t *testing.T) {
	k16, k17, k18 := long("k", 16), long("k", 17), long("k", 18)
	for _, n := range []api.Node{
		begins(k17), begins(k18), begins(long("K", 17)), begins(long("\xff", 17)), begins(long("k", 1000)),
		behind(k18), behind(long("K", 18)), behind(long("\xff", 18)), behind(long("k", 1000)),
		between("b", "a"), between("a", "a"), between("", ""), between("a", ""), between("\x80", "\x7f"), between("a\x00", "a"), between("a", "Z"), between("9", "10"), between(k17, k16), between(k17, k17),
		between(k18, "l"), between("a", k18), between("", long("\x00", 18)), between(k18, long("l", 18)), between(k17, k18), between(long("k", 1000), "l"),
		{Op: 0}, {Op: 9},
	} {
		for _, l := range []nodes{
			{n}, {n, turned}, {n, each(1)}, {n, some(1)}, {all, n, some(2)}, {n, all, each(2)}, {all, none, n, each(3)}, {all, n, none, some(3)}, {all, n, turned, each(2)}, {n, turned, all, each(2)},
		} {
			checkUntold(t, l)
			checkNone(t, textOf(l))
		}
	}
	// No kids, or too many.
	for _, l := range []nodes{
		{each(0)}, {some(0)}, {{Op: 6}}, {each(0), turned}, {all, some(0), each(2)}, {{Op: 6}, all, some(2)},
		{all, all, {Op: 6, Kids: 2}}, {all, none, begins("a"), {Op: 6, Kids: 3}}, {all, all, {Op: 6, Kids: 2}, turned}, {all, all, {Op: 6, Kids: 2}, none, each(2)}, times(31, all, api.Node{Op: 6, Kids: 31}),
	} {
		checkUntold(t, l)
		checkNone(t, textOf(l))
	}
}

// P11.2: texts that are none's: what isn't spelt just so, and what lacks or has too many.
func TestNone(t *testing.T) {
	for _, s := range []string{
		// Names that are none.
		"al", "alll", "All", "ALL", "a", "l", "nothing", "non", "nonee", "None", "prefi", "prefixe", "Prefix(a)", "pre(a)", "prefixes(a)", "ranges(a,b)", "Range(a,b)", "rang(a,b)", "between(a,b)", "fro(a)", "From(a)", "froms(a)",
		"no(all)", "Not(all)", "nots(all)", "an(all)", "ands(all)", "And(all)", "o(all)", "ors(all)", "Or(all)", "OR(all)", "xor(all,all)", "x", "x(all)", "a(b)", "_", "_(all)", "-61ll", "1", "0", "7(all)", "8", "op9()", "op0()",
		"not-all", "notall", "notnot(all)", "orall", "and all", "allall", "all-", "-all", "all_", "_all", "all0", "all-20", "no", "not", "and", "or", "from", "range", "prefix",
		// Brackets behind what has none, and none behind what has some.
		"all()", "none()", "all(all)", "all(a)", "none(_)", "all(_)", "all(", "all)", "none(", "none)", "all)(", "()", "(", ")", ")(", ",", ",,", "(,)", "(all)", "((all))", "(all", "all,", ",all", "all,all", "all,none", "all all",
		"prefixa", "prefix_", "prefix a", "prefix:a", "froma", "from_", "rangea,b", "range a,b", "notall", "andall", "orall,all",
		// No text, several, or filters instead of texts.
		"prefix()", "prefix(,)", "prefix(a,)", "prefix(,a)", "prefix(a,b)", "prefix(a,b,c)", "prefix(prefix(a))", "prefix((a))", "prefix(a)(b)", "prefix(all())",
		"from()", "from(,)", "from(a,)", "from(,a)", "from(a,b)", "from(from(a))", "from((a))", "from(range(a,b))",
		"range()", "range(,)", "range(a)", "range(a,)", "range(,b)", "range(,a,b)", "range(a,,b)", "range(a,b,)", "range(a,b,c)", "range((a,b))", "range((a),b)", "range(a,(b))", "range(a)(b)", "range(a)b", "range(a(b)", "range(a)b)", "range(a,b)c", "range(range(a,b),c)", "range(a,prefix(b))",
		// Words that are none's.
		"prefix(A)", "prefix(aB)", "prefix( )", "prefix(a b)", "prefix(-)", "prefix(-2)", "prefix(a-2)", "prefix(--2)", "prefix(-2D)", "prefix(-FF)", "prefix(-61)", "prefix(a-30)", "prefix(__)", "prefix(a_)", "prefix(_a)", "prefix(é)", "prefix(\xff)", "prefix(\x00)", "prefix(a\x00)", "prefix(\n)", "prefix(-zz)",
		"from(A)", "from(-2)", "from(-7a)", "from(__)", "from(\xff)", "range(A,b)", "range(a,B)", "range(_a,b)", "range(a,b_)", "range(-61,b)", "range(a,-62)", "range(-2,b)", "range(a,-2)", "range(-,b)", "range(__,b)", "range(\xff,b)", "range(a,\xff)",
		// No kid, kids that are none, too many.
		"not()", "and()", "or()", "not(,)", "and(,)", "or(,)", "and(,,)", "not(a)", "and(a)", "or(a)", "and(_)", "or(_,_)", "not(all,all)", "not(all,)", "not(,all)", "not(all,none,all)",
		"and(all,)", "and(,all)", "and(all,,all)", "and(all,all,)", "and(,all,all)", "and(all all)", "and(allall)", "and(all;all)", "or(all,)", "or(,all)", "or(all,,none)", "or(all,none,)", "or(all.none)",
		"and(all,x)", "and(x,all)", "and(all,x,all)", "or(all,al)", "or(al,all)", "and(and())", "and(all,or())", "or(not(),all)", "not(not())", "not(and())",
		// Brackets that lack, or are too many.
		"not(all", "not(all))", "not((all))", "not((all)", "(not(all))", "and(all", "and(all,all", "and(all,all))", "and((all),all)", "and(all,(all))", "and((all,all))", "(and(all,all))", "or(and(all),all", "or(and(all,all)", "or(and(all),all))", "or(and(all)all)", "or(and(all),)", "or(and(all)),all)",
		"not(all(", "not(all(,", "not)all(", "not)all)", "not(all]", "not[all]", "not{all}", "not<all>", "and(all)(all)", "and(all)and(all)", "and(all),all", "not(all)not(all)", "not(all)all", "not(not(all)", "not(not(all)))",
		"prefix(a", "prefix(a))", "prefix((a)", "prefix)a(", "prefix)a)", "from(a", "from(a))", "range(a,b", "range(a,b))", "range((a,b)",
		// Blanks and feeds.
		" all", "all ", "\nall", "all\n", "all\r", "\tall", "a ll", "prefix (a)", "prefix( a)", "prefix(a )", "prefix(a) ", " prefix(a)", "range(a, b)", "range(a ,b)", "range( a,b)", "range(a,b )", "range (a,b)", "not (all)", "not( all)", "not(all )", "and(all, all)", "and(all ,all)", "and(all,\nall)",
		"and( all,all)", "and(all,all )", "and (all,all)", "or( )", "all\x00", "\x00all", "all\xff", "\xffall", "\xef\xbb\xbfall", "all\u00a0", "and(all,\u00a0all)", "all ", "ａll",
	} {
		checkNone(t, s)
		checkNone(t, "not("+s+")")
		if l, ok := byWords(s); ok {
			t.Errorf("the words parse %q as %s", s, shown(l))
		}
	}
}

// P11.2: what isn't spelt just so, is none's, also as a kid beside right ones.
func TestNoneAsKid(t *testing.T) {
	for _, s := range []string{"", "al", "All", " all", "all ", "x", "()", "all()", "prefix()", "prefix(A)", "prefix(a", "range(a)", "range(b,a)", "range(a,b,c)", "not()", "not(all,all)", "and()", "or(", ")", "(", "all)", "prefix(a))", "all(", "(all)", "prefix(kkkkkkkkkkkkkkkkk)"} {
		for _, around := range []string{"and(%)", "or(%)", "and(%,all)", "or(all,%)", "and(all,%,all)", "or(prefix(a),not(%))", "and(not(%),from(b))", "not(not(not(%)))", "and(or(and(%)))"} {
			checkNone(t, strings.Replace(around, "%", s, 1))
			if right := strings.Replace(around, "%", "prefix(a)", 1); !checkText(t, right) {
				t.Errorf("the words don't parse %q", right)
			}
		}
	}
}

// P11.1 to P11.3: texts of up to MaxKey and MaxEdge bytes, and of more.
func TestLengths(t *testing.T) {
	for _, letter := range []string{"k", "K", "\x00", "\xff", "-", "("} {
		for n := 1; n <= 40; n++ {
			s := long(letter, n)
			w := wordByWords(s)
			for _, c := range []struct {
				l    nodes
				s    string
				most int
			}{
				{nodes{begins(s)}, "prefix(" + w + ")", 16},
				{nodes{behind(s)}, "from(" + w + ")", 17},
				{nodes{between("", s)}, "range(_," + w + ")", 17},
				{nodes{between(s[1:], s)}, "range(" + wordByWords(s[1:]) + "," + w + ")", 17},
				{nodes{all, begins(s), turned, each(2)}, "and(all,not(prefix(" + w + ")))", 16},
				{nodes{behind(s), all, some(2)}, "or(from(" + w + "),all)", 17},
			} {
				if n <= c.most {
					checkTold(t, c.l, c.s)
					checkParsed(t, c.s, c.l)
				} else {
					checkUntold(t, c.l)
					checkNone(t, c.s)
				}
			}
			// Lo itself may be the longer one.
			l := nodes{between(s, "\xff\xff"+long("\xff", 15))}
			if n <= 17 && s < l[0].Hi {
				checkTold(t, l, textOf(l))
				checkParsed(t, textOf(l), l)
			} else {
				checkUntold(t, l)
				checkNone(t, textOf(l))
			}
		}
	}
}

// P11.1 to P11.3: MaxNodes nodes, and one more, beside one another and nested.
func TestMaxNodes(t *testing.T) {
	a := begins("a")
	for n := 1; n <= 70; n++ {
		deep := n - 1
		l := []nodes{
			append(nodes{a}, times(deep, turned)...), append(nodes{a}, times(deep, each(1))...), append(nodes{a}, times(deep, some(1))...),
		}
		texts := []string{
			long("not(", deep) + "prefix(a)" + long(")", deep), long("and(", deep) + "prefix(a)" + long(")", deep), long("or(", deep) + "prefix(a)" + long(")", deep),
		}
		if n > 1 {
			kids := long("prefix(a),", deep-1) + "prefix(a)"
			l = append(l, times(deep, a, each(deep)), times(deep, a, some(deep)))
			texts = append(texts, "and("+kids+")", "or("+kids+")")
		}
		if n > 2 && n%2 == 1 {
			// Two kids each, the first one nested, and the second one.
			pairs := deep / 2
			first := nodes{all}
			for range pairs {
				first = append(first, none, each(2))
			}
			l = append(l, first, append(append(times(pairs, none), all), times(pairs, some(2))...))
			texts = append(texts, long("and(", pairs)+"all"+long(",none)", pairs), long("or(none,", pairs)+"all"+long(")", pairs))
		}
		for i := range l {
			if len(l[i]) != n {
				t.Fatalf("%d nodes, want %d", len(l[i]), n)
			}
			if n <= api.MaxNodes {
				checkTold(t, l[i], texts[i])
				checkParsed(t, texts[i], l[i])
			} else {
				checkUntold(t, l[i])
				checkNone(t, texts[i])
			}
			checkNone(t, texts[i]+")")
			checkNone(t, texts[i][:len(texts[i])-1])
		}
	}
	// The node that is one more stands ahead of all others, or between them.
	full := "or(" + long("all,", 30) + "all)"
	checkParsed(t, full, times(31, all, some(31)))
	for _, s := range []string{"not(" + full + ")", "and(" + full + ")", "and(all," + full + ")", "and(" + full + ",all)", "or(" + long("all,", 30) + "not(all))", "or(not(all)" + long(",all", 30) + ")", "or(" + long("all,", 15) + "and(all)" + long(",all", 15) + ")"} {
		checkNone(t, s)
	}
	l, _ := ftext.Parse("or(" + long("all,", 29) + "not(all))")
	if want := times(30, all, turned, some(30)); !slices.Equal(l, want) {
		t.Errorf("30 kids, and a Not: %s, want %s", shown(l), shown(want))
	}
}

// P11.2 and rule 1: very long texts and very long lists come to an end.
func TestVeryLong(t *testing.T) {
	const n = 1 << 20
	for _, s := range []string{
		long("not(", n), long("and(", n), long("or(", n), long("not(", 60), long("(", n), long(")", n), long(",", n), long("a", n), long("all", n), long("all,", n), long(" ", n), long("\x00", n), long("\xff", n), long("prefix(", n), long("range(a,", n),
		long("not(", n) + "all" + long(")", n), long("and(all,", n) + "all" + long(")", n), "and(" + long("all,", n) + "all)", "or(" + long("all,", n), "and(" + long(",", n) + ")", "all" + long(")", n), "all" + long(" ", n), "all" + long("\x00", n),
		"prefix(" + long("a", n) + ")", "prefix(" + long("-20", n) + ")", "prefix(" + long("a", n), "prefix(" + long("_", n) + ")", "from(" + long("-ff", n) + ")", "range(_," + long("a", n) + ")", "range(" + long("a", n) + ",b)", "not(prefix(" + long("a", n) + "))",
		"prefix(" + long("a,", n) + "a)", "range(a,b" + long(",c", n) + ")", "not(all" + long(",all", n) + ")", "and(all)" + long(",and(all)", n), "prefix(a)" + long("(", n), long("all()", n), "and" + long("(", n) + "all" + long(")", n),
	} {
		checkNone(t, s)
	}
	// So deep that nobody could go down to the end.
	for _, open := range []string{"not(", "and(", "or(all,"} {
		checkNone(t, long(open, 8*n))
	}
	checkUntold(t, times(n, all))
	checkUntold(t, append(nodes{all}, times(n, turned)...))
	checkUntold(t, times(n, all, each(n)))
	checkUntold(t, make(nodes, n))
	checkUntold(t, nodes{{Op: math.MaxInt, Kids: math.MinInt}, {Op: 7, Kids: math.MaxInt}})
}

// P11.2 and P11.3: all texts that are made of a few pieces, as the words say; how many are filters' is reckoned by hand.
func TestPiecesByWords(t *testing.T) {
	for _, c := range []struct {
		most   int
		pieces []string
		want   int
	}{
		// All and none; prefix and from of each word, not, and, or of both.
		{4, []string{"all", "none", "prefix", "range", "from", "not", "and", "or", "(", ")", ",", "a", "b", "_", "-20", "-", " ", "A"}, 2 + 2*12 + 3*2},
		// Of 1, 3, 4, 5 and 6 pieces.
		{6, []string{"all", "not(", "and(", ")", ",", "prefix(", "a"}, 1 + 4 + 4 + 17 + 24},
		// From of up to four letters, or of none; ranges of one letter or none each, of more behind it, of more ahead of it.
		{6, []string{"range(", "from(", ")", ",", "a", "b", "_"}, 30 + 1 + 3 + 10 + 2},
		// Of 1, 3, 5 and 7 pieces.
		{8, []string{"all", "or(", ")", ","}, 1 + 1 + 2 + 5},
	} {
		found := 0
		for _, l := range sample.Lists(c.pieces, c.most) {
			if checkText(t, strings.Join(l, "")) {
				found++
			}
		}
		if found != c.want {
			t.Errorf("of up to %d of %q, %d are filters' texts, want %d", c.most, c.pieces, found, c.want)
		}
	}
}

// P11.2 and P11.3: texts changed by any byte in one place, and by some in two, as the words say.
func TestChangedByWords(t *testing.T) {
	for _, c := range told {
		changed(c.s, every(), func(s string) { checkText(t, s) })
	}
	for _, s := range []string{"all", "none", "prefix(a)", "range(a,b)", "from(_)", "not(all)", "and(all,none)", "or(all,not(all))"} {
		changed(s, "(),a_- ", func(s string) {
			changed(s, "(),a_- ", func(s string) { checkText(t, s) })
		})
	}
}

// P11.2 and P11.3: texts of which a part is taken out, put in once more, or put in elsewhere, as the words say.
func TestMovedByWords(t *testing.T) {
	for _, c := range told {
		sample.Moved(c.s, func(s string) { checkText(t, s) })
	}
}

// P11.1 and P11.3: all short lists of some nodes, as the words say; no two have one text.
func TestListsByWords(t *testing.T) {
	texts := map[string]string{}
	for _, l := range slices.Concat(
		sample.Lists(nodes{all, none, begins("a"), between("", "b"), behind("a\x00"), turned, each(1), each(2), each(3), some(1), some(2), some(3), {}, {Op: 1, Kids: 1}}, 4),
		sample.Lists(nodes{begins("a"), behind("b"), turned, each(2), some(2)}, 6),
	) {
		checkFilter(t, l)
		s, e := ftext.Text(l)
		if e != api.OK {
			continue
		}
		if other, ok := texts[s]; ok && other != shown(l) {
			t.Fatalf("%s and %s have one text, %q", other, shown(l), s)
		}
		texts[s] = shown(l)
	}
	if len(texts) < 500 {
		t.Errorf("%d texts", len(texts))
	}
}

// P11.1 to P11.3: drawn filters of any size, and what comes of them and of their texts by a change or two, as the words say.
func TestDrawnByWords(t *testing.T) {
	for seed := range 3000 {
		roll := sample.Draw(seed)
		l := grown(roll, 1+roll(32))
		s := textOf(l)
		checkTold(t, l, s)
		if !checkText(t, s) {
			t.Fatalf("%s isn't parsed as the words have it", cut(s))
		}
		if strings.Trim(s, "(),-_0123456789abcdefghijklmnopqrstuvwxyz") != "" {
			t.Fatalf("%s has other bytes", cut(s))
		}
		for range 4 {
			checkFilter(t, spoilt(roll, l))
			one := spoiltText(roll, s)
			checkText(t, one)
			checkText(t, spoiltText(roll, one))
		}
		checkFilter(t, spoilt(roll, append(spoilt(roll, l), each(2))))
	}
}

// spoiltText is a text, changed in one place that is drawn: by a piece of which texts are made, or by a part of itself.
func spoiltText(roll func(n int) int, s string) string {
	i, j := roll(len(s)+1), roll(len(s)+1)
	i, j = min(i, j), max(i, j)
	pieces := []string{"(", ")", ",", "all", "not(", "and(", "or(", "none", "prefix(", "range(", "from(", "_", "-", "-00", "a", "A", " ", "()", ",all", "all,", "all)", "not(all)"}
	piece := pieces[roll(len(pieces))]
	switch roll(6) {
	case 0:
		return s[:i] + piece + s[i:]
	case 1:
		return s[:i] + piece + s[min(i+len(piece), len(s)):]
	case 2:
		return s[:i] + s[min(i+1, len(s)):]
	case 3:
		return s[:i] + s[j:]
	case 4:
		return s[:j] + s[i:]
	}
	return strings.Replace(s, pieces[roll(3)], piece, 1)
}

// P11.1 and rule 5: what is handed in is as it was, also behind its end.
func TestHandedIn(t *testing.T) {
	kept := nodes{begins("a"), begins("ab"), turned, each(2), begins("x"), some(2), {Op: 9, Kids: -1, Lo: "b", Hi: "a"}, all, turned}
	l := slices.Clone(kept)
	for n := range len(l) + 1 {
		for m := range n + 1 {
			checkFilter(t, l[m:n])
			if !slices.Equal(l, kept) {
				t.Fatalf("of the nodes from %d to %d: %s", m, n, shown(l))
			}
		}
	}
}

// P11.2 and rule 6: each answer is the same, is its own, and hangs on nothing that was called ahead of it.
func TestAnswersAreNew(t *testing.T) {
	other := api.Node{Op: 9, Kids: 9, Lo: "over", Hi: "written"}
	for _, c := range told {
		one, _ := ftext.Parse(c.s)
		another, _ := ftext.Parse(c.s)
		for i := range one {
			one[i] = other
		}
		_ = append(one, other, other)
		checkNone(t, c.s+")")
		checkUntold(t, one)
		if !slices.Equal(another, c.l) {
			t.Fatalf("Parse(%q) answers %s, want %s", c.s, shown(another), shown(c.l))
		}
		checkParsed(t, c.s, c.l)
		checkTold(t, another, c.s)
	}
}
