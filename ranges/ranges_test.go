package ranges

import (
	"fmt"
	"slices"
	"testing"

	"winnower/api"
	"winnower/sample"
	"winnower/span"
)

// list is a short name of what all calls take.
type list = []api.Range

// What ranges are made by here: the tests of several layers have it together.
var to, from, long, wrong, all, hasByWords = sample.To, sample.From, sample.Long, sample.Wrong, sample.All, sample.HasText

// edges are texts by which ranges begin and end, in order, the empty text first: some are too long for it.
func edges() []string {
	l := []string{
		"", "\x00", "\x00\x00", "a", "a\x00", "a\xff", "b", "b\x00", "\x7f", "\x80", "\xff", "\xff\x00",
		long("k", 16), long("k", 17), long("k", 18), long("\xff", 17), long("\xff", 18),
	}
	slices.Sort(l)
	return l
}

// rightOnes are the right ones of some ranges.
func rightOnes(l list) list {
	return slices.DeleteFunc(slices.Clone(l), func(r api.Range) bool { return !span.Right(r) })
}

// drawn is a list of ranges by some edges, right or not, that hangs on a seed.
func drawn(seed int, edges []string) list {
	return sample.DrawnRanges(sample.Draw(seed), edges)
}

// had is which of some texts a list has.
func had(l list, texts []string) []bool {
	in := make([]bool, len(texts))
	for i, s := range texts {
		in[i] = hasByWords(l, s)
	}
	return in
}

// each is, text by text, what keep says of both.
func each(a, b []bool, keep func(a, b bool) bool) []bool {
	in := make([]bool, len(a))
	for i := range a {
		in[i] = keep(a[i], b[i])
	}
	return in
}

// rightByWords is what the chapter says that a right list is: each range is right, and one of some texts, that are all edges that there are, stands between each two.
func rightByWords(l list, texts []string) bool {
	for i, r := range l {
		if !hasByWords(list{r}, r.Lo) {
			return false
		}
		between := func(s string) bool { return !l[i-1].Open && l[i-1].Hi <= s && s < r.Lo }
		if i > 0 && !slices.ContainsFunc(texts, between) {
			return false
		}
	}
	return true
}

// check holds a call's answer against what is wanted, range by range.
func check(t *testing.T, call string, got, want list, args ...list) {
	t.Helper()
	if !slices.Equal(got, want) {
		t.Fatalf("%s of %s = %#v, want %#v", call, told(args), got, want)
	}
	if !Right(got) {
		t.Fatalf("%s of %s = %#v, which isn't right", call, told(args), got)
	}
}

// told is what lists have, as a text.
func told(l []list) string {
	return fmt.Sprintf("%#v", l)
}

// P8.1: Right, of lists that the words name.
func TestRight(t *testing.T) {
	for _, l := range []list{
		nil, {}, {from("")}, {from("a")}, {to("", "\x00")}, {to("a", "b")}, {to("a", "b"), to("c", "d")}, {to("a", "b"), from("c")},
		// There is just one text between the end of the one and the beginning of the next one.
		{to("a", "b"), to("b\x00", "c")}, {to("a", "b"), from("b\x00")}, {to("", "\x00"), to("\x00\x00", "\x01")}, {to("a", "\xff"), from("\xff\x00")},
		{to("a", "b"), to("c", "d"), to("e", "f"), from("g")},
		// Edges of just MaxEdge bytes.
		{to("a", long("k", 16)), to(long("k", 17), "l")}, {to(long("k", 16), long("k", 17)), from("l")}, {to("a", "\xff"), from(long("\xff", 17))},
		// Byte by byte, as numbers.
		{to("a", "\x7f"), to("\x80", "\xff")}, {to("Z", "a"), to("b", "é")},
	} {
		if !Right(l) {
			t.Errorf("Right(%#v) = false, want true", l)
		}
	}
	for _, l := range []list{
		// They touch.
		{to("a", "b"), to("b", "c")}, {to("a", "b"), from("b")}, {to("", "\x00"), to("\x00", "a")}, {to("a", long("k", 17)), from(long("k", 17))},
		// They have texts together, or lie within one another.
		{to("a", "c"), to("b", "d")}, {to("a", "d"), to("b", "c")}, {to("b", "c"), to("a", "d")}, {to("a", "b\x00"), to("b", "c")},
		// They are the same, or the one begins as the other does.
		{to("a", "b"), to("a", "b")}, {from("a"), from("a")}, {to("a", "b"), to("a", "c")}, {to("a", "b"), from("a")},
		// They aren't in order.
		{to("c", "d"), to("a", "b")}, {from("c"), to("a", "b")}, {to("\x80", "\xff"), to("a", "\x7f")},
		// Behind an Open one there is nothing.
		{from("a"), to("b", "c")}, {from("a"), from("b")}, {from(""), to("a", "b")}, {from("a"), from("")},
		// Any two beside each other.
		{to("a", "b"), to("c", "d"), to("d", "e")}, {to("a", "b"), to("b", "c"), to("d", "e")}, {to("c", "d"), to("e", "f"), to("a", "b")},
		{to("a", "b"), from("c"), to("d", "e")},
	} {
		if Right(l) {
			t.Errorf("Right(%#v) = true, want false", l)
		}
	}
}

// P8.1: a list isn't right, if one of its ranges isn't, wherever it stands.
func TestRightWrong(t *testing.T) {
	for _, r := range wrong() {
		for _, l := range []list{{r}, {r, to("c", "d")}, {to("\x00", "\x01"), r}, {to("", "\x00"), r, to("c", "d")}, {r, from("c")}, {r, r}, {to("", "a"), r, from("z")}} {
			if Right(l) {
				t.Errorf("Right(%#v) = true, want false", l)
			}
		}
	}
}

// P8.1: Has, of lists and texts that the words name.
func TestHas(t *testing.T) {
	for _, c := range []struct {
		l    list
		s    string
		want bool
	}{
		{nil, "", false}, {nil, "a", false}, {list{}, "", false}, {list{}, "a", false},
		{list{from("")}, "", true}, {list{from("")}, long("\xff", 1000), true}, {list{from("a")}, "", false}, {list{from("a")}, "a", true},
		{list{to("", "\x00")}, "", true}, {list{to("", "\x00")}, "\x00", false},
		{list{to("a", "b"), to("c", "d")}, "", false}, {list{to("a", "b"), to("c", "d")}, "a", true}, {list{to("a", "b"), to("c", "d")}, "az", true},
		{list{to("a", "b"), to("c", "d")}, "b", false}, {list{to("a", "b"), to("c", "d")}, "bz", false}, {list{to("a", "b"), to("c", "d")}, "c", true},
		{list{to("a", "b"), to("c", "d")}, "d", false}, {list{to("a", "b"), to("c", "d")}, "c" + long("\xff", 40), true},
		// Just one text between.
		{list{to("a", "b"), to("b\x00", "c")}, "b", false}, {list{to("a", "b"), to("b\x00", "c")}, "b\x00", true}, {list{to("a", "b"), to("b\x00", "c")}, "a\xff", true},
		// Any order, one more than once, one within another.
		{list{to("c", "d"), to("a", "b")}, "a", true}, {list{to("c", "d"), to("a", "b")}, "c", true}, {list{to("c", "d"), to("a", "b")}, "b", false},
		{list{from("x"), to("a", "b"), to("a", "b")}, "aa", true}, {list{to("b", "c"), to("a", "d")}, "c", true}, {list{to("a", "d"), to("b", "c")}, "c", true},
		{list{to("a", "b"), to("b", "c")}, "b", true},
		// Byte by byte, as numbers.
		{list{to("a", "\xff")}, "\x80", true}, {list{to("a", "b")}, "A", false}, {list{to("\x80", "\x82")}, "\uFFFD", false},
		// Texts that are no edges.
		{list{to("a", "b")}, long("a", 1<<20), true}, {list{to(long("k", 16), long("k", 17))}, long("k", 18), false}, {list{from(long("k", 17))}, long("k", 18), true},
	} {
		if got := Has(c.l, c.s); got != c.want {
			t.Errorf("Has(%#v, %#v) = %t, want %t", c.l, c.s, got, c.want)
		}
	}
}

// P8.1: what isn't right, has nothing, and takes nothing away from the others.
func TestHasWrong(t *testing.T) {
	for _, r := range wrong() {
		for _, s := range append(edges(), r.Lo, r.Hi, r.Lo+"\x00", r.Lo+"\xff", "aa") {
			if Has(list{r}, s) || Has(list{r, r}, s) {
				t.Errorf("Has(%#v, %#v) = true, want false", list{r}, s)
			}
			for _, l := range []list{{r, to("c", "d"), from("x")}, {to("c", "d"), r, from("x")}, {to("c", "d"), from("x"), r}} {
				if got, want := Has(l, s), s >= "c" && s < "d" || s >= "x"; got != want {
					t.Errorf("Has(%#v, %#v) = %t, want %t", l, s, got, want)
				}
			}
		}
	}
}

// P8.1: Of, of ranges that the words name.
func TestOf(t *testing.T) {
	for _, c := range []struct{ l, want list }{
		{nil, nil}, {list{}, nil}, {list{from("")}, list{from("")}}, {list{from("a")}, list{from("a")}}, {list{to("a", "b")}, list{to("a", "b")}}, {list{to("", "\x00")}, list{to("", "\x00")}},
		// They touch.
		{list{to("a", "c"), to("c", "d")}, list{to("a", "d")}}, {list{to("c", "d"), to("a", "c")}, list{to("a", "d")}},
		{list{to("a", "c"), from("c")}, list{from("a")}}, {list{from("c"), to("", "c")}, list{from("")}}, {list{to("", "\x00"), to("\x00", "\x00\x00")}, list{to("", "\x00\x00")}},
		{list{to("a", "b"), to("b", "c"), to("c", "d"), to("d", "e")}, list{to("a", "e")}}, {list{to("d", "e"), to("b", "c"), to("a", "b"), to("c", "d")}, list{to("a", "e")}},
		// Just one text between.
		{list{to("a", "b"), to("b\x00", "c")}, list{to("a", "b"), to("b\x00", "c")}}, {list{to("b\x00", "c"), to("a", "b"), to("b", "b\x00")}, list{to("a", "c")}},
		{list{from("b\x00"), to("a", "b")}, list{to("a", "b"), from("b\x00")}},
		// They have texts together, or lie within one another, or are the same.
		{list{to("a", "c"), to("b", "d")}, list{to("a", "d")}}, {list{to("b", "d"), to("a", "c")}, list{to("a", "d")}},
		{list{to("a", "d"), to("b", "c")}, list{to("a", "d")}}, {list{to("b", "c"), to("a", "d")}, list{to("a", "d")}},
		{list{to("a", "b"), to("a", "c")}, list{to("a", "c")}}, {list{to("a", "c"), to("a", "b")}, list{to("a", "c")}}, {list{to("a", "c"), to("b", "c")}, list{to("a", "c")}},
		{list{to("a", "b"), to("a", "b"), to("a", "b")}, list{to("a", "b")}}, {list{from("a"), from("a")}, list{from("a")}},
		{list{to("a", "e"), to("b", "c"), to("d", "f")}, list{to("a", "f")}}, {list{to("a", "e"), to("b", "c"), to("d", "e"), to("g", "h")}, list{to("a", "e"), to("g", "h")}},
		// Open ones have all behind.
		{list{from("a"), to("b", "c")}, list{from("a")}}, {list{to("b", "c"), from("a")}, list{from("a")}}, {list{from("b"), from("a")}, list{from("a")}}, {list{from("a"), to("a", "b")}, list{from("a")}},
		{list{to("a", "b"), from("a")}, list{from("a")}}, {list{from("a"), to("", "b")}, list{from("")}}, {list{from("b"), to("", "a")}, list{to("", "a"), from("b")}},
		{list{to("a", "b"), from(""), from("z")}, list{from("")}}, {list{from("a"), from("b"), to("c", "d"), to("e", "f")}, list{from("a")}},
		// Any order.
		{list{to("e", "f"), to("a", "b"), to("c", "d")}, list{to("a", "b"), to("c", "d"), to("e", "f")}}, {list{to("\x80", "\xff"), to("a", "\x7f")}, list{to("a", "\x7f"), to("\x80", "\xff")}},
		// Edges of just MaxEdge bytes.
		{list{from(long("k", 17)), to(long("k", 16), long("k", 17))}, list{from(long("k", 16))}}, {list{to(long("k", 17), long("l", 17)), to("", long("k", 16))}, list{to("", long("k", 16)), to(long("k", 17), long("l", 17))}},
		{list{from(long("\xff", 17)), to("", "\xff")}, list{to("", "\xff"), from(long("\xff", 17))}},
	} {
		check(t, "Of", Of(c.l...), c.want, c.l)
	}
}

// P8.1: Of leaves out what isn't right, wherever it stands.
func TestOfWrong(t *testing.T) {
	check(t, "Of", Of(wrong()...), nil, wrong())
	for _, r := range wrong() {
		check(t, "Of", Of(r), nil, list{r})
		want := list{to("c", "d"), from("x")}
		for _, l := range []list{{r, to("c", "d"), from("x")}, {to("c", "d"), r, from("x")}, {from("x"), r, to("c", "d"), r}} {
			check(t, "Of", Of(l...), want, l)
		}
	}
}

// P8.2: what two lists make, of those that the words name.
func TestTwo(t *testing.T) {
	for _, c := range []struct{ a, b, union, meet, less, more list }{
		{nil, nil, nil, nil, nil, nil},
		{list{}, nil, nil, nil, nil, nil},
		{list{}, list{}, nil, nil, nil, nil},
		{list{to("a", "b")}, nil, list{to("a", "b")}, nil, list{to("a", "b")}, nil},
		{list{from("")}, list{}, list{from("")}, nil, list{from("")}, nil},
		{list{from("")}, list{from("")}, list{from("")}, list{from("")}, nil, nil},
		{list{from("")}, list{to("a", "b")}, list{from("")}, list{to("a", "b")}, list{to("", "a"), from("b")}, nil},
		{list{from("")}, list{from("a")}, list{from("")}, list{from("a")}, list{to("", "a")}, nil},
		{list{from("")}, list{to("", "\x00")}, list{from("")}, list{to("", "\x00")}, list{from("\x00")}, nil},
		// They touch, or there is just one text between.
		{list{to("a", "c")}, list{to("c", "d")}, list{to("a", "d")}, nil, list{to("a", "c")}, list{to("c", "d")}},
		{list{to("a", "c")}, list{from("c")}, list{from("a")}, nil, list{to("a", "c")}, list{from("c")}},
		{list{to("", "c")}, list{from("c")}, list{from("")}, nil, list{to("", "c")}, list{from("c")}},
		{list{to("a", "b")}, list{to("b\x00", "c")}, list{to("a", "b"), to("b\x00", "c")}, nil, list{to("a", "b")}, list{to("b\x00", "c")}},
		{list{to("a", "b"), to("b\x00", "c")}, list{to("b", "b\x00")}, list{to("a", "c")}, nil, list{to("a", "b"), to("b\x00", "c")}, list{to("b", "b\x00")}},
		{list{to("a", "b"), from("b\x00")}, list{to("", "a"), to("b", "b\x00")}, list{from("")}, nil, list{to("a", "b"), from("b\x00")}, list{to("", "a"), to("b", "b\x00")}},
		// They have some texts together, or just one.
		{list{to("a", "c")}, list{to("b", "d")}, list{to("a", "d")}, list{to("b", "c")}, list{to("a", "b")}, list{to("c", "d")}},
		{list{to("a", "b\x00")}, list{to("b", "c")}, list{to("a", "c")}, list{to("b", "b\x00")}, list{to("a", "b")}, list{to("b\x00", "c")}},
		{list{to("a", "c")}, list{from("b")}, list{from("a")}, list{to("b", "c")}, list{to("a", "b")}, list{from("c")}},
		{list{from("a")}, list{from("b")}, list{from("a")}, list{from("b")}, list{to("a", "b")}, nil},
		// The one lies within the other, or begins or ends as it does.
		{list{to("a", "d")}, list{to("b", "c")}, list{to("a", "d")}, list{to("b", "c")}, list{to("a", "b"), to("c", "d")}, nil},
		{list{to("a", "d")}, list{to("a", "c")}, list{to("a", "d")}, list{to("a", "c")}, list{to("c", "d")}, nil},
		{list{to("a", "d")}, list{to("b", "d")}, list{to("a", "d")}, list{to("b", "d")}, list{to("a", "b")}, nil},
		{list{to("a", "d")}, list{to("a", "d")}, list{to("a", "d")}, list{to("a", "d")}, nil, nil},
		{list{to("a", "b")}, list{from("a")}, list{from("a")}, list{to("a", "b")}, nil, list{from("b")}},
		// Several by turns.
		{
			list{to("a", "b"), to("c", "d"), to("e", "f")}, list{to("b", "c"), to("d", "e")},
			list{to("a", "f")}, nil, list{to("a", "b"), to("c", "d"), to("e", "f")}, list{to("b", "c"), to("d", "e")},
		},
		{
			list{to("a", "c"), to("e", "g"), from("x")}, list{to("b", "f")},
			list{to("a", "g"), from("x")}, list{to("b", "c"), to("e", "f")}, list{to("a", "b"), to("f", "g"), from("x")}, list{to("c", "e")},
		},
		// Any order, more than once.
		{
			list{to("e", "g"), to("a", "c"), to("a", "b")}, list{from("f"), to("b", "c"), from("f")},
			list{to("a", "c"), from("e")}, list{to("b", "c"), to("f", "g")}, list{to("a", "b"), to("e", "f")}, list{from("g")},
		},
		{list{to("b", "c"), to("a", "b")}, list{to("b", "d"), to("b", "c")}, list{to("a", "d")}, list{to("b", "c")}, list{to("a", "b")}, list{to("c", "d")}},
		// Edges of just MaxEdge bytes.
		{list{to("", long("k", 17))}, list{from(long("k", 16))}, list{from("")}, list{to(long("k", 16), long("k", 17))}, list{to("", long("k", 16))}, list{from(long("k", 17))}},
		{list{from(long("\xff", 16))}, list{from(long("\xff", 17))}, list{from(long("\xff", 16))}, list{from(long("\xff", 17))}, list{to(long("\xff", 16), long("\xff", 17))}, nil},
		// Byte by byte, as numbers.
		{list{to("a", "\x80")}, list{to("\x7f", "\xff")}, list{to("a", "\xff")}, list{to("\x7f", "\x80")}, list{to("a", "\x7f")}, list{to("\x80", "\xff")}},
	} {
		check(t, "Union", Union(c.a, c.b), c.union, c.a, c.b)
		check(t, "Union", Union(c.b, c.a), c.union, c.b, c.a)
		check(t, "Meet", Meet(c.a, c.b), c.meet, c.a, c.b)
		check(t, "Meet", Meet(c.b, c.a), c.meet, c.b, c.a)
		check(t, "Less", Less(c.a, c.b), c.less, c.a, c.b)
		check(t, "Less", Less(c.b, c.a), c.more, c.b, c.a)
	}
}

// P8.2: Not, of lists that the words name, and back.
func TestNot(t *testing.T) {
	for _, c := range []struct{ l, want list }{
		{nil, list{from("")}}, {list{}, list{from("")}}, {list{from("")}, nil}, {list{from("a")}, list{to("", "a")}},
		{list{to("", "a")}, list{from("a")}}, {list{to("", "\x00")}, list{from("\x00")}}, {list{from("\x00")}, list{to("", "\x00")}},
		{list{to("a", "b")}, list{to("", "a"), from("b")}}, {list{to("a", "a\x00")}, list{to("", "a"), from("a\x00")}},
		{list{to("a", "b"), to("b\x00", "c")}, list{to("", "a"), to("b", "b\x00"), from("c")}},
		{list{to("a", "b"), from("x")}, list{to("", "a"), to("b", "x")}},
		{list{to("", long("k", 17)), from(long("\xff", 17))}, list{to(long("k", 17), long("\xff", 17))}},
	} {
		check(t, "Not", Not(c.l), c.want, c.l)
		check(t, "Not", Not(c.want), Of(c.l...), c.want)
	}
	for _, c := range []struct{ l, want list }{
		{list{to("a", "b"), to("b", "c")}, list{to("", "a"), from("c")}}, {list{to("c", "d"), to("a", "b"), to("c", "d")}, list{to("", "a"), to("b", "c"), from("d")}},
		{list{from("b"), to("", "c")}, nil}, {list{to("a", "d"), to("b", "c")}, list{to("", "a"), from("d")}}, {wrong(), list{from("")}},
	} {
		check(t, "Not", Not(c.l), c.want, c.l)
	}
}

// P8.3: Same and Within, of lists that the words name.
func TestSameWithin(t *testing.T) {
	for _, c := range []struct {
		a, b             list
		aWithin, bWithin bool
	}{
		{nil, nil, true, true}, {nil, list{}, true, true}, {list{}, list{}, true, true}, {nil, list{to("a", "b")}, true, false}, {list{}, list{from("")}, true, false},
		{list{from("")}, list{from("")}, true, true}, {list{from("a")}, list{from("")}, true, false}, {list{to("", "\x00")}, list{from("")}, true, false}, {list{from("\x00")}, list{from("")}, true, false},
		{list{to("a", "b")}, list{to("a", "b")}, true, true}, {list{to("a", "b")}, list{to("b", "c")}, false, false}, {list{to("a", "c")}, list{to("b", "d")}, false, false},
		{list{to("b", "c")}, list{to("a", "d")}, true, false}, {list{to("a", "b")}, list{to("a", "c")}, true, false}, {list{to("b", "c")}, list{to("a", "c")}, true, false},
		{list{to("a", "b")}, list{to("a", "b\x00")}, true, false}, {list{to("a\x00", "b")}, list{to("a", "b")}, true, false}, {list{to("a", "b")}, list{from("a")}, true, false},
		{list{to("a", long("\xff", 17))}, list{from("a")}, true, false},
		// They aren't right, but have the same.
		{list{to("a", "b"), to("b", "c")}, list{to("a", "c")}, true, true}, {list{to("c", "d"), to("a", "b")}, list{to("a", "b"), to("c", "d")}, true, true},
		{list{to("a", "b"), to("a", "b")}, list{to("a", "b")}, true, true}, {list{to("b", "c"), to("a", "d")}, list{to("a", "c"), to("b", "d")}, true, true},
		{list{from("b"), to("", "b")}, list{from("")}, true, true}, {list{from("b"), from("a")}, list{from("a"), to("c", "d")}, true, true},
		// There is just one text between.
		{list{to("a", "b"), to("b\x00", "c")}, list{to("a", "c")}, true, false}, {list{to("a", "b"), from("b\x00")}, list{from("a")}, true, false},
		// What the one range of b hasn't, another one has.
		{list{to("a", "c")}, list{to("a", "b"), to("b", "c")}, true, true}, {list{to("b", "d")}, list{to("a", "c"), to("c", "e")}, true, false}, {list{to("b", "e")}, list{to("a", "c"), to("d", "f")}, false, false},
		{list{to("a", "b"), to("c", "d")}, list{to("a", "b")}, false, true}, {list{to("a", "b"), to("c", "d")}, list{to("c", "d"), to("e", "f")}, false, false},
		{list{to("a", "b"), to("c", "d")}, list{to("", "x")}, true, false},
		// What isn't right, has nothing.
		{wrong(), nil, true, true}, {wrong(), wrong()[:1], true, true}, {append(wrong(), to("a", "b")), list{to("a", "b")}, true, true}, {wrong(), list{to("a", "b")}, true, false},
	} {
		if got, want := Same(c.a, c.b), c.aWithin && c.bWithin; got != want || Same(c.b, c.a) != want {
			t.Errorf("Same(%#v, %#v) = %t, and turned round %t, want %t", c.a, c.b, got, Same(c.b, c.a), want)
		}
		if got := Within(c.a, c.b); got != c.aWithin {
			t.Errorf("Within(%#v, %#v) = %t, want %t", c.a, c.b, got, c.aWithin)
		}
		if got := Within(c.b, c.a); got != c.bWithin {
			t.Errorf("Within(%#v, %#v) = %t, want %t", c.b, c.a, got, c.bWithin)
		}
	}
}

// P8.2 and P8.3: what isn't right, as each argument of each call, wherever it stands: as if it weren't there.
func TestTwoWrong(t *testing.T) {
	a, b := list{to("b", "e"), from("x")}, list{to("a", "c"), to("d", "f")}
	for _, r := range wrong() {
		check(t, "Not", Not(list{r}), list{from("")}, list{r})
		for i := range len(a) + 1 {
			p, q := slices.Insert(slices.Clone(a), i, r), slices.Insert(slices.Clone(b), i, r)
			check(t, "Not", Not(p), Not(a), p)
			for _, c := range [][2]list{{p, b}, {a, q}, {p, q}} {
				check(t, "Union", Union(c[0], c[1]), list{to("a", "f"), from("x")}, c[0], c[1])
				check(t, "Meet", Meet(c[0], c[1]), list{to("b", "c"), to("d", "e")}, c[0], c[1])
				check(t, "Less", Less(c[0], c[1]), list{to("c", "d"), from("x")}, c[0], c[1])
				check(t, "Less", Less(c[1], c[0]), list{to("a", "b"), to("e", "f")}, c[1], c[0])
			}
			if !Same(p, a) || !Same(b, q) || Same(p, q) || !Within(p, a) || !Within(a, p) || Within(p, q) || Within(q, p) {
				t.Errorf("Same and Within of %#v and %#v", p, q)
			}
		}
		for _, none := range []list{nil, {}, {r}, {r, r}} {
			check(t, "Union", Union(none, a), a, none, a)
			check(t, "Meet", Meet(none, a), nil, none, a)
			check(t, "Less", Less(none, a), nil, none, a)
			check(t, "Less", Less(a, none), a, a, none)
			if !Same(none, list{r}) || !Within(none, list{r}) || !Within(none, a) || Within(a, none) || Same(a, none) || Same(none, a) {
				t.Errorf("Same and Within of %#v", none)
			}
		}
	}
}

// checkOne holds all that is asked of one list against the chapter's words.
func checkOne(t *testing.T, l list, texts []string) {
	t.Helper()
	in := had(l, texts)
	if got, want := Right(l), rightByWords(l, texts); got != want {
		t.Fatalf("Right(%#v) = %t, want %t", l, got, want)
	}
	for i, s := range texts {
		if got := Has(l, s); got != in[i] {
			t.Fatalf("Has(%#v, %#v) = %t, want %t", l, s, got, in[i])
		}
	}
	check(t, "Of", Of(l...), sample.List(in, texts), l)
	check(t, "Not", Not(l), sample.List(each(in, in, func(a, _ bool) bool { return !a }), texts), l)
}

// checkTwo holds all that is asked of two lists against the chapter's words.
func checkTwo(t *testing.T, a, b list, texts []string) {
	t.Helper()
	inA, inB := had(a, texts), had(b, texts)
	less := each(inA, inB, func(a, b bool) bool { return a && !b })
	check(t, "Union", Union(a, b), sample.List(each(inA, inB, func(a, b bool) bool { return a || b }), texts), a, b)
	check(t, "Meet", Meet(a, b), sample.List(each(inA, inB, func(a, b bool) bool { return a && b }), texts), a, b)
	check(t, "Less", Less(a, b), sample.List(less, texts), a, b)
	if got, want := Same(a, b), slices.Equal(inA, inB); got != want {
		t.Fatalf("Same(%#v, %#v) = %t, want %t", a, b, got, want)
	}
	if got, want := Within(a, b), !slices.Contains(less, true); got != want {
		t.Fatalf("Within(%#v, %#v) = %t, want %t", a, b, got, want)
	}
}

// P8.1 and P8.2: Right, Has, Of and Not, as the words say, of all lists of up to three ranges, right or not, by four edges.
func TestOneByWords(t *testing.T) {
	texts := []string{"", "a", "a\x00", "b"}
	for _, l := range sample.Lists(all(texts), 3) {
		checkOne(t, l, texts)
	}
}

// P8.2 and P8.3: Union, Meet, Less, Same and Within, as the words say, of all pairs of lists of up to two ranges.
func TestTwoByWords(t *testing.T) {
	texts := []string{"", "a", "a\x00", "b"}
	some := sample.Lists(append(rightOnes(all(texts)), api.Range{}, to("b", "a"), api.Range{Lo: "a", Hi: "b", Open: true}), 2)
	for _, a := range some {
		for _, b := range some {
			checkTwo(t, a, b, texts)
		}
	}
}

// P8.1 to P8.3: all calls, as the words say, of longer lists by all edges that matter.
func TestLongerByWords(t *testing.T) {
	texts := edges()
	for seed := range 20000 {
		a, b := drawn(2*seed, texts), drawn(2*seed+1, texts)
		checkOne(t, a, texts)
		checkTwo(t, a, b, texts)
	}
}

// P8.1 to P8.3: what is answered has just the texts that it should, also such as stand between the edges, and far behind them.
func TestProbes(t *testing.T) {
	probes := sample.Near(edges())
	for seed := range 2000 {
		a, b := drawn(2*seed, edges()), drawn(2*seed+1, edges())
		of, not, union, meet, less := Of(a...), Not(a), Union(a, b), Meet(a, b), Less(a, b)
		for _, s := range probes {
			inA, inB := hasByWords(a, s), hasByWords(b, s)
			if Has(a, s) != inA || Has(of, s) != inA || Has(not, s) == inA || Has(union, s) != (inA || inB) || Has(meet, s) != (inA && inB) || Has(less, s) != (inA && !inB) {
				t.Fatalf("%#v and %#v, of the text %#v", a, b, s)
			}
		}
	}
}

// P8.4: each set of texts has one right list, and no other one: so lists are the same, if they have the same.
func TestRightOnce(t *testing.T) {
	texts := []string{"", "\x00", "a", "a\x00", long("k", 17)}
	var right []list
	for _, l := range sample.Lists(rightOnes(all(texts)), 3) {
		if Right(l) {
			right = append(right, l)
		}
	}
	// A right list of ranges by n edges stands for each set of what begins at one of them, and there are three ranges at most.
	if len(right) != 32 {
		t.Errorf("%d right lists of ranges by %d edges, want 32", len(right), len(texts))
	}
	for i, a := range right {
		for j, b := range right {
			alike := slices.Equal(had(a, texts), had(b, texts))
			if alike != (i == j) || slices.Equal(a, b) != alike || Same(a, b) != alike {
				t.Fatalf("%#v and %#v: alike %t, Same %t", a, b, alike, Same(a, b))
			}
		}
	}
}

// P8.4: what is answered for the same texts, on whatever way, is the same, range by range.
func TestWays(t *testing.T) {
	texts := edges()
	for seed := range 5000 {
		a, b := drawn(2*seed, texts), drawn(2*seed+1, texts)
		turned := slices.Clone(a)
		slices.Reverse(turned)
		of := Of(a...)
		for _, l := range []list{Of(turned...), Of(append(turned, a...)...), Of(of...), Not(Not(a)), Union(a, nil), Union(nil, turned), Meet(a, list{from("")}), Less(a, nil), Union(Meet(a, b), Less(a, b)), Less(Union(a, b), Less(b, a)), Meet(a, a), Union(turned, a)} {
			check(t, "another way", l, of, a, b)
			if !Same(l, a) || !Within(l, turned) || !Within(turned, l) {
				t.Fatalf("Same and Within of %#v and %#v", l, a)
			}
		}
		check(t, "Not of Union", Not(Union(a, b)), Meet(Not(a), Not(b)), a, b)
	}
}

// P8.1 to P8.3, and rule 5: what is handed in is as it was, also behind its end.
func TestHandedIn(t *testing.T) {
	kept := list{to("c", "e"), to("a", "d"), {}, from("x"), to("a", "d"), to("z", "zz"), to("b", "a")}
	a, b := slices.Clone(kept), slices.Clone(kept)
	slices.Reverse(b)
	reversed := slices.Clone(b)
	for n := range len(kept) + 1 {
		Right(a[:n])
		Has(a[:n], "b")
		Of(a[:n]...)
		Not(a[:n])
		Union(a[:n], b[:n])
		Meet(a[:n], b[:n])
		Less(a[:n], b[:n])
		Same(a[:n], b[:n])
		Within(a[:n], b[:n])
		if !slices.Equal(a, kept) || !slices.Equal(b, reversed) {
			t.Fatalf("of %d ranges: %#v and %#v", n, a, b)
		}
	}
}

// P8.1 and P8.2: what is answered is new: who writes into it, changes nothing that was handed in.
func TestAnswersAreNew(t *testing.T) {
	for _, kept := range []list{{to("a", "b")}, {from("")}, {to("a", "b"), to("c", "d"), from("x")}, {to("", "a"), to("b", "c")}} {
		for _, call := range []func(a, b list) list{
			func(a, _ list) list { return Of(a...) },
			func(a, _ list) list { return Not(a) },
			func(a, _ list) list { return Union(a, nil) },
			func(_, b list) list { return Union(nil, b) },
			func(a, b list) list { return Union(a, b) },
			func(a, b list) list { return Meet(a, b) },
			func(a, _ list) list { return Less(a, nil) },
		} {
			a, b := slices.Grow(slices.Clone(kept), 8), slices.Grow(slices.Clone(kept), 8)
			got := call(a, b)
			for i := range got {
				got[i] = to("over", "written")
			}
			_ = append(got, to("over", "written"))
			if !slices.Equal(a, kept) || !slices.Equal(b, kept) {
				t.Fatalf("%#v and %#v, want %#v", a, b, kept)
			}
		}
	}
}

// P8.1 to P8.3: many ranges, in an order that is none.
func TestMany(t *testing.T) {
	const n = 1 << 14
	name := func(i int) string { return fmt.Sprintf("%05d", i) }
	var odd, even list
	for i := range n {
		// 5 and n have nothing in common, so each place comes once.
		k := i * 5 % n
		odd = append(odd, to(name(2*k+1), name(2*k+2)))
		even = append(even, to(name(2*k), name(2*k+1)))
	}
	if got := Of(odd...); len(got) != n || !Right(got) || Right(odd) {
		t.Errorf("Of %d ranges apart: %d", n, len(got))
	}
	check(t, "Union", Union(odd, even), list{to(name(0), name(2*n))})
	check(t, "Meet", Meet(odd, even), nil)
	check(t, "Less", Less(list{to(name(0), name(2*n))}, odd), Of(even...))
	check(t, "Not", Not(append(odd, even...)), list{to("", name(0)), from(name(2 * n))})
	if Same(odd, even) || !Same(odd, Of(odd...)) || Within(odd, even) || !Within(odd, append(even, odd...)) {
		t.Error("Same and Within of many")
	}
}
