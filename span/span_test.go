package span

import (
	"slices"
	"strings"
	"testing"

	"winnower/api"
	"winnower/sample"
)

// What ranges are made by here: the tests of several layers have it together.
var to, from, long, wrong, all, rightByWords = sample.To, sample.From, sample.Long, sample.Wrong, sample.All, sample.RightRange

// edges are texts by which ranges begin and end, in order: some are too long for it.
func edges() []string {
	l := []string{
		"", "\x00", "\x00\x00", "a", "a\x00", "a\xff", "b", "\x7f", "\x80", "\xff", "\xff\x00", "\xff\xff",
		long("k", 16), long("k", 17), long("k", 18), long("\xff", 16), long("\xff", 17), long("\xff", 18),
	}
	slices.Sort(l)
	return l
}

// probes are texts of which ranges by those edges are asked, in order.
func probes() []string {
	return sample.Near(edges())
}

// hasByWords is what the chapter says that a range has.
func hasByWords(r api.Range, s string) bool {
	return sample.HasText([]api.Range{r}, s)
}

// had are the places of the texts that a range has, of some.
func had(r api.Range, texts []string) []int {
	var l []int
	for i, s := range texts {
		if hasByWords(r, s) {
			l = append(l, i)
		}
	}
	return l
}

// meetByWords is the right range by some texts that has just those at these places.
func meetByWords(both []int, texts []string) (api.Range, bool) {
	if len(both) == 0 {
		return api.Range{}, false
	}
	first, behind := both[0], both[len(both)-1]+1
	if behind == len(texts) {
		return from(texts[first]), true
	}
	return to(texts[first], texts[behind]), true
}

// aheadByWords is whether a ends ahead of b: one of some texts is ahead of b's end, and all of a ahead of that.
func aheadByWords(a, b api.Range, texts []string) bool {
	in := had(a, texts)
	for i, s := range texts {
		if (b.Open || s < b.Hi) && in[len(in)-1] < i {
			return true
		}
	}
	return false
}

// endsByWords is what the chapter says Ends is.
func endsByWords(a, b api.Range, texts []string) int {
	switch {
	case !rightByWords(a) || !rightByWords(b):
		return 0
	case aheadByWords(a, b, texts):
		return -1
	case aheadByWords(b, a, texts):
		return 1
	}
	return 0
}

// P7.1: Right, of those that the words name.
func TestRight(t *testing.T) {
	for _, r := range []api.Range{
		from(""), from("a"), from("\x00"), from("\xff"), from(long("\xff", 17)), from(long("a", 17)),
		to("", "\x00"), to("", "a"), to("", "\xff"), to("a", "a\x00"), to("a", "b"), to("a", "b\x00"), to("a\xff", "b"),
		to("\x00", "\x00\x00"), to("\x00", "\x01"), to("\x7f", "\x80"), to("\xfe", "\xff"), to("\xff", "\xff\x00"), to("Z", "a"), to("10", "9"),
		to(long("k", 16), long("k", 17)), to(long("a", 17), long("b", 17)), to("", long("\xff", 17)), to("", long("\x00", 17)),
		to(strings.Repeat("é", 8), strings.Repeat("é", 8)+"a"),
	} {
		if !Right(r) {
			t.Errorf("Right(%#v) = false, want true", r)
		}
	}
	for _, r := range wrong() {
		if Right(r) {
			t.Errorf("Right(%#v) = true, want false", r)
		}
	}
	// Edges are counted by bytes, and not by signs.
	if r := to("a", strings.Repeat("é", 9)); Right(r) {
		t.Errorf("Right(%#v) = true, want false", r)
	}
}

// P7.1: Right, at each length of Lo and of Hi.
func TestRightSizes(t *testing.T) {
	for n := range 40 {
		s := long("k", n)
		for _, c := range []struct {
			r    api.Range
			want bool
		}{
			{to(s, "l"), n <= api.MaxEdge},
			{from(s), n <= api.MaxEdge},
			{to("a", s), 1 <= n && n <= api.MaxEdge},
			{to("", s), 1 <= n && n <= api.MaxEdge},
			{to(s, s+"\x00"), n+1 <= api.MaxEdge},
			{to(s, s), false},
			{api.Range{Hi: s, Open: true}, n == 0},
		} {
			if got := Right(c.r); got != c.want {
				t.Errorf("Right(%#v) = %t, want %t", c.r, got, c.want)
			}
		}
	}
}

// P7.1: Has, of those that the words name.
func TestHas(t *testing.T) {
	for _, c := range []struct {
		r    api.Range
		s    string
		want bool
	}{
		// Lo itself, and not Hi itself.
		{to("b", "d"), "b", true},
		{to("b", "d"), "c", true},
		{to("b", "d"), "d", false},
		{to("b", "d"), "a", false},
		{to("b", "d"), "e", false},
		{to("b", "d"), "", false},
		{to("b", "d"), "b\x00", true},
		{to("b", "d"), "c\xff\xff", true},
		{to("b", "d"), "a\xff\xff", false},
		{to("b", "d"), "d\x00", false},
		{to("", "\x00"), "", true},
		{to("", "\x00"), "\x00", false},
		{to("", "a"), "", true},
		{to("a", "a\x00"), "a", true},
		{to("a", "a\x00"), "a\x00", false},
		{to("a", "a\x00"), "", false},
		// Open ones.
		{from(""), "", true},
		{from(""), "\xff\xff", true},
		{from("b"), "b", true},
		{from("b"), "a\xff", false},
		{from("b"), "", false},
		{from("b"), "c", true},
		{from("b"), long("\xff", 100), true},
		{from("\xff"), "\xff", true},
		{from("\xff"), "\xff\x00", true},
		{from("\xff"), "\xfe\xff", false},
		// Byte by byte, as numbers.
		{to("\x7f", "\x81"), "\x80", true},
		{to("a", "\xff"), "é", true},
		{to("\x80", "\x82"), "\uFFFD", false},
		{to("a", "b"), "A", false},
		// Texts that are no edges.
		{to("a", "b"), long("a", 18), true},
		{to("a", "b"), long("a", 1<<20), true},
		{to("a", "b"), long("b", 1<<20), false},
		{to(long("k", 16), long("k", 17)), long("k", 16) + "a", true},
		{to(long("k", 16), long("k", 17)), long("k", 18), false},
		{to(long("k", 17), "l"), long("k", 18), true},
	} {
		if got := Has(c.r, c.s); got != c.want {
			t.Errorf("Has(%#v, %#v) = %t, want %t", c.r, c.s, got, c.want)
		}
	}
}

// P7.1: a range that isn't right has nothing, also not its Lo, nor what stands between its ends.
func TestHasWrong(t *testing.T) {
	for _, r := range wrong() {
		for _, s := range append(probes(), r.Lo, r.Hi, r.Lo+"\x00", r.Lo+"\xff", "aa") {
			if Has(r, s) {
				t.Errorf("Has(%#v, %#v) = true, want false", r, s)
			}
		}
	}
}

// P7.1: Right and Has, as the words say, of all ranges by edges that matter.
func TestHasByWords(t *testing.T) {
	texts := probes()
	for _, r := range all(edges()) {
		if got, want := Right(r), rightByWords(r); got != want {
			t.Fatalf("Right(%#v) = %t, want %t", r, got, want)
		}
		for _, s := range texts {
			if got, want := Has(r, s), hasByWords(r, s); got != want {
				t.Fatalf("Has(%#v, %#v) = %t, want %t", r, s, got, want)
			}
		}
	}
}

// P7.2: All has all texts.
func TestAll(t *testing.T) {
	if got := All(); got != from("") || !Right(got) {
		t.Errorf("All() = %#v", got)
	}
	for _, s := range append(probes(), long("a", 1<<20)) {
		if !Has(All(), s) {
			t.Errorf("All hasn't %#v", s)
		}
	}
}

// P7.2: Of has just its text.
func TestOf(t *testing.T) {
	for _, c := range []struct {
		k    string
		want api.Range
	}{
		{"", to("", "\x00")},
		{"a", to("a", "a\x00")},
		{"\x00", to("\x00", "\x00\x00")},
		{"a\x00", to("a\x00", "a\x00\x00")},
		{"\xff", to("\xff", "\xff\x00")},
		{"a\xff", to("a\xff", "a\xff\x00")},
		{"\xff\xff", to("\xff\xff", "\xff\xff\x00")},
		{"\x80", to("\x80", "\x80\x00")},
		// Of just MaxKey bytes, and of one more.
		{long("k", 16), to(long("k", 16), long("k", 16)+"\x00")},
		{long("\xff", 16), to(long("\xff", 16), long("\xff", 16)+"\x00")},
		{long("\x00", 16), to(long("\x00", 16), long("\x00", 17))},
		{strings.Repeat("é", 8), to(strings.Repeat("é", 8), strings.Repeat("é", 8)+"\x00")},
		{long("k", 17), api.Range{}},
		{long("\xff", 17), api.Range{}},
		{long("\x00", 17), api.Range{}},
		{strings.Repeat("é", 9), api.Range{}},
		{long("k", 18), api.Range{}},
		{long("k", 1<<20), api.Range{}},
	} {
		if got := Of(c.k); got != c.want {
			t.Errorf("Of(%#v) = %#v, want %#v", c.k, got, c.want)
		}
	}
}

// P7.2: Prefix has those that begin with its text.
func TestPrefix(t *testing.T) {
	for _, c := range []struct {
		p    string
		want api.Range
	}{
		{"", from("")},
		{"a", to("a", "b")},
		{"ab", to("ab", "ac")},
		{"\x00", to("\x00", "\x01")},
		{"a\x00", to("a\x00", "a\x01")},
		{"\x7f", to("\x7f", "\x80")},
		{"é", to("é", "ê")},
		{"\xfe", to("\xfe", "\xff")},
		{"a\xff", to("a\xff", "b")},
		{"a\xff\xff", to("a\xff\xff", "b")},
		{"\xffa", to("\xffa", "\xffb")},
		// Behind bytes 255 alone there is nothing.
		{"\xff", from("\xff")},
		{"\xff\xff", from("\xff\xff")},
		{long("\xff", 16), from(long("\xff", 16))},
		// Of just MaxKey bytes, and of one more.
		{long("k", 16), to(long("k", 16), long("k", 15)+"l")},
		{"k" + long("\xff", 15), to("k"+long("\xff", 15), "l")},
		{long("\x00", 16), to(long("\x00", 16), long("\x00", 15)+"\x01")},
		{strings.Repeat("é", 8), to(strings.Repeat("é", 8), strings.Repeat("é", 7)+"ê")},
		{long("k", 17), api.Range{}},
		{"k" + long("\xff", 16), api.Range{}},
		{long("\xff", 17), api.Range{}},
		{strings.Repeat("é", 9), api.Range{}},
		{long("k", 18), api.Range{}},
		{long("\xff", 18), api.Range{}},
		{long("k", 1<<20), api.Range{}},
	} {
		if got := Prefix(c.p); got != c.want {
			t.Errorf("Prefix(%#v) = %#v, want %#v", c.p, got, c.want)
		}
	}
}

// P7.2: Of and Prefix, of each byte at a text's end, and of texts of each length: right, up to MaxKey, and with what the words say.
func TestOfPrefixByWords(t *testing.T) {
	some := probes()
	for x := range 256 {
		for n := range 20 {
			some = append(some, long("k", n)+string([]byte{byte(x)}), long("\xff", n)+string([]byte{byte(x)}))
		}
	}
	texts := probes()
	for _, p := range some {
		of, prefix := Of(p), Prefix(p)
		if short := len(p) <= 16; rightByWords(of) != short || rightByWords(prefix) != short {
			t.Fatalf("Of and Prefix of %#v: %#v, %#v", p, of, prefix)
		}
		for _, s := range append(texts, p, p+"\x00", p+"\xff", p+long("\xff", 40)) {
			short := len(p) <= 16
			if got := Has(of, s); got != (short && s == p) {
				t.Fatalf("Of(%#v) = %#v has %#v: %t", p, of, s, got)
			}
			if got := Has(prefix, s); got != (short && strings.HasPrefix(s, p)) {
				t.Fatalf("Prefix(%#v) = %#v has %#v: %t", p, prefix, s, got)
			}
		}
	}
}

// P7.3: Meet, of those that the words name, whichever stands first.
func TestMeet(t *testing.T) {
	for _, c := range []struct{ a, b, want api.Range }{
		{to("a", "m"), from("c"), to("c", "m")},
		{to("a", "c"), to("b", "d"), to("b", "c")},
		{from("a"), from("b"), from("b")},
		{from(""), from(""), from("")},
		{from(""), to("a", "b"), to("a", "b")},
		// The one lies within the other.
		{to("a", "d"), to("b", "c"), to("b", "c")},
		{to("a", "d"), to("a", "d"), to("a", "d")},
		{to("a", "d"), to("a", "b"), to("a", "b")},
		{to("a", "d"), to("c", "d"), to("c", "d")},
		{from("a"), to("a", "b"), to("a", "b")},
		{from("a"), to("b", "c"), to("b", "c")},
		{from("b"), to("a", "c"), to("b", "c")},
		// They have just one text together.
		{to("a", "b\x00"), to("b", "c"), to("b", "b\x00")},
		{to("a", "b\x00"), from("b"), to("b", "b\x00")},
		{to("", "\x00"), from(""), to("", "\x00")},
		{to("", "\x00"), to("", "a"), to("", "\x00")},
		{to(long("k", 16), long("k", 16)+"\x00"), from(long("k", 16)), to(long("k", 16), long("k", 16)+"\x00")},
		// Edges of just MaxEdge bytes.
		{to("", long("k", 17)), from(long("k", 16)), to(long("k", 16), long("k", 17))},
		{from(long("\xff", 16)), from(long("\xff", 17)), from(long("\xff", 17))},
		// Byte by byte, as numbers.
		{to("a", "\x80"), to("\x7f", "\xff"), to("\x7f", "\x80")},
		{to("\x00", "\xff\x00"), from("\xff"), to("\xff", "\xff\x00")},
	} {
		if got, ok := Meet(c.a, c.b); !ok || got != c.want {
			t.Errorf("Meet(%#v, %#v) = %#v, %t, want %#v, true", c.a, c.b, got, ok, c.want)
		}
		if got, ok := Meet(c.b, c.a); !ok || got != c.want {
			t.Errorf("Meet(%#v, %#v) = %#v, %t, want %#v, true", c.b, c.a, got, ok, c.want)
		}
	}
}

// P7.3: Meet of ranges that have no text together: they touch, or there is more between.
func TestMeetNone(t *testing.T) {
	for _, c := range []struct{ a, b api.Range }{
		{to("a", "c"), from("c")},
		{to("a", "c"), to("c", "d")},
		{to("a", "b"), to("c", "d")},
		{to("a", "b"), from("c")},
		{to("a", "b"), to("b\x00", "c")},
		{to("", "\x00"), from("\x00")},
		{to("", "\x00"), to("\x00", "\x00\x00")},
		{to("a", "a\x00"), to("a\x00", "b")},
		{to("a", "\xff"), from("\xff")},
		{to("", long("k", 17)), from(long("k", 17))},
		{to("", long("\xff", 17)), from(long("\xff", 17))},
	} {
		if got, ok := Meet(c.a, c.b); ok || got != (api.Range{}) {
			t.Errorf("Meet(%#v, %#v) = %#v, %t, want the zero one, false", c.a, c.b, got, ok)
		}
		if got, ok := Meet(c.b, c.a); ok || got != (api.Range{}) {
			t.Errorf("Meet(%#v, %#v) = %#v, %t, want the zero one, false", c.b, c.a, got, ok)
		}
	}
}

// P7.3: Meet and Ends of a range that isn't right, as each argument: there is nothing.
func TestMeetEndsWrong(t *testing.T) {
	for _, r := range wrong() {
		for _, o := range append(all(edges()), wrong()...) {
			for _, c := range [][2]api.Range{{r, o}, {o, r}, {r, r}} {
				if got, ok := Meet(c[0], c[1]); ok || got != (api.Range{}) {
					t.Fatalf("Meet(%#v, %#v) = %#v, %t, want the zero one, false", c[0], c[1], got, ok)
				}
				if got := Ends(c[0], c[1]); got != 0 {
					t.Fatalf("Ends(%#v, %#v) = %d, want 0", c[0], c[1], got)
				}
			}
		}
	}
}

// P7.3: Ends, of those that the words name, whichever stands first.
func TestEnds(t *testing.T) {
	for _, c := range []struct {
		a, b api.Range
		want int
	}{
		{to("a", "b"), to("a", "c"), -1},
		{to("a", "b"), to("b", "c"), -1},
		{to("a", "b"), to("c", "d"), -1},
		{to("b", "c"), to("a", "d"), -1},
		{to("a", "b"), to("a", "b\x00"), -1},
		{to("a", "b\x00"), to("", "b\xff"), -1},
		{to("", "\x00"), to("", "\x00\x00"), -1},
		{to("a", "\x7f"), to("a", "\x80"), -1},
		{to("a", "\xfe"), to("a", "\xff"), -1},
		{to("", long("k", 16)), to("", long("k", 17)), -1},
		{to("a", "b"), from("a"), -1},
		{to("a", "b"), from(""), -1},
		{to("a", "b"), from("c"), -1},
		{to("a", "b"), from("b"), -1},
		// However far a range goes that isn't Open, one that is goes behind it.
		{to("", long("\xff", 17)), from("a"), -1},
		{to("a", long("\xff", 17)), from(long("\xff", 17)), -1},
		{to("", "\x00"), from(""), -1},
		// Wherever they begin, they end alike.
		{to("a", "c"), to("a", "c"), 0},
		{to("a", "c"), to("b", "c"), 0},
		{to("", "c"), to("b\xff", "c"), 0},
		{to("", "\x00"), to("", "\x00"), 0},
		{to("", long("\xff", 17)), to("a", long("\xff", 17)), 0},
		{from(""), from(""), 0},
		{from(""), from("a"), 0},
		{from("a"), from(long("\xff", 17)), 0},
	} {
		if got := Ends(c.a, c.b); got != c.want {
			t.Errorf("Ends(%#v, %#v) = %d, want %d", c.a, c.b, got, c.want)
		}
		if got := Ends(c.b, c.a); got != -c.want {
			t.Errorf("Ends(%#v, %#v) = %d, want %d", c.b, c.a, got, -c.want)
		}
	}
}

// P7.3: Meet and Ends, as the words say, of all pairs of ranges by edges that matter.
func TestMeetEndsByWords(t *testing.T) {
	texts := edges()
	ranges := all(texts)
	in := make([][]int, len(ranges))
	for i, r := range ranges {
		in[i] = had(r, texts)
	}
	for i, a := range ranges {
		for j, b := range ranges {
			both := slices.DeleteFunc(slices.Clone(in[i]), func(k int) bool { return !slices.Contains(in[j], k) })
			want, some := meetByWords(both, texts)
			got, ok := Meet(a, b)
			if ok != some || got != want || ok && !Right(got) {
				t.Fatalf("Meet(%#v, %#v) = %#v, %t, want %#v, %t", a, b, got, ok, want, some)
			}
			if got, want := Ends(a, b), endsByWords(a, b, texts); got != want {
				t.Fatalf("Ends(%#v, %#v) = %d, want %d", a, b, got, want)
			}
		}
	}
}

// P7.1 and P7.3: Meet has just what both have, of texts near the edges and far from them.
func TestMeetHas(t *testing.T) {
	texts := probes()
	ranges := slices.DeleteFunc(all(edges()), func(r api.Range) bool { return !rightByWords(r) })
	for _, a := range ranges {
		for _, b := range ranges {
			m, _ := Meet(a, b)
			for _, s := range texts {
				if got, want := Has(m, s), hasByWords(a, s) && hasByWords(b, s); got != want {
					t.Fatalf("Meet(%#v, %#v) = %#v has %#v: %t, want %t", a, b, m, s, got, want)
				}
			}
		}
	}
}

// P7.2 and P7.3: what Of, Prefix and All answer, met and held by their ends.
func TestTogether(t *testing.T) {
	for _, k := range []string{"", "\x00", "a", "a\x00", "a\xff", "\xff", "\xff\xff", long("k", 16), long("\xff", 16)} {
		if m, ok := Meet(Of(k), Prefix(k)); !ok || m != Of(k) {
			t.Errorf("Meet(Of(%#v), Prefix(%#v)) = %#v, %t", k, k, m, ok)
		}
		if m, ok := Meet(All(), Prefix(k)); !ok || m != Prefix(k) {
			t.Errorf("Meet(All(), Prefix(%#v)) = %#v, %t", k, m, ok)
		}
		if got := Ends(Of(k), Prefix(k)); got != -1 {
			t.Errorf("Ends(Of(%#v), Prefix(%#v)) = %d, want -1", k, k, got)
		}
		want := 1
		if k == long("\xff", len(k)) {
			want = 0
		}
		if got := Ends(All(), Prefix(k)); got != want {
			t.Errorf("Ends(All(), Prefix(%#v)) = %d, want %d", k, got, want)
		}
	}
	for _, r := range []api.Range{Of(long("k", 17)), Prefix(long("k", 17))} {
		if m, ok := Meet(All(), r); ok || m != (api.Range{}) || Ends(All(), r) != 0 || Ends(r, All()) != 0 || Right(r) {
			t.Errorf("the range of what is too long: %#v", r)
		}
	}
}
