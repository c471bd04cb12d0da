package key

import (
	"slices"
	"strings"
	"testing"

	"winnower/api"
	"winnower/sample"
)

// What texts are made by here: the tests of several layers have it together.
var eachOf, every = sample.EachOf, sample.Every

// ends are the bytes that matter: the least and the greatest ones, and some between, of which some are no right UTF-8.
const ends = "\x00\x01a\x7f\x80\xfe\xff"

// upTo are all texts of at most so many bytes out of some.
func upTo(n int, some string) []string {
	var l []string
	for k := range n + 1 {
		eachOf(k, some, func(s string) { l = append(l, s) })
	}
	return l
}

// mixed is a text of n bytes that look mixed, the same each time.
func mixed(n int, seed uint32) string {
	b := make([]byte, n)
	for i := range b {
		seed = seed*1664525 + 1013904223
		b[i] = byte(seed >> 24)
	}
	return string(b)
}

// cmpByWords is what the chapter says Cmp is, byte by byte.
func cmpByWords(a, b string) int {
	for i := 0; ; i++ {
		switch {
		case i == len(a) && i == len(b):
			return 0
		case i == len(a):
			return -1
		case i == len(b):
			return 1
		case int(a[i]) < int(b[i]):
			return -1
		case int(a[i]) > int(b[i]):
			return 1
		}
	}
}

// behindAll tells that s stands behind all texts that begin with p: it is behind p, and doesn't begin with it, so a greater byte stands in it where all of them have p's.
func behindAll(s, p string) bool {
	return cmpByWords(s, p) > 0 && !strings.HasPrefix(s, p)
}

// commonByWords is what the chapter says Common is: of what begins the first one, the longest with which all begin.
func commonByWords(l []string) string {
	if len(l) == 0 {
		return ""
	}
	for n := len(l[0]); ; n-- {
		p := l[0][:n]
		if !slices.ContainsFunc(l, func(s string) bool { return !strings.HasPrefix(s, p) }) {
			return p
		}
	}
}

// checkCommon checks Common of a list as the words say, whatever its order is.
func checkCommon(t *testing.T, l ...string) {
	t.Helper()
	want := commonByWords(l)
	if got := Common(l...); got != want {
		t.Fatalf("Common(%q) = %q, want %q", l, got, want)
	}
	turned := slices.Clone(l)
	slices.Reverse(turned)
	if got := Common(turned...); got != want {
		t.Fatalf("Common(%q) = %q, want %q", turned, got, want)
	}
}

// P6.1: Right and Edge, of texts of each size up to some, of any bytes.
func TestSizes(t *testing.T) {
	for n := range 100 {
		for _, s := range []string{
			strings.Repeat("a", n), strings.Repeat("\x00", n), strings.Repeat("\xff", n), strings.Repeat("\n", n), mixed(n, uint32(n)),
		} {
			if got, want := Right(s), 1 <= n && n <= 16; got != want {
				t.Errorf("Right(%q) = %t of %d bytes, want %t", s, got, n, want)
			}
			if got, want := Edge(s), n <= 17; got != want {
				t.Errorf("Edge(%q) = %t of %d bytes, want %t", s, got, n, want)
			}
		}
	}
	long := strings.Repeat("a", 1<<20)
	if Right(long) || Edge(long) {
		t.Error("a very long text is a key or an edge")
	}
}

// P6.1: Right and Edge, at the limits, count bytes, and not signs of which one has several.
func TestSizesByByte(t *testing.T) {
	for _, c := range []struct {
		s           string
		right, edge bool
	}{
		{"", false, true},
		{"a", true, true},
		{"\x00", true, true},
		{"\xff", true, true},
		{"0123456789abcdef", true, true},
		{"0123456789abcdefg", false, true},
		{"0123456789abcdefgh", false, false},
		{strings.Repeat("é", 8), true, true},
		{strings.Repeat("é", 8) + "a", false, true},
		{strings.Repeat("é", 9), false, false},
		{strings.Repeat("日", 5) + "a", true, true},
		{strings.Repeat("日", 6), false, false},
		{strings.Repeat("\xff", api.MaxKey), true, true},
		{strings.Repeat("\xff", api.MaxEdge), false, true},
		{strings.Repeat("\xff", api.MaxEdge+1), false, false},
	} {
		if got := Right(c.s); got != c.right {
			t.Errorf("Right(%q) = %t, want %t", c.s, got, c.right)
		}
		if got := Edge(c.s); got != c.edge {
			t.Errorf("Edge(%q) = %t, want %t", c.s, got, c.edge)
		}
	}
}

// P6.1: Cmp, of pairs that the words name.
func TestCmp(t *testing.T) {
	for _, c := range []struct {
		a, b string
		want int
	}{
		{"", "", 0},
		{"a", "a", 0},
		{"\x00", "\x00", 0},
		{"\xff\x80", "\xff\x80", 0},
		{"a", "b", -1},
		{"ab", "b", -1},
		{"a", "ba", -1},
		{"A", "a", -1},
		{"Z", "a", -1},
		{"10", "9", -1},
		// A text stands ahead of what begins with it.
		{"", "\x00", -1},
		{"", "a", -1},
		{"a", "aa", -1},
		{"a", "a\x00", -1},
		{"ab", "ab\x00", -1},
		{"\xff", "\xff\x00", -1},
		{"\xff", "\xff\xff", -1},
		// Bytes are numbers from 0 on, and not from below it.
		{"\x00", "\x01", -1},
		{"\x7f", "\x80", -1},
		{"\x00", "\xff", -1},
		{"a", "\xff", -1},
		{"\xfe", "\xff", -1},
		{"a\x7f", "a\x80", -1},
		{"a\xff", "b", -1},
		{"a\xff\xff", "b\x00", -1},
		// No right UTF-8: other than as signs that are told as one.
		{"\x80", "\x81", -1},
		{"\x80", "\uFFFD", -1},
		{"\uFFFD", "\xff", -1},
		{"\uFFFF", "\U00010000", -1},
		{"é", "e\u0301", 1},
	} {
		if got := Cmp(c.a, c.b); got != c.want {
			t.Errorf("Cmp(%q, %q) = %d, want %d", c.a, c.b, got, c.want)
		}
		if got := Cmp(c.b, c.a); got != -c.want {
			t.Errorf("Cmp(%q, %q) = %d, want %d", c.b, c.a, got, -c.want)
		}
	}
}

// P6.1: Cmp, byte by byte, of all pairs of bytes, and of short texts of those that matter.
func TestCmpByWords(t *testing.T) {
	for _, some := range [][]string{upTo(1, every()), upTo(3, ends)} {
		for _, a := range some {
			for _, b := range some {
				if got, want := Cmp(a, b), cmpByWords(a, b); got != want {
					t.Fatalf("Cmp(%q, %q) = %d, want %d", a, b, got, want)
				}
			}
		}
	}
	for n := range 300 {
		s := mixed(n, uint32(n))
		for i := range n {
			less, more := s[:i]+string([]byte{s[i] + 1})+s[i+1:], s[:i]
			for _, b := range []string{less, more, s + "\x00", s} {
				if got, want := Cmp(s, b), cmpByWords(s, b); got != want || Cmp(b, s) != -want {
					t.Fatalf("Cmp(%q, %q) = %d, want %d", s, b, got, want)
				}
			}
		}
	}
}

// P6.2: Next is the text, and a byte 0.
func TestNext(t *testing.T) {
	for _, c := range []struct{ s, want string }{
		{"", "\x00"},
		{"a", "a\x00"},
		{"\x00", "\x00\x00"},
		{"\xff", "\xff\x00"},
		{"a\x00", "a\x00\x00"},
		{"a\xff", "a\xff\x00"},
		{"\xff\xff", "\xff\xff\x00"},
		{"\x80", "\x80\x00"},
		{"é", "é\x00"},
		// Behind texts of just MaxKey and MaxEdge bytes too, and of more.
		{strings.Repeat("k", 16), strings.Repeat("k", 16) + "\x00"},
		{strings.Repeat("k", 17), strings.Repeat("k", 17) + "\x00"},
		{strings.Repeat("k", 18), strings.Repeat("k", 18) + "\x00"},
	} {
		if got := Next(c.s); got != c.want {
			t.Errorf("Next(%q) = %q, want %q", c.s, got, c.want)
		}
	}
	if k := strings.Repeat("\xff", api.MaxKey); !Edge(Next(k)) || Right(Next(k)) {
		t.Error("Next of the longest key is no edge, or a key")
	}
}

// P6.2: Next stands behind, and nothing stands between.
func TestNextFirst(t *testing.T) {
	some := upTo(4, "\x00\x01a\xfe\xff")
	for _, s := range upTo(3, ends) {
		next := Next(s)
		if cmpByWords(s, next) >= 0 {
			t.Fatalf("Next(%q) = %q, which isn't behind", s, next)
		}
		for _, x := range some {
			if cmpByWords(s, x) < 0 && cmpByWords(x, next) < 0 {
				t.Fatalf("Next(%q) = %q, but %q stands between", s, next, x)
			}
		}
	}
}

// P6.2: Next of each byte, behind any text.
func TestNextEveryByte(t *testing.T) {
	for _, s := range upTo(2, every()) {
		if got := Next(s); got != s+"\x00" {
			t.Fatalf("Next(%q) = %q", s, got)
		}
	}
	for n := range 300 {
		if s := mixed(n, uint32(n)); Next(s) != s+"\x00" {
			t.Fatalf("Next(%q) = %q", s, Next(s))
		}
	}
}

// P6.2: End, as the words name it.
func TestEnd(t *testing.T) {
	for _, c := range []struct{ p, want string }{
		{"a", "b"},
		{"a\xff", "b"},
		{"a\xff\xff", "b"},
		{"ab", "ac"},
		{"ab\xff\xff", "ac"},
		{"a\xffb", "a\xffc"},
		{"\xffa", "\xffb"},
		{"\xffa\xff", "\xffb"},
		{"\xff\xff\xfe", "\xff\xff\xff"},
		{"\x00", "\x01"},
		{"\x00\xff", "\x01"},
		{"a\x00", "a\x01"},
		{"z", "{"},
		{"9", ":"},
		{"\xfe", "\xff"},
		{"\xfe\xff", "\xff"},
		{"a\xfe", "a\xff"},
		// Byte by byte, where they are no right UTF-8 too.
		{"\x7f", "\x80"},
		{"\x80", "\x81"},
		{"\xc3", "\xc4"},
		{"a\x80\xff", "a\x81"},
		{"a\x80\x80", "a\x80\x81"},
		{"a\xfe\xff", "a\xff"},
		{"a\x80\xfe\xff\xff", "a\x80\xff"},
		{"é", "ê"},
		{"\u00bf", "\xc2\xc0"},
		{"\uFFFD", "\xef\xbf\xbe"},
		{"\uFFFD\xff", "\xef\xbf\xbe"},
		{"\uFFFF", "\xef\xbf\xc0"},
		// Of just MaxKey and MaxEdge bytes, and of more.
		{strings.Repeat("k", 16), strings.Repeat("k", 15) + "l"},
		{strings.Repeat("k", 17), strings.Repeat("k", 16) + "l"},
		{strings.Repeat("k", 18), strings.Repeat("k", 17) + "l"},
		{"k" + strings.Repeat("\xff", 15), "l"},
		{"k" + strings.Repeat("\xff", 16), "l"},
		{"k" + strings.Repeat("\xff", 1<<20), "l"},
	} {
		if got, ok := End(c.p); !ok || got != c.want {
			t.Errorf("End(%q) = %q, %t, want %q, true", c.p, got, ok, c.want)
		}
	}
}

// P6.2: End of texts behind all of which none stands.
func TestEndNone(t *testing.T) {
	for n := range 300 {
		if got, ok := End(strings.Repeat("\xff", n)); ok || got != "" {
			t.Errorf("End of %d bytes 255 = %q, %t, want nothing, false", n, got, ok)
		}
	}
}

// P6.2: End stands behind all that begin with the text, none of them at it, and nothing stands between; or there is none.
func TestEndFirst(t *testing.T) {
	some := upTo(4, "\x00\x01a\xfe\xff")
	for _, p := range upTo(3, ends) {
		end, ok := End(p)
		if ok && !behindAll(end, p) {
			t.Fatalf("End(%q) = %q, which isn't behind all", p, end)
		}
		if lasts := strings.Count(p, "\xff") == len(p); ok == lasts {
			t.Fatalf("End(%q) = %q, %t", p, end, ok)
		}
		for _, x := range some {
			switch {
			case ok && cmpByWords(x, end) < 0 && behindAll(x, p):
				t.Fatalf("End(%q) = %q, but %q stands ahead of it", p, end, x)
			case ok && cmpByWords(x, end) >= 0 && strings.HasPrefix(x, p):
				t.Fatalf("End(%q) = %q, but %q stands at it or behind", p, end, x)
			case !ok && (end != "" || behindAll(x, p)):
				t.Fatalf("End(%q) = %q, none, but %q stands behind all", p, end, x)
			}
		}
	}
}

// P6.2: End of each byte, at a text's end: it is one more, and of the last one that of what stands ahead.
func TestEndEveryByte(t *testing.T) {
	for x := range 255 {
		for _, head := range []string{"", "a", "\xff", "\x00", "\x80\xff", "é", mixed(40, 1)} {
			p, want := head+string([]byte{byte(x)}), head+string([]byte{byte(x + 1)})
			for _, behind := range []string{"", "\xff", "\xff\xff\xff"} {
				if got, ok := End(p + behind); !ok || got != want {
					t.Errorf("End(%q) = %q, %t, want %q, true", p+behind, got, ok, want)
				}
			}
		}
	}
}

// P6.3: Common, of none, of one, and of those that the words name.
func TestCommon(t *testing.T) {
	for _, c := range []struct {
		l    []string
		want string
	}{
		{nil, ""},
		{[]string{}, ""},
		{[]string{""}, ""},
		{[]string{"x"}, "x"},
		{[]string{"abc"}, "abc"},
		{[]string{"a\xff\x00"}, "a\xff\x00"},
		{[]string{"a", "a"}, "a"},
		{[]string{"abc", "abd"}, "ab"},
		{[]string{"abc", "abd", "ab"}, "ab"},
		{[]string{"abc", "abd", "a"}, "a"},
		{[]string{"abc", "abd", "b"}, ""},
		{[]string{"abc", "abc", "abc"}, "abc"},
		{[]string{"x", "y"}, ""},
		{[]string{"", "a"}, ""},
		{[]string{"ab", "ab", ""}, ""},
		{[]string{"aXb", "aYb"}, "a"},
		{[]string{"Xb", "Yb"}, ""},
		// A text, and what begins with it.
		{[]string{"a", "ab", "abc"}, "a"},
		{[]string{"a\x00", "a"}, "a"},
		{[]string{"\x00", "\x00\x00"}, "\x00"},
		{[]string{"\xff", "\xff\xff", "\xff\xff\xff"}, "\xff"},
		// Byte by byte, where a sign is cut through too.
		{[]string{"é", "ê"}, "\xc3"},
		{[]string{"\x80", "\x81"}, ""},
		{[]string{"\xff\x80", "\xff\x81"}, "\xff"},
		{[]string{"\xff", "\uFFFD"}, ""},
		{[]string{"A", "a"}, ""},
		{[]string{strings.Repeat("k", 18), strings.Repeat("k", 17)}, strings.Repeat("k", 17)},
	} {
		if got := Common(c.l...); got != c.want {
			t.Errorf("Common(%q) = %q, want %q", c.l, got, c.want)
		}
		checkCommon(t, c.l...)
	}
	if got := Common(); got != "" {
		t.Errorf("Common() = %q, want nothing", got)
	}
}

// P6.3: Common, as the words say, of one, two and three short texts, and of each byte.
func TestCommonByWords(t *testing.T) {
	two := upTo(3, "\x00a\x80\xff")
	three := upTo(2, "\x00a\xff")
	for _, a := range two {
		checkCommon(t, a)
		for _, b := range two {
			checkCommon(t, a, b)
		}
	}
	for _, a := range three {
		for _, b := range three {
			for _, c := range three {
				checkCommon(t, a, b, c)
				checkCommon(t, a, b, a, c)
			}
		}
	}
	for _, a := range upTo(1, every()) {
		for _, b := range upTo(1, every()) {
			checkCommon(t, a, b)
		}
	}
}

// P6.3: Common of long texts, and of many.
func TestCommonLong(t *testing.T) {
	long := mixed(1<<20, 1)
	for _, n := range []int{0, 1, 16, 17, 1000, 1<<20 - 1} {
		other := long[:n] + string([]byte{long[n] + 1}) + long[n+1:]
		if got := Common(long, other, long); got != long[:n] {
			t.Errorf("Common of what is alike in %d bytes has %d", n, len(got))
		}
		if got := Common(long[:n], long); got != long[:n] {
			t.Errorf("Common of %d bytes and more has %d", n, len(got))
		}
	}
	if got := Common(long, long); got != long {
		t.Errorf("Common of %d bytes, twice, has %d", len(long), len(got))
	}
	many := make([]string, 1<<16)
	for i := range many {
		many[i] = "abc" + mixed(8, uint32(i))
	}
	if got := Common(many...); got != "abc" {
		t.Errorf("Common of many = %q", got)
	}
	if got := Common(append(many, "ab")...); got != "ab" {
		t.Errorf("Common of many, and ab = %q", got)
	}
	if got := Common(append(many, "")...); got != "" {
		t.Errorf("Common of many, and none = %q", got)
	}
}

// P6.2 and P6.3: those that begin with a text have it in common, stand ahead of its End, and each ahead of its Next.
func TestTogether(t *testing.T) {
	for _, p := range upTo(2, ends) {
		l := []string{p, Next(p), p + "\xff", p + "a", p + mixed(20, 3)}
		if got := Common(l...); got != p {
			t.Errorf("Common(%q) = %q, want %q", l, got, p)
		}
		end, ok := End(p)
		for _, s := range l {
			if ok && Cmp(s, end) >= 0 {
				t.Errorf("End(%q) = %q, but %q begins with it", p, end, s)
			}
			if Cmp(s, Next(s)) != -1 {
				t.Errorf("Next(%q) = %q", s, Next(s))
			}
		}
	}
}

// Rules 5 and 6: the list that is handed in stays as it is, and the same is answered each time.
func TestKeeps(t *testing.T) {
	array := []string{"abc", "abd", "ab", "", "x"}
	was := slices.Clone(array)
	for range 3 {
		if got := Common(array[:3]...); got != "ab" {
			t.Errorf("Common(%q) = %q", array[:3], got)
		}
		if got := Common(array...); got != "" {
			t.Errorf("Common(%q) = %q", array, got)
		}
	}
	if !slices.Equal(array, was) {
		t.Errorf("the texts became %q, were %q", array, was)
	}
}
