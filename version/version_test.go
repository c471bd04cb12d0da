package version_test

import (
	"cmp"
	"fmt"
	"maps"
	"math"
	"math/big"
	"regexp"
	"slices"
	"strings"
	"testing"

	"winnower/api"
	"winnower/sample"
	"winnower/version"
)

// What texts are made by here: the tests of several layers have it together.
var long, every = sample.Long, sample.Every

// of is the count-th write of a replica.
func of(replica, count int) api.Version {
	return api.Version{Replica: replica, Count: count}
}

// numbers are those at which an answer may turn, in order: 6 of them are replicas, and 15 are counts.
func numbers() []int {
	return []int{
		math.MinInt, math.MinInt + 1, -1 << 40, -1 << 32, -17, -16, -1,
		0, 1, 2, 9, 10, 15, 16, 17, 18, 255, 256, 257, 1 << 32, 1<<32 + 1, 1<<40 - 1, 1 << 40, 1<<40 + 1,
		1 << 48, math.MaxInt - 1, math.MaxInt,
	}
}

// versions are those of any two of the numbers, right or not, in order.
func versions() []api.Version {
	var l []api.Version
	for _, replica := range numbers() {
		for _, count := range numbers() {
			l = append(l, of(replica, count))
		}
	}
	return l
}

// wrongs are versions that aren't right, each for another reason.
func wrongs() []api.Version {
	return []api.Version{
		{},
		of(0, 1), of(17, 1), of(-1, 1), of(256, 1), of(257, 1), of(1<<32+1, 1), of(math.MinInt, 1), of(math.MaxInt, 1),
		of(1, 0), of(1, 1<<40+1), of(1, -1), of(1, 1<<48), of(1, math.MinInt), of(1, math.MaxInt),
		of(0, 0), of(17, 0), of(0, 1<<40+1), of(17, 1<<40+1), of(-1, -1), of(math.MinInt, math.MinInt), of(math.MaxInt, math.MaxInt),
	}
}

// rightByWords is what the chapter says that a right version is.
func rightByWords(v api.Version) bool {
	return v.Replica >= 1 && v.Replica <= 16 && v.Count >= 1 && v.Count <= 1099511627776
}

// spelt is a text that tells two numbers above 0, without noughts ahead, and a point between.
var spelt = regexp.MustCompile(`\A([1-9][0-9]*)\.([1-9][0-9]*)\z`)

// upTo is the number of some digits, however many there are, if it is at most so much.
func upTo(most int64, digits string) (int, bool) {
	n, ok := new(big.Int).SetString(digits, 10)
	if !ok || n.Cmp(big.NewInt(most)) > 0 {
		return 0, false
	}
	return int(n.Int64()), true
}

// parseByWords is what the chapter says that Parse is.
func parseByWords(s string) (api.Version, bool) {
	m := spelt.FindStringSubmatch(s)
	if m == nil {
		return api.Version{}, false
	}
	replica, ok := upTo(16, m[1])
	count, fine := upTo(1099511627776, m[2])
	return of(replica, count), ok && fine
}

// sortedByWords is what the chapter says that Sorted is: of one replica after the other its counts.
func sortedByWords(l []api.Version) []api.Version {
	var out []api.Version
	for replica := 1; replica <= 16; replica++ {
		counts := map[int]bool{}
		for _, v := range l {
			if v.Replica == replica && rightByWords(v) {
				counts[v.Count] = true
			}
		}
		for _, count := range slices.Sorted(maps.Keys(counts)) {
			out = append(out, of(replica, count))
		}
	}
	return out
}

// checkBoth is that a version has a text, and this is parsed as it.
func checkBoth(t *testing.T, v api.Version, want string) {
	t.Helper()
	if s, e := version.Text(v); e != api.OK || s != want {
		t.Fatalf("Text(%v) = %q, %d, want %q, OK", v, s, e, want)
	}
	if back, e := version.Parse(want); e != api.OK || back != v {
		t.Fatalf("Parse(%q) = %v, %d, want %v, OK", want, back, e, v)
	}
}

// checkUntold is that a version, which isn't right, has no text.
func checkUntold(t *testing.T, v api.Version) {
	t.Helper()
	if s, e := version.Text(v); e != api.ErrArg || s != "" {
		t.Fatalf("Text(%v) = %q, %d, want nothing, ErrArg", v, s, e)
	}
}

// checkNone is that a text is no version's.
func checkNone(t *testing.T, s string) {
	t.Helper()
	if v, e := version.Parse(s); e != api.ErrForm || v != (api.Version{}) {
		t.Fatalf("Parse(%.100q), of %d bytes, = %v, %d, want nothing, ErrForm", s, len(s), v, e)
	}
}

// checkText holds what is parsed of a text against the words; if it is a version's, that this is told so.
func checkText(t *testing.T, s string) bool {
	t.Helper()
	v, ok := parseByWords(s)
	if ok {
		checkBoth(t, v, s)
	} else {
		checkNone(t, s)
	}
	return ok
}

// checkSorted holds what is sorted against the words, and that what was handed in is as it was.
func checkSorted(t *testing.T, l []api.Version) {
	t.Helper()
	was := slices.Clone(l)
	if got, want := version.Sorted(l...), sortedByWords(was); !slices.Equal(got, want) {
		t.Fatalf("Sorted(%v) = %v, want %v", was, got, want)
	}
	if !slices.Equal(l, was) {
		t.Fatalf("Sorted(%v) left %v", was, l)
	}
}

// told are right versions and their texts.
var told = []struct {
	v api.Version
	s string
}{
	{of(3, 12), "3.12"},
	{of(1, 1), "1.1"},
	{of(1, 2), "1.2"},
	{of(2, 1), "2.1"},
	{of(16, 1), "16.1"},
	{of(1, 1099511627776), "1.1099511627776"},
	{of(16, 1099511627776), "16.1099511627776"},
	{of(16, 1099511627775), "16.1099511627775"},
	{of(15, 1099511627769), "15.1099511627769"},
	// Digits that a number gets more, and noughts that aren't ahead.
	{of(9, 9), "9.9"},
	{of(10, 10), "10.10"},
	{of(11, 99), "11.99"},
	{of(12, 100), "12.100"},
	{of(10, 101), "10.101"},
	{of(13, 1000000), "13.1000000"},
	{of(4, 999999999999), "4.999999999999"},
	{of(5, 1000000000000), "5.1000000000000"},
	{of(6, 1234567890), "6.1234567890"},
	// Numbers at which shorter ones wrap round.
	{of(7, 255), "7.255"},
	{of(8, 256), "8.256"},
	{of(14, 65536), "14.65536"},
	{of(1, 2147483647), "1.2147483647"},
	{of(1, 2147483648), "1.2147483648"},
	{of(2, 4294967295), "2.4294967295"},
	{of(2, 4294967296), "2.4294967296"},
	{of(2, 4294967297), "2.4294967297"},
}

// P12.1 and P12.2: the chapter's example.
func TestExample(t *testing.T) {
	v := api.Version{Replica: 3, Count: 12}
	if !version.Right(v) {
		t.Error("3.12 isn't right")
	}
	checkBoth(t, v, "3.12")
	for _, s := range []string{"", "3", "3.", ".12", ".", "3.012", "03.12", "3..12", "3.12.", ".3.12", "3.12.1", "3 12", "3,12", "312", "+3.12", "3.-12", " 3.12", "3.12 ", "3.12\n", "19.12", "3.12x"} {
		checkNone(t, s)
	}
	checkBoth(t, of(3, 1), "3.1")
	checkBoth(t, of(3, 120), "3.120")
	checkBoth(t, of(12, 3), "12.3")
	checkBoth(t, of(13, 12), "13.12")
}

// P12.1: each number's edges, of a version whose other number is right.
func TestRight(t *testing.T) {
	for _, c := range []struct {
		n              int
		replica, count bool
	}{
		{math.MinInt, false, false}, {-1 << 40, false, false}, {-16, false, false}, {-1, false, false}, {0, false, false},
		{1, true, true}, {2, true, true}, {15, true, true}, {16, true, true}, {api.MaxReplicas, true, true},
		{17, false, true}, {api.MaxReplicas + 1, false, true}, {257, false, true}, {1 << 32, false, true}, {1<<32 + 1, false, true},
		{1<<40 - 1, false, true}, {1 << 40, false, true}, {api.MaxCount, false, true},
		{1<<40 + 1, false, false}, {api.MaxCount + 1, false, false}, {1<<40 + 16, false, false}, {1 << 48, false, false}, {1 << 62, false, false}, {math.MaxInt, false, false},
	} {
		for _, other := range []int{1, 7, 16} {
			if got := version.Right(of(c.n, other)); got != c.replica {
				t.Errorf("Right(%d.%d) = %t, want %t", c.n, other, got, c.replica)
			}
			if got := version.Right(of(other, c.n)); got != c.count {
				t.Errorf("Right(%d.%d) = %t, want %t", other, c.n, got, c.count)
			}
		}
	}
	for _, v := range wrongs() {
		if version.Right(v) {
			t.Errorf("Right(%v)", v)
		}
	}
	for _, c := range told {
		if !version.Right(c.v) {
			t.Errorf("%v isn't right", c.v)
		}
	}
}

// P12.1: Right, as the words say, of any two numbers; how many are right is reckoned by hand.
func TestRightByWords(t *testing.T) {
	right := 0
	for _, v := range versions() {
		got := version.Right(v)
		if want := rightByWords(v); got != want {
			t.Errorf("Right(%v) = %t, want %t", v, got, want)
		}
		if got {
			right++
		}
	}
	if right != 6*15 {
		t.Errorf("%d are right, want 90", right)
	}
	for n := -1000; n <= 1000; n++ {
		if got, want := version.Right(of(n, 1)), 1 <= n && n <= 16; got != want {
			t.Errorf("Right(%d.1) = %t", n, got)
		}
	}
}

// P12.1: Cmp of two that are written out by hand: by Replica, then by Count, as numbers, of right ones and of any.
func TestCmp(t *testing.T) {
	for _, c := range []struct {
		a, b api.Version
		want int
	}{
		{of(3, 12), of(3, 12), 0}, {of(3, 11), of(3, 12), -1}, {of(3, 12), of(3, 1), 1}, {of(3, 12), of(4, 1), -1}, {of(3, 12), of(2, 13), 1},
		{of(1, 9), of(2, 1), -1}, {of(2, 1), of(1, 9), 1}, {of(1, 1<<40), of(2, 1), -1}, {of(16, 1), of(1, 1<<40), 1}, {of(1, 2), of(2, 1), -1}, {of(1, 2), of(2, 2), -1},
		// Numbers, and not their digits.
		{of(9, 1), of(10, 1), -1}, {of(2, 1), of(16, 1), -1}, {of(1, 9), of(1, 10), -1}, {of(1, 100), of(1, 99), 1}, {of(1, 1<<32+1), of(1, 1<<32), 1}, {of(1, 1<<32), of(1, 1), 1},
		// Any.
		{api.Version{}, api.Version{}, 0}, {api.Version{}, of(1, 1), -1}, {of(0, 5), of(0, 4), 1}, {of(17, 1), of(16, 2), 1}, {of(-1, 0), of(0, -1), -1}, {of(-2, 9), of(-1, 1), -1}, {of(1, -2), of(1, -1), -1},
		// What one has more is more than an int holds.
		{of(math.MinInt, 1), of(math.MaxInt, 1), -1}, {of(math.MaxInt, 1), of(math.MinInt, 1), 1}, {of(math.MinInt, 1), of(1, 1), -1}, {of(math.MaxInt, 1), of(-1, 1), 1},
		{of(1, math.MinInt), of(1, math.MaxInt), -1}, {of(1, math.MaxInt), of(1, math.MinInt), 1}, {of(1, math.MaxInt), of(1, -1), 1}, {of(1, math.MinInt), of(1, 1), -1},
		{of(math.MinInt, math.MaxInt), of(math.MaxInt, math.MinInt), -1}, {of(math.MinInt, math.MinInt), of(math.MinInt, math.MinInt), 0}, {of(math.MaxInt, math.MaxInt), of(math.MaxInt, math.MaxInt), 0},
	} {
		if got := version.Cmp(c.a, c.b); got != c.want {
			t.Errorf("Cmp(%v, %v) = %d, want %d", c.a, c.b, got, c.want)
		}
		if got := version.Cmp(c.b, c.a); got != -c.want {
			t.Errorf("Cmp(%v, %v) = %d, want %d", c.b, c.a, got, -c.want)
		}
	}
}

// P12.1: Cmp of any two, by where they stand in a list that is in order.
func TestCmpByPlaces(t *testing.T) {
	l := versions()
	for i, a := range l {
		for j, b := range l {
			if got, want := version.Cmp(a, b), cmp.Compare(i, j); got != want {
				t.Fatalf("Cmp(%v, %v) = %d, want %d", a, b, got, want)
			}
		}
	}
}

// P12.2: versions and their texts, each written out by hand; each text also cut off at each place, with each byte ahead and behind, as the words say.
func TestTold(t *testing.T) {
	for _, c := range told {
		checkBoth(t, c.v, c.s)
		if v, ok := parseByWords(c.s); !ok || v != c.v {
			t.Errorf("the words parse %q as %v, %t", c.s, v, ok)
		}
		point := strings.Index(c.s, ".")
		for n := range len(c.s) {
			if right := checkText(t, c.s[:n]); right != (n > point+1) {
				t.Errorf("the words parse %q: %t", c.s[:n], right)
			}
			checkText(t, c.s[n:])
		}
		for x := range 256 {
			b := string([]byte{byte(x)})
			ahead, behind := checkText(t, b+c.s), checkText(t, c.s+b)
			if digit := '0' <= x && x <= '9'; (ahead || behind) && !digit {
				t.Errorf("the words parse %q with %q ahead or behind", c.s, b)
			}
		}
	}
}

// P12.2: a version that isn't right has no text.
func TestUntold(t *testing.T) {
	for _, v := range wrongs() {
		checkUntold(t, v)
	}
	for _, v := range versions() {
		if rightByWords(v) {
			checkBoth(t, v, fmt.Sprintf("%d.%d", v.Replica, v.Count))
		} else {
			checkUntold(t, v)
			checkNone(t, fmt.Sprintf("%d.%d", v.Replica, v.Count))
		}
	}
}

// P12.2: texts that are none's: what isn't spelt just so, and numbers that are none of a right version.
func TestNone(t *testing.T) {
	for _, s := range []string{
		// No point, two of them, or no number beside one.
		"", ".", "..", "...", "1", "12", "16", "1099511627776", "1.", "16.", ".1", ".16", "1..", "..1", "1..1", "1.1.", ".1.1", "1.1.1", "1.1.1.1", "1.16.1", "1...1", "1.1..",
		// Noughts ahead, and 0.
		"01.1", "001.1", "1.01", "1.001", "01.01", "00.1", "1.00", "0.1", "1.0", "0.0", "16.0", "0.16", "010.1", "1.010", "1.0000000000000000000001", "0000000000000000000001.1", "1.01099511627776", "016.1099511627776", "1.000", "0.00",
		// Blanks.
		" 1.1", "1.1 ", "1 .1", "1. 1", " ", " . ", "1 1", "1. ", " .1", "\t1.1", "1.1\t", "\n1.1", "1.1\n", "1.1\r\n", "1.\n1", "1\n.1", "1.1\v", "1.1\f", "1 0.1", "1.1 0", "\u00a01.1", "1.1\u00a0", "1.1\u2028", "\ufeff1.1",
		// Signs.
		"+1.1", "1.+1", "+1.+1", "-1.1", "1.-1", "-1.-1", "1-.1", "1.1-", "1.1+", "--1.1", "+-1.1", "1+.1", "-.1", "1.-", "+.1", "1.+", "-0.1", "1.-0", "1.+0", "+16.1", "1.+1099511627776", "\u22121.1", "1.\u22121",
		// Another sign instead of the point.
		"1,1", "1:1", "1;1", "1/1", "1-1", "1_1", "1\x001", "1\u00b71", "1\uff0e1", "1\u30021", "1\xff1", "1'1", "1*1", "11",
		// Numbers that are spelt otherwise.
		"0x1.1", "1.0x1", "1.0X1", "0b1.1", "1.0b1", "1.0o7", "1.0_1", "1_0.1", "1.1_0", "1._1", "1.1_", "1.1_000", "1.1,000", "1.1'000", "1e0.1", "1.1e0", "1.1e1", "1.1E1", "1.1p1", "1.1f", "1.1i", "1.1L", "1.a", "a.1", "a.a", "1.f", "f.1", "a1.1", "1a.1", "1.a1", "1.1a", "1.1x", "x.1",
		"one.one", "I.I", "1.Inf", "inf.1", "NaN.1", "1.nan", "1.true", "v1.1", "(1.1)", "[1.1]", "{1 1}", "\"1.1\"", "'1.1'", "1.(1)", "1.1;", "1.1,2.1", "1.1 2.1", "1.1\n2.1", "1.1,", ",1.1", "1.1%",
		"\uff11.1", "1.\uff11", "\u0661.1", "1.\u0661", "1.\u00b2", "1.\u2460", "\u0967.\u0967",
		// Bytes that are no sign.
		"\x00", "\xff", "1.1\x00", "\x001.1", "1\x00.1", "1.\x001", "1.\x00", "\x00.1", "1.1\xff", "\xff1.1", "1.\xff", "\xff.1", "1.\xb1", "\xb1.1", "1.\x80", "1.1\x80", "1\xae1", "1.\x01", "\x01.\x01", "\x01.1",
		// Replicas that are none.
		"17.1", "18.1", "19.1", "20.1", "26.1", "99.1", "100.1", "101.1", "160.1", "116.1", "161.1", "255.1", "256.1", "257.1", "272.1", "65537.1", "4294967296.1", "4294967297.1", "4294967312.1", "1099511627776.1",
		"9223372036854775807.1", "9223372036854775808.1", "9223372036854775809.1", "18446744073709551615.1", "18446744073709551616.1", "18446744073709551617.1", "18446744073709551632.1", "36893488147419103233.1", "340282366920938463463374607431768211457.1", "99999999999999999999.1", "17.0", "17.1099511627777",
		// Counts that are none.
		"1.1099511627777", "1.1099511627778", "1.1099511627780", "1.1099511627786", "1.1099511627876", "1.1099511628776", "1.1100000000000", "1.1999999999999", "1.2000000000000", "1.2199023255553", "1.9999999999999", "1.10000000000000", "1.10995116277760", "1.11099511627776", "1.281474976710656", "1.281474976710657",
		"16.1099511627777", "1.4611686018427387905", "1.9223372036854775807", "1.9223372036854775808", "1.9223372036854775809", "1.18446744073709551615", "1.18446744073709551616", "1.18446744073709551617", "16.18446744073709551628", "1.36893488147419103233", "1.340282366920938463463374607431768211457", "1.99999999999999999999",
		"1.18446745173221179392", "18446744073709551617.18446744073709551617", "17.17179869184000000000000", "1.-18446744073709551615",
	} {
		checkNone(t, s)
		if v, ok := parseByWords(s); ok {
			t.Errorf("the words parse %q as %v", s, v)
		}
	}
}

// P12.2: texts of each replica, and of counts of each length and beside each power of 2 and of 10, up to the limit and beyond it; no two versions have one text.
func TestNumbers(t *testing.T) {
	counts := map[int]bool{}
	for n := range 300 {
		counts[n] = true
	}
	for _, base := range []int{2, 10} {
		for power := 1; power < 1<<50; power *= base {
			for n := power - 2; n <= power+2; n++ {
				counts[n] = true
			}
		}
	}
	texts := map[string]api.Version{}
	for replica := -2; replica <= 40; replica++ {
		for count := range counts {
			v, want := of(replica, count), fmt.Sprintf("%d.%d", replica, count)
			if !rightByWords(v) {
				checkUntold(t, v)
				checkNone(t, want)
				continue
			}
			checkBoth(t, v, want)
			s, _ := version.Text(v)
			if other, ok := texts[s]; ok {
				t.Fatalf("%v and %v have one text, %q", other, v, s)
			}
			texts[s] = v
			checkNone(t, fmt.Sprintf("0%d.%d", replica, count))
			checkNone(t, fmt.Sprintf("%d.0%d", replica, count))
		}
	}
}

// P12.2: all texts of few bytes, as the words say; how many are versions' is reckoned by hand.
func TestShortByWords(t *testing.T) {
	for _, c := range []struct {
		most int
		some string
		want int
	}{
		{2, every(), 0},
		// Replicas of one digit, and behind the point one digit, two, three; replicas of two digits, and one digit, two.
		{5, "0123456789.", 9*9 + 9*90 + 9*900 + 7*9 + 7*90},
		// Replicas 1 and 9, and 10, 11; behind the point of one to four digits each, and of one to three.
		{6, "019. -+", 2*(2+6+18+54) + 2*(2+6+18)},
	} {
		found := 0
		for n := range c.most + 1 {
			sample.EachOf(n, c.some, func(s string) {
				if checkText(t, s) {
					found++
				}
			})
		}
		if found != c.want {
			t.Errorf("of up to %d of %.20q, %d are versions' texts, want %d", c.most, c.some, found, c.want)
		}
	}
	sample.EachOf(1, every(), func(a string) {
		sample.EachOf(1, every(), func(b string) {
			checkText(t, a+"."+b)
			checkText(t, "1"+a+b)
			checkText(t, a+b+"1")
		})
	})
}

// P12.2: all texts that are made of a few pieces, as the words say.
func TestPiecesByWords(t *testing.T) {
	pieces := []string{"0", "1", "6", "16", "17", "1099511627776", "1099511627777", "18446744073709551616", ".", "-", "+", " ", "\xff"}
	for _, l := range sample.Lists(pieces, 4) {
		checkText(t, strings.Join(l, ""))
	}
}

// P12.2: texts changed by any byte in one place, and by some in two, as the words say.
func TestChangedByWords(t *testing.T) {
	for _, c := range told {
		sample.Changed(c.s, every(), func(s string) { checkText(t, s) })
		sample.Moved(c.s, func(s string) { checkText(t, s) })
	}
	for _, s := range []string{"1.1", "3.12", "16.1", "10.10", "16.1099511627776"} {
		sample.Changed(s, "0167. -+a", func(s string) {
			sample.Changed(s, "0167. -+a", func(s string) { checkText(t, s) })
		})
	}
}

// P12.2 and rule 1: very long texts are none's, and come to an end.
func TestVeryLong(t *testing.T) {
	const n = 1 << 20
	for _, some := range []string{"0", "1", "9", ".", " ", "-", "+", "_", "a", "\x00", "\xff", "1.", ".1", "0.", "1.1.", "e1", "0x"} {
		s := long(some, n)
		for _, text := range []string{s, "1." + s, s + ".1", s + "." + s, "1.1" + s, s + "1.1", "16.1099511627776" + s, "1" + s + ".1", "1.1." + s, "." + s, s + "."} {
			checkNone(t, text)
		}
	}
}

// P12.3: lists that are sorted by hand.
func TestSorted(t *testing.T) {
	a, b, c, d := of(1, 9), of(2, 1), of(2, 3), of(16, 1<<40)
	wrong := of(0, 1)
	for _, x := range []struct{ l, want []api.Version }{
		{nil, nil},
		{[]api.Version{}, nil},
		{[]api.Version{of(3, 12)}, []api.Version{of(3, 12)}},
		{[]api.Version{d}, []api.Version{d}},
		{[]api.Version{wrong}, nil},
		// In order, and in others.
		{[]api.Version{a, b, c, d}, []api.Version{a, b, c, d}},
		{[]api.Version{d, c, b, a}, []api.Version{a, b, c, d}},
		{[]api.Version{c, a, d, b}, []api.Version{a, b, c, d}},
		{[]api.Version{b, a}, []api.Version{a, b}},
		{[]api.Version{c, b}, []api.Version{b, c}},
		{[]api.Version{of(1, 3), of(1, 1), of(1, 2)}, []api.Version{of(1, 1), of(1, 2), of(1, 3)}},
		{[]api.Version{of(3, 1), of(1, 1), of(2, 1)}, []api.Version{of(1, 1), of(2, 1), of(3, 1)}},
		{[]api.Version{of(1, 2), of(2, 1), of(1, 1), of(2, 2)}, []api.Version{of(1, 1), of(1, 2), of(2, 1), of(2, 2)}},
		// By their numbers, and not by their digits.
		{[]api.Version{of(16, 1), of(9, 1), of(10, 1), of(2, 1)}, []api.Version{of(2, 1), of(9, 1), of(10, 1), of(16, 1)}},
		{[]api.Version{of(1, 100), of(1, 9), of(1, 10), of(1, 1<<40), of(1, 99)}, []api.Version{of(1, 9), of(1, 10), of(1, 99), of(1, 100), of(1, 1<<40)}},
		// The same more than once, side by side and not.
		{[]api.Version{a, a}, []api.Version{a}},
		{[]api.Version{a, a, a, a}, []api.Version{a}},
		{[]api.Version{b, a, b}, []api.Version{a, b}},
		{[]api.Version{c, a, b, a}, []api.Version{a, b, c}},
		{[]api.Version{d, d, c, d, c, c}, []api.Version{c, d}},
		// Some that aren't right, at each place.
		{[]api.Version{wrong, wrong}, nil},
		{[]api.Version{wrong, b, a}, []api.Version{a, b}},
		{[]api.Version{b, wrong, a}, []api.Version{a, b}},
		{[]api.Version{b, a, wrong}, []api.Version{a, b}},
		{[]api.Version{a, wrong, a}, []api.Version{a}},
		{[]api.Version{c, a, {}, b, a}, []api.Version{a, b, c}},
		{append(wrongs(), b, a), []api.Version{a, b}},
		{append([]api.Version{b, a}, wrongs()...), []api.Version{a, b}},
		{wrongs(), nil},
		// The edges.
		{[]api.Version{of(17, 1), of(16, 1<<40), of(16, 1<<40+1), of(1, 1), of(0, 1), of(1, 0)}, []api.Version{of(1, 1), of(16, 1<<40)}},
		{[]api.Version{of(1, math.MaxInt), of(math.MaxInt, 1), of(2, 2), of(math.MinInt, 1), of(1, math.MinInt)}, []api.Version{of(2, 2)}},
	} {
		if got := version.Sorted(x.l...); !slices.Equal(got, x.want) {
			t.Errorf("Sorted(%v) = %v, want %v", x.l, got, x.want)
		}
		checkSorted(t, x.l)
	}
	if got := version.Sorted(); len(got) != 0 {
		t.Errorf("Sorted() = %v, want none", got)
	}
}

// P12.3: each version that isn't right is left out, alone, twice, and beside right ones.
func TestSortedWrong(t *testing.T) {
	for _, v := range versions() {
		var own []api.Version
		if rightByWords(v) {
			own = append(own, v)
		}
		for _, l := range [][]api.Version{{v}, {v, v}} {
			if got := version.Sorted(l...); !slices.Equal(got, own) {
				t.Fatalf("Sorted(%v) = %v, want %v", l, got, own)
			}
		}
		checkSorted(t, []api.Version{of(2, 2), v, of(1, 1), v, of(2, 2)})
	}
	checkSorted(t, versions())
}

// P12.3: all short lists of some versions, right ones and others, as the words say.
func TestListsByWords(t *testing.T) {
	for _, l := range slices.Concat(
		sample.Lists([]api.Version{of(1, 1), of(1, 2), of(2, 1), of(16, 1<<40), of(0, 1), of(17, 1), of(1, 0), of(1, 1<<40+1)}, 4),
		sample.Lists([]api.Version{of(1, 9), of(1, 10), of(2, 1), of(10, 1)}, 6),
	) {
		checkSorted(t, l)
	}
}

// P12.3: drawn lists, as the words say, also in order, turned round, and more than once.
func TestDrawnByWords(t *testing.T) {
	all := versions()
	for seed := range 2000 {
		roll := sample.Draw(seed)
		var l []api.Version
		for range roll(120) {
			v := of(roll(18), roll(1+roll(40)))
			if roll(4) == 0 {
				v = all[roll(len(all))]
			}
			l = append(l, v)
		}
		checkSorted(t, l)
		checkSorted(t, append(slices.Clone(l), l...))
		back := slices.Clone(l)
		slices.Reverse(back)
		checkSorted(t, back)
		sorted := version.Sorted(l...)
		checkSorted(t, sorted)
		slices.Reverse(sorted)
		checkSorted(t, sorted)
	}
}

// P12.3 and rule 1: very long lists, of many versions and of few.
func TestManySorted(t *testing.T) {
	const n = 1 << 18
	roll := sample.Draw(1)
	var many, few, wrong []api.Version
	for range n {
		many = append(many, of(1+roll(17), 1+roll(1<<31)))
		few = append(few, of(roll(18), roll(5)))
		wrong = append(wrong, of(17+roll(100), 1+roll(100)))
	}
	for _, l := range [][]api.Version{many, few, wrong, slices.Repeat([]api.Version{of(1, 1)}, n)} {
		checkSorted(t, l)
	}
}

// P12.1 and P12.3: of what is sorted each stands ahead of those behind it, by Cmp.
func TestSortedByCmp(t *testing.T) {
	l := version.Sorted(versions()...)
	if len(l) != 90 {
		t.Fatalf("%d are right, want 90", len(l))
	}
	for i, a := range l {
		for j, b := range l {
			if got, want := version.Cmp(a, b), cmp.Compare(i, j); got != want {
				t.Errorf("Cmp(%v, %v) = %d, want %d", a, b, got, want)
			}
		}
	}
}

// P12.3 and rule 5: what is handed in is as it was, also ahead of it and behind its end, and shares nothing with the answer.
func TestHandedIn(t *testing.T) {
	other := of(9, 99)
	for _, kept := range [][]api.Version{
		{of(2, 2), of(0, 1), of(1, 1), of(2, 2), of(1, 0), of(16, 1), of(1, 1), of(3, 3)},
		{of(1, 1), of(1, 2), of(2, 1), of(2, 2), of(3, 1)},
		{of(1, 1), of(1, 1), of(1, 1)},
		{of(3, 1), of(2, 1), of(1, 1)},
	} {
		l := slices.Clone(kept)
		for n := range len(l) + 1 {
			for m := range n + 1 {
				want := sortedByWords(kept[m:n])
				got := version.Sorted(l[m:n]...)
				again := version.Sorted(l[m:n]...)
				for i := range got {
					got[i] = other
				}
				_ = append(got, other, other)
				if !slices.Equal(l, kept) {
					t.Fatalf("of the versions from %d to %d: %v, was %v", m, n, l, kept)
				}
				if !slices.Equal(again, want) {
					t.Fatalf("Sorted(%v) = %v, want %v", kept[m:n], again, want)
				}
			}
		}
		got := version.Sorted(l...)
		want := slices.Clone(got)
		for i := range l {
			l[i] = other
		}
		if !slices.Equal(got, want) {
			t.Fatalf("the answer became %v, was %v", got, want)
		}
	}
}

// Rule 6: each answer hangs on nothing that was called ahead of it.
func TestSameEachTime(t *testing.T) {
	for range 3 {
		for _, c := range told {
			checkNone(t, c.s+".")
			checkUntold(t, of(c.v.Replica, -c.v.Count))
			checkSorted(t, []api.Version{c.v, of(17, 1), of(1, 1)})
			checkBoth(t, c.v, c.s)
		}
	}
}
