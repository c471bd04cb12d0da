package word

import (
	"fmt"
	"slices"
	"strconv"
	"strings"
	"testing"

	"winnower/sample"
)

// What texts are made by here: the tests of several layers have it together.
var eachOf, every = sample.EachOf, sample.Every

// told is what some texts are told as.
var told = []struct{ s, w string }{
	{"", "_"},
	{"a", "a"},
	{"z", "z"},
	{"0", "0"},
	{"9", "9"},
	{"abc09", "abc09"},
	{"abcdefghijklmnopqrstuvwxyz0123456789", "abcdefghijklmnopqrstuvwxyz0123456789"},
	{"a B", "a-20-42"},
	{"A", "-41"},
	{"Z", "-5a"},
	{"A\x00", "-41-00"},
	{"-", "-2d"},
	{"--", "-2d-2d"},
	{"_", "-5f"},
	{"__", "-5f-5f"},
	{"-_ ", "-2d-5f-20"},
	{" ", "-20"},
	{"  ", "-20-20"},
	{"\n", "-0a"},
	{"\x00", "-00"},
	{"\x00\x00", "-00-00"},
	{"\xff", "-ff"},
	{"/:`{", "-2f-3a-60-7b"},
	{"@[", "-40-5b"},
	{"-2d", "-2d2d"},
	{"-20", "-2d20"},
	{"-61", "-2d61"},
	{"\n0a", "-0a0a"},
	{"\xaa\xbb\xcc\xdd\xee\xff", "-aa-bb-cc-dd-ee-ff"},
	{"\x1f\xf1", "-1f-f1"},
	{"é", "-c3-a9"},
	{"日", "-e6-97-a5"},
	{"\xc3", "-c3"},
	{"a\xc3b", "a-c3b"},
	{"\xed\xa0\x80", "-ed-a0-80"},
	{"\ufffd", "-ef-bf-bd"},
	{"and(prefix(a))", "and-28prefix-28a-29-29"},
}

// ofByWords is what the chapter says a text's word is, word by word.
func ofByWords(s string) string {
	if s == "" {
		return "_"
	}
	w := ""
	for _, b := range []byte(s) {
		if strings.IndexByte("abcdefghijklmnopqrstuvwxyz0123456789", b) >= 0 {
			w += string(rune(b))
		} else {
			w += fmt.Sprintf("-%02x", b)
		}
	}
	return w
}

// guessed is a text such that w is its word, or no text's: each stroke is taken together with two digits, each other byte as it is.
func guessed(w string) string {
	if w == "_" {
		return ""
	}
	var s []byte
	for i := 0; i < len(w); i++ {
		if w[i] == '-' && i+2 < len(w) {
			if n, e := strconv.ParseUint(w[i+1:i+3], 16, 8); e == nil {
				s = append(s, byte(n))
				i += 2
				continue
			}
		}
		s = append(s, w[i])
	}
	return string(s)
}

// readByWords is what the chapter says Read is: the text whose word w is.
func readByWords(w string) (string, bool) {
	if s := guessed(w); ofByWords(s) == w {
		return s, true
	}
	return "", false
}

// joinByWords is what the chapter says Join is, word by word.
func joinByWords(words ...string) (string, bool) {
	line := ""
	for i, w := range words {
		if w == "" {
			return "", false
		}
		for _, b := range []byte(w) {
			if b == 32 || b == 10 {
				return "", false
			}
		}
		if i > 0 {
			line += " "
		}
		line += w
	}
	return line, true
}

// cut is a line, cut at each blank; no words of the empty line.
func cut(line string) []string {
	if line == "" {
		return nil
	}
	l := []string{""}
	for i := range len(line) {
		if line[i] == ' ' {
			l = append(l, "")
		} else {
			l[len(l)-1] += line[i : i+1]
		}
	}
	return l
}

// splitByWords is what the chapter says Split is: the words whose Join line is.
func splitByWords(line string) ([]string, bool) {
	words := cut(line)
	if back, ok := joinByWords(words...); ok && back == line {
		return words, true
	}
	return nil, false
}

// mixed is a text of n bytes that look mixed, the same each time.
func mixed(n int, seed uint32) string {
	b := make([]byte, n)
	for i := range b {
		seed = seed*1664525 + 1013904223
		b[i] = byte(seed >> 24)
	}
	return string(b)
}

// isPlain tells that a word has but small letters, digits and strokes, or is the sign of the empty text.
func isPlain(w string) bool {
	return w == "_" || w != "" && strings.Trim(w, "-0123456789abcdefghijklmnopqrstuvwxyz") == ""
}

// checkThereAndBack checks that s is told as the words say, and read back.
func checkThereAndBack(t *testing.T, s string) {
	t.Helper()
	w := Of(s)
	if want := ofByWords(s); w != want || !isPlain(w) {
		t.Fatalf("Of(%q) = %q, want %q", s, w, want)
	}
	if back, ok := Read(w); !ok || back != s {
		t.Fatalf("Read(%q) = %q, %t, want %q, true", w, back, ok, s)
	}
}

// checkRead checks that w is read as the words say, and what is read is told so.
func checkRead(t *testing.T, w string) {
	t.Helper()
	s, ok := Read(w)
	if want, wantOk := readByWords(w); s != want || ok != wantOk {
		t.Fatalf("Read(%q) = %q, %t, want %q, %t", w, s, ok, want, wantOk)
	}
	if back := Of(s); ok && back != w {
		t.Fatalf("Of(%q) = %q, want %q, as it was read", s, back, w)
	}
}

// checkNone checks that w is no text's word.
func checkNone(t *testing.T, w string) {
	t.Helper()
	if s, ok := Read(w); ok || s != "" {
		t.Errorf("Read(%q) = %q, %t, want nothing, false", w, s, ok)
	}
}

// checkSplit checks that a line is split as the words say, and what is split is joined so.
func checkSplit(t *testing.T, line string) {
	t.Helper()
	l, ok := Split(line)
	if want, wantOk := splitByWords(line); ok != wantOk || !slices.Equal(l, want) {
		t.Fatalf("Split(%q) = %q, %t, want %q, %t", line, l, ok, want, wantOk)
	}
	if !ok {
		return
	}
	if back, ok := Join(l...); !ok || back != line {
		t.Fatalf("Join(%q) = %q, %t, want %q, as it was split", l, back, ok, line)
	}
}

// checkJoin checks that words are joined as the words say, and what is joined is split so.
func checkJoin(t *testing.T, words ...string) {
	t.Helper()
	line, ok := Join(words...)
	if want, wantOk := joinByWords(words...); ok != wantOk || line != want {
		t.Fatalf("Join(%q) = %q, %t, want %q, %t", words, line, ok, want, wantOk)
	}
	if !ok {
		return
	}
	if back, ok := Split(line); !ok || !slices.Equal(back, words) {
		t.Fatalf("Split(%q) = %q, %t, want %q, as it was joined", line, back, ok, words)
	}
}

// P5.1: Of and Read, of texts and their words.
func TestTold(t *testing.T) {
	for _, c := range told {
		if got := Of(c.s); got != c.w {
			t.Errorf("Of(%q) = %q, want %q", c.s, got, c.w)
		}
		if got, ok := Read(c.w); !ok || got != c.s {
			t.Errorf("Read(%q) = %q, %t, want %q, true", c.w, got, ok, c.s)
		}
	}
}

// P5.1: Of and Read of each byte alone: 36 stand as they are, all others as a stroke and two digits.
func TestEveryByte(t *testing.T) {
	alone := 0
	for x := range 256 {
		s, want := string([]byte{byte(x)}), fmt.Sprintf("-%02x", x)
		if x >= 'a' && x <= 'z' || x >= '0' && x <= '9' {
			want = s
			alone++
			checkNone(t, fmt.Sprintf("-%02x", x))
		} else {
			checkNone(t, s+s)
		}
		if got := Of(s); got != want {
			t.Errorf("Of(%q) = %q, want %q", s, got, want)
		}
		if got, ok := Read(want); !ok || got != s {
			t.Errorf("Read(%q) = %q, %t, want %q, true", want, got, ok, s)
		}
	}
	if alone != 36 {
		t.Errorf("%d bytes stand as they are, want 36", alone)
	}
}

// P5.1: Read of what is no text's word.
func TestReadNone(t *testing.T) {
	for _, w := range []string{
		"",
		// Bytes that don't stand as they are.
		"A", "Z", "aA", "Aa", "a b", " ", " a", "a ", "\n", "a\n", "\x00", "a\x00", "\xff", "\x80", "é", "aé", "日",
		"/", ":", "`", "{", "@", "+", "a,b", "a-20B", "a-20-42 ", " a-20-42", "\t",
		// Strokes with fewer than two digits behind them.
		"-", "--", "---", "-2", "-a", "a-", "a-2", "a-20-", "a-20-4", "-2-", "-2-0", "--2", "--20", "-20-", "-20-2", "-g0", "-0g", "-gg", "-zz",
		"- 2", "-2 ", "-+2", "--1", "-0x", "-x0", "-_0", "-0_", "-2\x00", "-2\xff", "-2é", "-é",
		// Digits that are capital.
		"-2D", "-FF", "-fF", "-Ff", "-0A", "-A0", "-5F", "-C3-A9", "a-20-4A",
		// Strokes for bytes that stand as they are.
		"-61", "-7a", "-30", "-39", "-62", "-35", "a-61", "-61a", "-20-61", "-2d-61", "-66",
		// The sign of the empty text beside others.
		"__", "_a", "a_", "a_b", "_-20", "-20_", "_ ", " _", "_\n", "-5f_", "_-5f", "___",
	} {
		checkNone(t, w)
	}
}

// P5.1: Read of each stroke and two bytes: 220 are words.
func TestReadStroke(t *testing.T) {
	words := 0
	eachOf(2, every(), func(pair string) {
		w := "-" + pair
		checkRead(t, w)
		if _, ok := Read(w); ok {
			words++
		}
	})
	if words != 220 {
		t.Errorf("%d are words, want 220", words)
	}
}

// P5.1: Read, as the words say, of all that has few bytes, and of what is made of those that matter.
func TestReadByWords(t *testing.T) {
	check := func(w string) { checkRead(t, w) }
	for n := range 3 {
		eachOf(n, every(), check)
	}
	for n := 3; n <= 4; n++ {
		eachOf(n, "-_ 0123679abdfgzADG\n\xff", check)
	}
	for n := 5; n <= 7; n++ {
		eachOf(n, "-_26daF", check)
	}
}

// P5.1: Read, as the words say, of words of which a byte is another one, is gone, or is one more, and of two in a row.
func TestReadChanged(t *testing.T) {
	for _, c := range told {
		for i := range len(c.w) {
			for x := range 256 {
				checkRead(t, c.w[:i]+string([]byte{byte(x)})+c.w[i+1:])
				checkRead(t, c.w[:i]+string([]byte{byte(x)})+c.w[i:])
			}
			checkRead(t, c.w[:i]+c.w[i+1:])
			checkRead(t, c.w[:i])
		}
		for _, d := range told {
			checkRead(t, c.w+d.w)
		}
	}
}

// P5.3: each text that is told is read, of few bytes and of many, of each kind of bytes; no two have one word.
func TestThereAndBack(t *testing.T) {
	texts := map[string]string{}
	check := func(s string) {
		checkThereAndBack(t, s)
		if other, ok := texts[Of(s)]; ok {
			t.Fatalf("%q and %q have one word", s, other)
		}
		texts[Of(s)] = s
	}
	for n := range 3 {
		eachOf(n, every(), check)
	}
	for n := 3; n <= 5; n++ {
		eachOf(n, "-_ a20AdF\n\x00\xff", check)
	}
	for n := range 300 {
		checkThereAndBack(t, mixed(n, uint32(n)))
		checkThereAndBack(t, strings.Repeat("a", n))
		checkThereAndBack(t, strings.Repeat("-", n))
		checkThereAndBack(t, strings.Repeat("_", n))
		checkThereAndBack(t, strings.Repeat("\xff", n))
	}
	checkThereAndBack(t, every())
}

// P5.3: a word's word is read back twice, and long texts too.
func TestThereAndBackLong(t *testing.T) {
	for _, c := range told {
		checkThereAndBack(t, c.w)
		checkThereAndBack(t, Of(c.w))
	}
	const n = 1 << 20
	for _, s := range []string{mixed(n, 1), strings.Repeat("a", n), strings.Repeat("-", n), strings.Repeat("\x00", n)} {
		w := Of(s)
		if back, ok := Read(w); !ok || back != s || !isPlain(w) {
			t.Errorf("of %d bytes of %q: not read back", n, s[:4])
		}
		checkNone(t, w+"-")
		checkNone(t, w+"_")
		checkNone(t, "A"+w)
	}
}

// P5.2: Join of words, whatever bytes they have, but for blanks and bytes 10.
func TestJoin(t *testing.T) {
	for _, c := range []struct {
		words []string
		want  string
	}{
		{nil, ""},
		{[]string{}, ""},
		{[]string{"a"}, "a"},
		{[]string{"a", "b"}, "a b"},
		{[]string{"a", "b", "c"}, "a b c"},
		{[]string{"c", "b", "a"}, "c b a"},
		{[]string{"a", "a", "a"}, "a a a"},
		{[]string{"abc", "09", "-20"}, "abc 09 -20"},
		{[]string{"_"}, "_"},
		{[]string{"_", "_"}, "_ _"},
		{[]string{Of("a B"), Of(""), Of("\n")}, "a-20-42 _ -0a"},
		// Words of which no text is the one told are joined too.
		{[]string{"A", "+"}, "A +"},
		{[]string{"-", "--"}, "- --"},
		{[]string{"\x00"}, "\x00"},
		{[]string{"\t", "\r", "\v", "\f"}, "\t \r \v \f"},
		{[]string{"\xff", "\x80", "\xc3"}, "\xff \x80 \xc3"},
		{[]string{"\u00a0", "\u0085", "\u2028", "日"}, "\u00a0 \u0085 \u2028 日"},
	} {
		if got, ok := Join(c.words...); !ok || got != c.want {
			t.Errorf("Join(%q) = %q, %t, want %q, true", c.words, got, ok, c.want)
		}
		if got, ok := Split(c.want); !ok || !slices.Equal(got, c.words) {
			t.Errorf("Split(%q) = %q, %t, want %q, true", c.want, got, ok, c.words)
		}
	}
	if got, ok := Join(); !ok || got != "" {
		t.Errorf("Join() = %q, %t, want the empty line, true", got, ok)
	}
}

// P5.2: Join of words of which one is empty, or has a blank or a byte 10, wherever it stands.
func TestJoinNone(t *testing.T) {
	for _, w := range []string{"", " ", "  ", " a", "a ", "a b", "\n", "\n\n", "\na", "a\n", "a\nb", " \n", "\xff ", "\xff\n", "aaaaaaaaaaaaaaaa b", "aaaaaaaaaaaaaaaa\nb"} {
		for _, words := range [][]string{
			{w}, {w, "b"}, {"a", w}, {"a", w, "c"}, {w, w}, {"a", "b", "c", w}, {w, "b", "c", "d"},
		} {
			if got, ok := Join(words...); ok || got != "" {
				t.Errorf("Join(%q) = %q, %t, want nothing, false", words, got, ok)
			}
		}
	}
}

// P5.2: Split of lines of which there are no words.
func TestSplitNone(t *testing.T) {
	for _, line := range []string{
		" ", "  ", "   ",
		" a", "a ", " a ", "a b ", " a b", "  a", "a  ",
		"a  b", "a  b c", "a b  c", "a   b", "a b  ", "  a b",
		"\n", "a\n", "\na", "a\nb", "a \nb", "a\n b", "a b\n", "\na b", "a b c\n", "\n\n", " \n", "\n ", "a \n b",
		"\xff ", " \xff", "\xff\n", "\xff  \xff",
	} {
		if l, ok := Split(line); ok || len(l) != 0 {
			t.Errorf("Split(%q) = %q, %t, want nothing, false", line, l, ok)
		}
	}
}

// P5.2: Split of each byte alone, beside others, and within a word: all but the blank and byte 10 may stand in one.
func TestSplitEveryByte(t *testing.T) {
	for x := range 256 {
		b := string([]byte{byte(x)})
		for _, words := range [][]string{{b}, {b, b}, {"a", b, "c"}, {"a" + b + "c", b + "a", "a" + b}} {
			line := strings.Join(words, " ")
			got, ok := Split(line)
			if x == ' ' || x == '\n' {
				words = nil
			}
			if ok != (words != nil) || !slices.Equal(got, words) {
				t.Errorf("Split(%q) = %q, %t, want %q", line, got, ok, words)
			}
		}
	}
}

// P5.2 and P5.3: Split, as the words say, of all lines of few bytes, and of those that are made of bytes that matter; what is split is joined so.
func TestSplitByWords(t *testing.T) {
	check := func(line string) { checkSplit(t, line) }
	for n := range 3 {
		eachOf(n, every(), check)
	}
	for n := 3; n <= 6; n++ {
		eachOf(n, " \na_-\t\xff", check)
	}
	for n := 7; n <= 14; n++ {
		eachOf(n, " a", check)
	}
}

// P5.2 and P5.3: Join, as the words say, of all lists of few words; what is joined is split so.
func TestJoinByWords(t *testing.T) {
	some := []string{"", " ", "\n", "a", "b", "-20", "_", "A", "\t", "\xff", "a b", "a\n"}
	checkJoin(t)
	for _, a := range some {
		checkJoin(t, a)
		for _, b := range some {
			checkJoin(t, a, b)
			for _, c := range some {
				checkJoin(t, a, b, c)
				checkJoin(t, a, b, c, a)
			}
		}
	}
}

// P5.3: texts that are told, joined, split and read, are what they were; also many, and no text at all.
func TestLineThereAndBack(t *testing.T) {
	check := func(texts ...string) {
		t.Helper()
		words := make([]string, len(texts))
		for i, s := range texts {
			words[i] = Of(s)
		}
		checkJoin(t, words...)
		line, _ := Join(words...)
		back, ok := Split(line)
		if !ok || len(back) != len(texts) {
			t.Fatalf("of %d texts: %d words, %t", len(texts), len(back), ok)
		}
		for i, w := range back {
			if s, ok := Read(w); !ok || s != texts[i] {
				t.Fatalf("text %d: %q, %t, want %q", i, s, ok, texts[i])
			}
		}
	}
	check()
	check("")
	check("", "", "")
	check(" ", "\n", "a b", "a\nb", "_", "-", "", "\xff")
	check(strings.Split(every(), "")...)
	var many []string
	for n := range 200 {
		many = append(many, mixed(n%7, uint32(n)))
	}
	check(many...)
}

// P5.2: lines of very many words, and of very long ones.
func TestLineLong(t *testing.T) {
	const n = 1 << 18
	for _, words := range [][]string{
		slices.Repeat([]string{"a"}, n),
		slices.Repeat([]string{"abc", "_"}, n/2),
		{strings.Repeat("a", n), strings.Repeat("-", n)},
	} {
		line, ok := Join(words...)
		if want := strings.Join(words, " "); !ok || line != want {
			t.Fatalf("of %d words: a line of %d bytes, %t, want %d", len(words), len(line), ok, len(want))
		}
		if back, ok := Split(line); !ok || !slices.Equal(back, words) {
			t.Errorf("of %d words: %d, %t", len(words), len(back), ok)
		}
		for _, wrong := range []string{line + " ", " " + line, line + "\n", line + "  a", "\n" + line} {
			if l, ok := Split(wrong); ok || len(l) != 0 {
				t.Errorf("of %d words, and one that is none: %d, %t", len(words), len(l), ok)
			}
		}
		if line, ok := Join(append(slices.Clone(words), "")...); ok || line != "" {
			t.Errorf("of %d words, and an empty one: a line of %d bytes, %t", len(words), len(line), ok)
		}
	}
	if l, ok := Split(strings.Repeat(" ", n)); ok || len(l) != 0 {
		t.Errorf("of blanks: %d words, %t", len(l), ok)
	}
}

// Rules 5 and 6: what is handed in stays, and what is answered is a list of its own, the same each time.
func TestKeeps(t *testing.T) {
	array := []string{"a", "b", "c", "", " "}
	was := slices.Clone(array)
	if line, ok := Join(array[:3]...); !ok || line != "a b c" {
		t.Errorf("Join(a, b, c) = %q, %t", line, ok)
	}
	if !slices.Equal(array, was) {
		t.Errorf("the words became %q, were %q", array, was)
	}
	one, _ := Split("a b c")
	two, _ := Split("a b c")
	one[0] = "z"
	_ = append(one[:1], "y")
	if three, _ := Split("a b c"); !slices.Equal(two, was[:3]) || !slices.Equal(three, was[:3]) {
		t.Errorf("Split answers %q and %q, want %q", two, three, was[:3])
	}
}
