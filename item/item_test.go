package item_test

import (
	"cmp"
	"fmt"
	"math"
	"slices"
	"strings"
	"testing"

	"winnower/api"
	"winnower/item"
	"winnower/ranges"
	"winnower/sample"
)

// Short names of what the calls take.
type (
	items = []api.Item
	texts = []api.Range
)

// What items are made of here: the tests of several layers have it together.
var (
	of, ver, dead = sample.Item, sample.Ver, sample.Dead
	bodied, prior = sample.Bodied, sample.Prior
	to, from      = sample.To, sample.From
	long          = sample.Long
)

// last is the greatest rank, and the greatest count.
const last = 1 << 40

// base is a right item, of which others are made by a change or two.
func base() api.Item {
	return bodied(prior(of("k", ver(2, 3), 4), 5), "body")
}

// of1 is a right item of a key, by the replica 1, that is told from others by its rank.
func of1(k string, rank int) api.Item {
	return of(k, ver(1, 1), rank)
}

// ranked is an item with another rank.
func ranked(x api.Item, rank int) api.Item {
	x.Rank = rank
	return x
}

// keyed is an item with another key.
func keyed(x api.Item, k string) api.Item {
	x.Key = k
	return x
}

// with is a list with some more items at a place.
func with(l items, i int, more ...api.Item) items {
	return slices.Concat(l[:i], more, l[i:])
}

// turned is a list, its last item first.
func turned(l items) items {
	out := slices.Clone(l)
	slices.Reverse(out)
	return out
}

// brief is what a message tells of something, cut where it goes on for long.
func brief(x any) string {
	s := fmt.Sprintf("%#v", x)
	return s[:min(len(s), 3000)]
}

// laid are copies of lists that all lie in one list, and that list: what stands behind each would win against most.
func laid(l ...items) ([]items, items) {
	return sample.Laid(l, of("k", ver(16, last), last))
}

// spoil writes over all of a list, and over what stands behind it.
func spoil(l items) {
	for i := range l {
		l[i] = of("spoilt", ver(9, 9), 9)
	}
	_ = append(l, of("spoilt", ver(9, 9), 9))
}

// checkRight holds Right of an item against what is wanted, and what hangs on it: whether it wins alone, and is a list and merged alone.
func checkRight(t *testing.T, x api.Item, want bool) {
	t.Helper()
	if got := item.Right(x); got != want {
		t.Fatalf("Right(%s) = %t, want %t", brief(x), got, want)
	}
	own := items{x}
	if got := item.List(own); got != want {
		t.Fatalf("List(%s) = %t, want %t", brief(own), got, want)
	}
	if !want {
		own = nil
	}
	if got := item.Merge(items{x}); !slices.Equal(got, own) {
		t.Fatalf("Merge of %s alone = %s, want %s", brief(x), brief(got), brief(own))
	}
	wantOne := api.Item{}
	if want {
		wantOne = x
	}
	if got, ok := item.Wins(x); got != wantOne || ok != want {
		t.Fatalf("Wins(%s) = %s, %t, want %t", brief(x), brief(got), ok, want)
	}
}

// checkCmp holds Cmp of two, either way round, against what is wanted.
func checkCmp(t *testing.T, a, b api.Item, want int) {
	t.Helper()
	if got := item.Cmp(a, b); got != want {
		t.Fatalf("Cmp(%s, %s) = %d, want %d", brief(a), brief(b), got, want)
	}
	if got := item.Cmp(b, a); got != -want {
		t.Fatalf("Cmp(%s, %s) = %d, want %d", brief(b), brief(a), got, -want)
	}
}

// checkWon holds Wins against what is wanted, and that what was handed in is as it was, and what stands behind it too.
func checkWon(t *testing.T, l items, want api.Item, found bool) {
	t.Helper()
	rows, all := laid(l)
	was := slices.Clone(all)
	if got, ok := item.Wins(rows[0]...); got != want || ok != found {
		t.Fatalf("Wins(%s) = %s, %t, want %s, %t", brief(l), brief(got), ok, brief(want), found)
	}
	if !slices.Equal(all, was) {
		t.Fatalf("Wins(%s) changed what was handed in", brief(l))
	}
}

// checkWins holds Wins against the words.
func checkWins(t *testing.T, l items) {
	t.Helper()
	want, found := sample.BestItem(l)
	checkWon(t, l, want, found)
}

// checkList holds List against the words.
func checkList(t *testing.T, l items) {
	t.Helper()
	rows, all := laid(l)
	was := slices.Clone(all)
	if got, want := item.List(rows[0]), sample.RightItems(l); got != want {
		t.Fatalf("List(%s) = %t, want %t", brief(l), got, want)
	}
	if !slices.Equal(all, was) {
		t.Fatalf("List(%s) changed what was handed in", brief(l))
	}
}

// checkFound holds Find against what is wanted, and that what was handed in is as it was.
func checkFound(t *testing.T, l items, k string, want int, found bool) {
	t.Helper()
	rows, all := laid(l)
	was := slices.Clone(all)
	if got, ok := item.Find(rows[0], k); got != want || ok != found {
		t.Fatalf("Find(%s, %.40q) = %d, %t, want %d, %t", brief(l), k, got, ok, want, found)
	}
	if !slices.Equal(all, was) {
		t.Fatalf("Find(%s, %.40q) changed what was handed in", brief(l), k)
	}
}

// checkFind holds Find against the words: how many Keys stand ahead, and whether there is one that is the same.
func checkFind(t *testing.T, l items, k string) {
	t.Helper()
	n, found := 0, false
	if sample.RightItems(l) {
		for _, x := range l {
			found = found || x.Key == k
			if x.Key < k {
				n++
			}
		}
	}
	checkFound(t, l, k, n, found)
}

// checkMerged holds Merge against what is wanted: it is right, what was handed in is as it was, and shares nothing with it.
func checkMerged(t *testing.T, want items, l ...items) {
	t.Helper()
	rows, all := laid(l...)
	was := slices.Clone(all)
	got := item.Merge(rows...)
	if !slices.Equal(got, want) {
		t.Fatalf("Merge(%s) = %s, want %s", brief(l), brief(got), brief(want))
	}
	if !item.List(got) || !sample.RightItems(got) {
		t.Fatalf("Merge(%s) = %s, which isn't right", brief(l), brief(got))
	}
	for i, row := range rows {
		if len(row) != len(l[i]) {
			t.Fatalf("Merge(%s) cut what was handed in", brief(l))
		}
	}
	spoil(got)
	if !slices.Equal(all, was) {
		t.Fatalf("Merge(%s) changed what was handed in, or shares it", brief(l))
	}
}

// checkMerge holds Merge against the words.
func checkMerge(t *testing.T, l ...items) {
	t.Helper()
	checkMerged(t, sample.BestItems(slices.Concat(l...)), l...)
}

// checkHeld holds In against what is wanted: what was handed in is as it was, and shares nothing with it.
func checkHeld(t *testing.T, l items, r texts, want items) {
	t.Helper()
	rows, all := laid(l)
	places, allRanges := sample.Laid([]texts{r}, from(""))
	was, wasRanges := slices.Clone(all), slices.Clone(allRanges)
	got := item.In(rows[0], places[0])
	if !slices.Equal(got, want) {
		t.Fatalf("In(%s, %s) = %s, want %s", brief(l), brief(r), brief(got), brief(want))
	}
	spoil(got)
	if !slices.Equal(all, was) || !slices.Equal(allRanges, wasRanges) {
		t.Fatalf("In(%s, %s) changed what was handed in, or shares it", brief(l), brief(r))
	}
}

// checkIn holds In against the words.
func checkIn(t *testing.T, l items, r texts) {
	t.Helper()
	var want items
	for _, x := range l {
		if sample.HasText(r, x.Key) {
			want = append(want, x)
		}
	}
	checkHeld(t, l, r, want)
}

// P18.1 to P18.3: the chapter's example.
func TestExample(t *testing.T) {
	a, b := of("k", ver(1, 7), 3), of("k", ver(5, 9), 2)
	checkCmp(t, a, b, 1)
	checkWon(t, items{a, b}, a, true)
	checkWon(t, items{b, a}, a, true)
	checkMerged(t, items{a}, items{a}, items{b})
	checkMerged(t, items{a}, items{b}, items{a})
	checkMerged(t, items{a}, items{b, a})
	if !item.Right(a) || !item.Right(b) || !item.List(items{a}) || item.List(items{a, b}) {
		t.Error("the example's items aren't right, or both are a list")
	}
	checkFound(t, items{a}, "k", 0, true)
	checkFound(t, items{a}, "l", 1, false)
	checkHeld(t, items{a, b}, texts{to("k", "l")}, items{a, b})
	checkHeld(t, items{a, b}, texts{to("l", "m")}, nil)
}

// P18.1: each number's edges, of an item that is right else: living and dead.
func TestRightNumbers(t *testing.T) {
	for _, c := range []struct {
		n                          int
		replica, count, rank, prio bool
	}{
		{math.MinInt, false, false, false, false}, {-last, false, false, false, false}, {-256, false, false, false, false}, {-255, false, false, false, false}, {-1, false, false, false, false},
		{0, false, false, false, true}, {1, true, true, true, true}, {2, true, true, true, true}, {15, true, true, true, true}, {16, true, true, true, true}, {api.MaxReplicas, true, true, true, true},
		{17, false, true, true, true}, {127, false, true, true, true}, {128, false, true, true, true}, {254, false, true, true, true}, {255, false, true, true, true}, {api.MaxPrio, false, true, true, true},
		{256, false, true, true, false}, {257, false, true, true, false}, {1 << 31, false, true, true, false}, {1 << 32, false, true, true, false}, {1<<32 + 1, false, true, true, false}, {last - 1, false, true, true, false},
		{last, false, true, true, false}, {api.MaxRank, false, true, true, false}, {api.MaxCount, false, true, true, false},
		{last + 1, false, false, false, false}, {last + 2, false, false, false, false}, {2 * last, false, false, false, false}, {1 << 48, false, false, false, false}, {math.MaxInt - 1, false, false, false, false}, {math.MaxInt, false, false, false, false},
	} {
		for _, x := range []api.Item{base(), dead(base()), of("k", ver(1, 1), 1), of("k", ver(16, last), last)} {
			y := x
			y.Ver.Replica = c.n
			checkRight(t, y, c.replica)
			y = x
			y.Ver.Count = c.n
			checkRight(t, y, c.count)
			checkRight(t, ranked(x, c.n), c.rank)
			checkRight(t, prior(x, c.n), c.prio)
		}
	}
}

// P18.1: keys and bodies of each length up to beyond the limit, and of any bytes, which are counted, and not runes; a dead item has no body.
func TestRightTexts(t *testing.T) {
	for _, letter := range []string{"a", "\x00", "\xff", " ", "\n", "\x80"} {
		for n := range 200 {
			s := long(letter, n)
			checkRight(t, keyed(base(), s), n >= 1 && n <= 16)
			checkRight(t, keyed(dead(base()), s), n >= 1 && n <= 16)
			checkRight(t, bodied(base(), s), n <= 64)
			checkRight(t, bodied(dead(base()), s), n == 0)
		}
	}
	for _, rune := range []string{"\u00e9", "\u20ac", "\U0001f600", "\ufffd"} {
		for n := range 70 {
			s := long(rune, n)
			checkRight(t, keyed(base(), s), n >= 1 && n*len(rune) <= 16)
			checkRight(t, bodied(base(), s), n*len(rune) <= 64)
		}
	}
	for _, s := range []string{long("a", 1<<20), long("\xff", 1<<20), long("a", 1<<16), long("a", 256), long("a", 257), long("a", 272), long("a", 320)} {
		checkRight(t, keyed(base(), s), false)
		checkRight(t, bodied(base(), s), false)
		checkRight(t, bodied(dead(base()), s), false)
	}
	checkRight(t, keyed(base(), sample.Every()[:16]), true)
	checkRight(t, bodied(base(), sample.Every()[192:]), true)
	checkRight(t, bodied(dead(base()), "\x00"), false)
}

// P18.1: right items at each edge, and those that aren't right, each for another reason.
func TestRightEdges(t *testing.T) {
	for _, x := range sample.EdgeItems() {
		checkRight(t, x, true)
	}
	for _, x := range sample.WrongItems() {
		checkRight(t, x, false)
	}
	checkRight(t, api.Item{}, false)
	checkRight(t, api.Item{Dead: true}, false)
}

// P18.1: Right, as the words say, of all items of some keys, numbers and bodies; how many are right is reckoned by hand.
func TestRightByWords(t *testing.T) {
	right, all := 0, 0
	for _, l := range sample.Lists([]int{0, 1, 2, 3}, 5) {
		if len(l) < 5 {
			continue
		}
		ends := []int{0, 1, last, last + 1}
		x := of([]string{"", "k", long("k", 16), long("k", 17)}[l[0]], ver([]int{0, 1, 16, 17}[l[1]], ends[l[2]]), ends[l[3]])
		x.Prio = []int{-1, 0, 255, 256}[l[4]]
		for _, body := range []string{"", "b", long("b", 64), long("b", 65)} {
			for _, x.Dead = range []bool{false, true} {
				x.Body = body
				checkRight(t, x, sample.RightItem(x))
				all++
				if item.Right(x) {
					right++
				}
			}
		}
	}
	// Of each of five two of four are right; of living ones three bodies, and of dead ones one.
	if right != 32*4 || all != 1024*8 {
		t.Errorf("%d of %d are right, want 128 of 8192", right, all)
	}
}

// P18.1: Cmp of two that are written out by hand: by Rank, then by Replica, then by Count, and by nothing else.
func TestCmp(t *testing.T) {
	x := base()
	for _, c := range []struct {
		a, b api.Item
		want int
	}{
		{x, x, 0}, {api.Item{}, api.Item{}, 0},
		// They differ in Rank, in Replica, in Count.
		{of("k", ver(1, 1), 2), of("k", ver(1, 1), 1), 1}, {of("k", ver(2, 1), 1), of("k", ver(1, 1), 1), 1}, {of("k", ver(1, 2), 1), of("k", ver(1, 1), 1), 1},
		{of("k", ver(1, 1), 1), of("k", ver(1, 1), last), -1}, {of("k", ver(1, 1), 1), of("k", ver(16, 1), 1), -1}, {of("k", ver(1, 1), 1), of("k", ver(1, last), 1), -1}, {of("k", ver(16, last), last), of("k", ver(16, last), last), 0},
		{of("k", ver(16, last), last), of("k", ver(16, last-1), last), 1}, {of("k", ver(16, last), last), of("k", ver(15, last), last), 1}, {of("k", ver(16, last), last), of("k", ver(16, last), last-1), 1},
		// What comes first counts, whatever comes then.
		{of("k", ver(1, 1), 3), of("k", ver(5, 1), 2), 1}, {of("k", ver(1, 1), 2), of("k", ver(16, last), 1), 1}, {of("k", ver(5, 9), 3), of("k", ver(5, 8), 4), -1}, {of("k", ver(2, 1), 7), of("k", ver(1, 9), 7), 1}, {of("k", ver(1, last), 7), of("k", ver(2, 1), 7), -1},
		{of("k", ver(2, 1), 1), of("k", ver(1, 1), 2), -1}, {of("k", ver(1, 2), 1), of("k", ver(1, 1), 2), -1}, {of("k", ver(1, 2), 1), of("k", ver(2, 1), 1), -1}, {of("k", ver(2, 2), 1), of("k", ver(1, 1), 2), -1},
		// Numbers, and not their digits.
		{of("k", ver(1, 1), 10), of("k", ver(1, 1), 9), 1}, {of("k", ver(10, 1), 1), of("k", ver(9, 1), 1), 1}, {of("k", ver(1, 10), 1), of("k", ver(1, 9), 1), 1}, {of("k", ver(1, 1), 1<<32), of("k", ver(1, 1), 1), 1}, {of("k", ver(1, 1), 1<<32+1), of("k", ver(1, 1), 1<<32), 1},
		// Nothing else counts.
		{keyed(x, "a"), keyed(x, "b"), 0}, {prior(x, 0), prior(x, 255), 0}, {bodied(x, ""), bodied(x, "z"), 0}, {x, dead(x), 0}, {keyed(dead(prior(x, 255)), "z"), x, 0},
		{keyed(ranked(x, 1), "z"), keyed(ranked(x, 2), "a"), -1}, {prior(ranked(x, 1), 255), prior(ranked(x, 2), 0), -1}, {bodied(ranked(x, 1), "z"), bodied(ranked(x, 2), "a"), -1}, {ranked(x, 1), dead(ranked(x, 2)), -1}, {dead(ranked(x, 1)), ranked(x, 2), -1},
		// Any, right or not: they aren't asked whether they are.
		{api.Item{}, x, -1}, {of("", ver(0, 0), 0), of("", ver(0, 0), -1), 1}, {of("", ver(17, 1), 1), of("k", ver(16, 1), 1), 1}, {of("k", ver(1, 1), last+1), of("k", ver(16, last), last), 1}, {prior(bodied(x, long("b", 65)), -1), x, 0}, {keyed(x, ""), keyed(x, long("k", 17)), 0},
		{bodied(dead(x), "b"), x, 0}, {of("k", ver(1, -1), 1), of("k", ver(1, 0), 1), -1}, {of("k", ver(-1, 1), 1), of("k", ver(0, 0), 1), -1},
		// What one has more is more than an int holds.
		{of("k", ver(1, 1), math.MaxInt), of("k", ver(1, 1), math.MinInt), 1}, {of("k", ver(math.MaxInt, 1), 1), of("k", ver(math.MinInt, 1), 1), 1}, {of("k", ver(1, math.MaxInt), 1), of("k", ver(1, math.MinInt), 1), 1},
		{of("k", ver(1, 1), math.MinInt), of("k", ver(1, 1), 1), -1}, {of("k", ver(1, 1), math.MaxInt), of("k", ver(1, 1), -1), 1}, {of("k", ver(math.MinInt, 1), 1), of("k", ver(1, 1), 1), -1}, {of("k", ver(1, math.MinInt), 1), of("k", ver(1, 1), 1), -1},
	} {
		checkCmp(t, c.a, c.b, c.want)
	}
}

// P18.1: Cmp of any two, by where their numbers stand in a list that is in order, whatever else they have.
func TestCmpByPlaces(t *testing.T) {
	numbers := []int{math.MinInt, -1, 0, 1, 2, 16, 17, 1 << 32, last, last + 1, math.MaxInt}
	var l items
	for _, rank := range numbers {
		for _, replica := range numbers {
			for _, count := range numbers {
				l = append(l, of("k", ver(replica, count), rank))
			}
		}
	}
	others := sample.EdgeItems()
	for i, a := range l {
		more := others[i%len(others)]
		a.Key, a.Prio, a.Dead, a.Body = more.Key, more.Prio, more.Dead, more.Body
		for j, b := range l {
			if got, want := item.Cmp(a, b), cmp.Compare(i, j); got != want {
				t.Fatalf("Cmp(%s, %s) = %d, want %d", brief(a), brief(b), got, want)
			}
		}
	}
}

// P18.1: Wins of lists that the words name: at which place the one that wins stands is told; -1, where none does.
func TestWins(t *testing.T) {
	x, low, high := base(), of("k", ver(1, 1), 1), of("k", ver(16, last), last)
	wrong := ranked(x, 0)
	best := prior(high, 256)
	for _, c := range []struct {
		l    items
		want int
	}{
		// None, one, several.
		{nil, -1}, {items{}, -1}, {items{x}, 0}, {items{low}, 0}, {items{high}, 0}, {items{low, x, high}, 2}, {items{high, x, low}, 0}, {items{low, high, x}, 1}, {items{dead(low)}, 0},
		// By Rank, by Replica, by Count, each at each place.
		{items{ranked(x, 2), ranked(x, 1)}, 0}, {items{ranked(x, 1), ranked(x, 2)}, 1}, {items{ranked(x, 3), ranked(x, 2), ranked(x, 4)}, 2}, {items{ranked(x, 3), ranked(x, 9), ranked(x, 4)}, 1}, {items{ranked(x, 10), ranked(x, 9), ranked(x, 4)}, 0},
		{items{of("k", ver(2, 1), 4), of("k", ver(1, 1), 4)}, 0}, {items{of("k", ver(2, 1), 4), of("k", ver(10, 1), 4), of("k", ver(9, 1), 4)}, 1}, {items{of("k", ver(1, 9), 4), of("k", ver(2, 8), 4)}, 1},
		{items{of("k", ver(1, 2), 4), of("k", ver(1, 1), 4)}, 0}, {items{of("k", ver(1, 8), 4), of("k", ver(1, 9), 4), of("k", ver(1, 10), 4)}, 2}, {items{of("k", ver(1, last-1), 4), of("k", ver(1, last), 4)}, 1},
		{items{of("k", ver(1, 1), 2), of("k", ver(16, last), 1)}, 0}, {items{of("k", ver(16, last), 1), of("k", ver(1, 1), 2)}, 1},
		// Those that are alike by their numbers: the first one, whatever else they have.
		{items{x, x}, 0}, {items{bodied(x, "a"), bodied(x, "b")}, 0}, {items{bodied(x, "b"), bodied(x, "a")}, 0}, {items{x, dead(x)}, 0}, {items{dead(x), x}, 0}, {items{prior(x, 0), prior(x, 255)}, 0}, {items{prior(x, 255), prior(x, 0)}, 0},
		{items{keyed(x, "z"), keyed(x, "a")}, 0}, {items{low, bodied(x, "a"), bodied(x, "b"), low}, 1}, {items{bodied(x, "a"), high, bodied(x, "b"), dead(high)}, 1}, {items{low, dead(low), dead(high), high, x, dead(high)}, 2},
		// Of several keys too.
		{items{keyed(low, "z"), keyed(x, "a")}, 1}, {items{keyed(x, "a"), keyed(high, "b"), keyed(low, "c")}, 1},
		// Those that aren't right don't count, wherever they stand.
		{items{wrong}, -1}, {items{{}}, -1}, {items{best}, -1}, {items{best, wrong, {}}, -1}, {items{best, low}, 1}, {items{low, best}, 0}, {items{best, low, best}, 1}, {items{wrong, best, low, x, best}, 3}, {items{{}, low, {}}, 1},
		{items{best, high}, 1}, {items{high, best}, 0}, {items{ranked(x, last+1), x}, 1}, {items{bodied(dead(high), "b"), high, dead(high)}, 1}, {items{bodied(dead(high), "b"), dead(high), high}, 1}, {sample.WrongItems(), -1},
		{append(sample.WrongItems(), low, x), len(sample.WrongItems()) + 1}, {append(items{low, x}, sample.WrongItems()...), 1},
	} {
		if c.want < 0 {
			checkWon(t, c.l, api.Item{}, false)
		} else {
			checkWon(t, c.l, c.l[c.want], true)
		}
		checkWins(t, c.l)
		checkWins(t, turned(c.l))
	}
	edges := sample.EdgeItems()
	checkWon(t, edges, edges[len(edges)-2], true)
	if got, ok := item.Wins(); ok || got != (api.Item{}) {
		t.Errorf("Wins() = %s, %t, want none", brief(got), ok)
	}
}

// P18.1: each item that isn't right, alone and beside right ones, which it may not win against.
func TestWinsWrong(t *testing.T) {
	low, x := of("k", ver(1, 1), 1), base()
	for _, wrong := range sample.WrongItems() {
		checkWon(t, items{wrong}, api.Item{}, false)
		checkWon(t, items{wrong, wrong}, api.Item{}, false)
		checkWon(t, items{wrong, low}, low, true)
		checkWon(t, items{low, wrong}, low, true)
		for i := range 3 {
			checkWon(t, with(items{low, x}, i, wrong), x, true)
			checkWon(t, with(items{x, low}, i, wrong, wrong), x, true)
		}
	}
}

// P18.1: all short lists of some items, right, alike, and not right, as the words say.
func TestWinsByWords(t *testing.T) {
	x := base()
	some := items{x, bodied(x, "b"), dead(x), ranked(x, 5), ranked(x, last), of("k", ver(3, 3), 4), of("k", ver(2, 4), 4), of("k", ver(2, 2), 4), prior(ranked(x, last), 256), {}}
	for _, l := range sample.Lists(some, 4) {
		checkWins(t, l)
	}
	for _, l := range sample.Lists(append(sample.EdgeItems(), sample.WrongItems()...), 2) {
		checkWins(t, l)
	}
}

// P18.2: List, of lists that the words name.
func TestList(t *testing.T) {
	for _, l := range []items{
		nil, {}, {of1("a", 1)}, {dead(of1("a", 1))}, {of1("a", 1), of1("b", 1)}, {of1("a", 1), of1("b", 1), of1("c", 1)}, {of1("a", 9), of1("b", 1), dead(of1("c", 5))}, {of1("a", 1), of1("a\x00", 1), of1("aa", 1), of1("b", 1)},
		{of1("\x00", 1), of1("\x00\x00", 1), of1("\x01", 1)}, {of1("a", 1), of1("\xff", 1), of1("\xff\xff", 1)}, {of1("\x7f", 1), of1("\x80", 1)}, {of1("Z", 1), of1("a", 1), of1("\u00e9", 1)}, {of1("10", 1), of1("9", 1)},
		{of1(long("k", 15), 1), of1(long("k", 16), 1), of1("l", 1)}, {of1("k", 1), of1(long("k", 16), 1)}, {of1(long("\x00", 16), 1), of1(long("\xff", 16), 1)}, {of1("\xed\xa0\x80", 1), of1("\xf0\x90\x80\x80", 1)},
		// Of one version, of one rank, and falling ones: they say nothing.
		{of("a", ver(2, 2), 2), of("b", ver(2, 2), 2), of("c", ver(1, 9), 1)},
	} {
		if !item.List(l) {
			t.Errorf("List(%s) = false, want true", brief(l))
		}
		checkList(t, l)
		for _, x := range l {
			checkMerged(t, l, l, items{x})
		}
	}
	a, b, c := of1("a", 1), of1("b", 1), of1("c", 1)
	for _, l := range []items{
		// Keys that don't rise.
		{b, a}, {c, b, a}, {a, c, b}, {b, a, c}, {b, c, a}, {of1("aa", 1), a}, {of1("a\x00", 1), a}, {of1("\x80", 1), of1("\x7f", 1)}, {of1("9", 1), of1("10", 1)}, {of1("a", 1), of1("Z", 1)}, {of1(long("k", 16), 1), of1(long("k", 15), 1)}, {of1("\xff\xff", 1), of1("\xff", 1)},
		{of1("\xf0\x90\x80\x80", 1), of1("\xed\xa0\x80", 1)},
		// One key twice, side by side or not, whatever else they have.
		{a, a}, {a, b, b}, {a, a, b}, {a, b, a}, {a, b, c, b}, {a, dead(a)}, {a, of1("a", 2)}, {of1("a", 2), a}, {of1(long("k", 16), 1), of1(long("k", 16), 2)},
		// One that isn't right, at each place.
		{{}}, {{}, {}}, {{}, a}, {a, {}}, {a, {}, b}, {ranked(a, 0), b, c}, {a, ranked(b, 0), c}, {a, b, ranked(c, 0)}, {a, b, keyed(c, long("c", 17))}, {keyed(a, ""), b}, {a, bodied(dead(b), "b"), c}, {a, prior(b, 256)}, {a, of("b", ver(17, 1), 1)},
	} {
		if item.List(l) {
			t.Errorf("List(%s) = true, want false", brief(l))
		}
		checkList(t, l)
		for _, k := range []string{"", "a", "b", "bb", "c", "z"} {
			checkFound(t, l, k, 0, false)
		}
	}
}

// P18.2: a right list with one that isn't right in it, or in the place of one, and with one twice or changed with the next one, isn't right.
func TestListSpoilt(t *testing.T) {
	l := items{of1("a", 3), dead(of1("b", 2)), of1("k", 1), of1("kk", 9), of1("z", 4)}
	for i, own := range l {
		for _, wrong := range sample.WrongItems() {
			for _, wrong := range []api.Item{wrong, keyed(wrong, own.Key)} {
				spoilt := slices.Clone(l)
				spoilt[i] = wrong
				checkList(t, spoilt)
				checkList(t, with(l, i, wrong))
				checkFind(t, spoilt, "k")
				checkFind(t, with(l, i, wrong), "k")
			}
		}
		for j := range l {
			if item.List(with(l, j, own)) {
				t.Errorf("a list with %s twice is right", brief(own))
			}
			moved := slices.Clone(l)
			moved[i], moved[j] = moved[j], moved[i]
			if item.List(moved) != (i == j) {
				t.Errorf("List(%s) = %t", brief(moved), i != j)
			}
			checkFound(t, with(l, j, own), "z", 0, false)
		}
		left := slices.Delete(slices.Clone(l), i, i+1)
		if !item.List(left) {
			t.Errorf("List(%s) = false, want true", brief(left))
		}
	}
}

// P18.2: Find, of lists and texts that the words name.
func TestFind(t *testing.T) {
	l := items{of1("b", 1), of1("d", 9), of1("da", 3), of1("\x80", 4)}
	for _, c := range []struct {
		l     items
		k     string
		want  int
		found bool
	}{
		// Lists of none and of one.
		{nil, "", 0, false}, {nil, "a", 0, false}, {items{}, "a", 0, false}, {items{}, long("k", 17), 0, false}, {items{of1("b", 1)}, "b", 0, true}, {items{of1("b", 1)}, "a", 0, false}, {items{of1("b", 1)}, "c", 1, false}, {items{of1("b", 1)}, "", 0, false},
		{items{dead(of1("b", 1))}, "b", 0, true}, {items{of1("b", 1)}, "b\x00", 1, false}, {items{of1("b", 1)}, "bb", 1, false}, {items{of1("bb", 1)}, "b", 0, false}, {items{of1("b", 1)}, "B", 0, false},
		// Each key, and between them, and ahead, and behind.
		{l, "b", 0, true}, {l, "d", 1, true}, {l, "da", 2, true}, {l, "\x80", 3, true}, {l, "a", 0, false}, {l, "a\xff", 0, false}, {l, "b\x00", 1, false}, {l, "c", 1, false}, {l, "c\xff\xff", 1, false}, {l, "d\x00", 2, false}, {l, "d`", 2, false}, {l, "da\x00", 3, false}, {l, "e", 3, false},
		{l, "\x7f", 3, false}, {l, "\x7f\xff", 3, false}, {l, "\x80\x00", 4, false}, {l, "\x81", 4, false}, {l, "\xff", 4, false}, {l, "B", 0, false}, {l, "\uFFFD", 4, false}, {l, "\u0080", 4, false},
		// Texts that are no keys.
		{l, "", 0, false}, {l, long("a", 17), 0, false}, {l, long("b", 17), 1, false}, {l, long("c", 1<<20), 1, false}, {l, "d" + long("\x00", 17), 2, false}, {l, "d" + long("z", 17), 3, false}, {l, long("\xff", 17), 4, false}, {l, long("\xff", 1<<20), 4, false}, {l, long("\x00", 1<<20), 0, false},
		{items{of1(long("k", 16), 1)}, long("k", 16), 0, true}, {items{of1(long("k", 16), 1)}, long("k", 17), 1, false}, {items{of1(long("k", 16), 1)}, long("k", 15), 0, false}, {items{of1("\x00", 1)}, "", 0, false}, {items{of1("\x00", 1)}, "\x00", 0, true},
		// A list that isn't right, though the key stands in it, and though the part that is searched may be.
		{items{of1("b", 1), of1("a", 1)}, "b", 0, false}, {items{of1("b", 1), of1("a", 1)}, "c", 0, false}, {items{of1("a", 1), of1("b", 1), of1("b", 2)}, "b", 0, false}, {items{of1("a", 1), of1("b", 1), of1("c", 0)}, "b", 0, false}, {items{of1("a", 0), of1("b", 1), of1("c", 1)}, "b", 0, false},
		{items{of1("a", 1), of1("b", 0), of1("c", 1)}, "c", 0, false}, {items{of1("", 1), of1("b", 1)}, "b", 0, false}, {items{{}}, "", 0, false}, {items{of1("a", 1), of1("b", 1), of1("c", 1), of1("e", 1), of1("d", 1)}, "b", 0, false}, {items{of1("a", 1), of1(long("b", 17), 1)}, "c", 0, false},
	} {
		checkFound(t, c.l, c.k, c.want, c.found)
		checkFind(t, c.l, c.k)
	}
}

// P18.2: List and Find of all short lists of some items, as the words say.
func TestListsByWords(t *testing.T) {
	some := items{of1("a", 1), of1("b", 2), dead(of1("b", 2)), of1("b\x00", 1), of1("c", 5), of1("\xff", 1), of1("c", 0), {}}
	near := sample.Near([]string{"a", "b", "b\x00", "c", "\xff"})
	right := 0
	for _, l := range sample.Lists(some, 4) {
		checkList(t, l)
		if item.List(l) {
			right++
		}
		for _, k := range append(near, "", "`", long("b", 17)) {
			checkFind(t, l, k)
		}
	}
	// Of five keys, one of which two items have: how many ways there are to take up to four.
	if want := 1 + 6 + (6 + 4*2) + (4 + 6*2) + (1 + 4*2); right != want {
		t.Errorf("%d lists are right, want %d", right, want)
	}
}

// P18.2: Find of each key of lists of each length, and between each two.
func TestFindEach(t *testing.T) {
	for n := range 70 {
		var l items
		for i := range n {
			l = append(l, of1(fmt.Sprintf("k%03d", i), 1+i))
		}
		checkFound(t, l, "k", 0, false)
		for i := range n {
			k := l[i].Key
			checkFound(t, l, k, i, true)
			checkFound(t, l, k+"\x00", i+1, false)
			checkFound(t, l, k+"z", i+1, false)
			checkFound(t, l, k[:3]+string([]byte{k[3] - 1})+"\xff", i, false)
		}
	}
}

// P18.3: Merge, of lists that the words name.
func TestMerge(t *testing.T) {
	a, b, c := of1("a", 1), of1("b", 2), of1("c", 3)
	high := of("b", ver(16, last), last)
	for _, x := range []struct {
		l    []items
		want items
	}{
		// No list, lists of none, one list.
		{nil, nil}, {[]items{}, nil}, {[]items{nil}, nil}, {[]items{nil, {}, nil}, nil}, {[]items{{a}}, items{a}}, {[]items{{a, b, c}}, items{a, b, c}}, {[]items{nil, {a, b}, {}}, items{a, b}}, {[]items{{dead(a)}}, items{dead(a)}},
		// Lists that share no key, in any order.
		{[]items{{a}, {b}}, items{a, b}}, {[]items{{b}, {a}}, items{a, b}}, {[]items{{c}, {b}, {a}}, items{a, b, c}}, {[]items{{a, c}, {b}}, items{a, b, c}}, {[]items{{b}, {a, c}}, items{a, b, c}}, {[]items{{of1("\x80", 1)}, {of1("\x7f", 1)}, {of1("a\x00", 1), of1("aa", 1)}, {a}}, items{a, of1("a\x00", 1), of1("aa", 1), of1("\x7f", 1), of1("\x80", 1)}},
		// Lists that share keys: of each the one that wins, by Rank, by Replica, by Count.
		{[]items{{a, b, c}, {a, b, c}}, items{a, b, c}}, {[]items{{b}, {ranked(b, 3)}}, items{ranked(b, 3)}}, {[]items{{ranked(b, 3)}, {b}}, items{ranked(b, 3)}}, {[]items{{a, b}, {high, c}}, items{a, high, c}}, {[]items{{high, c}, {a, b}}, items{a, high, c}},
		{[]items{{of("b", ver(2, 1), 2)}, {of("b", ver(1, 9), 2)}, {of("b", ver(10, 1), 2)}, {of("b", ver(9, 1), 2)}}, items{of("b", ver(10, 1), 2)}}, {[]items{{of("b", ver(1, 1), 2)}, {of("b", ver(1, 10), 2)}, {of("b", ver(1, 9), 2)}}, items{of("b", ver(1, 10), 2)}},
		{[]items{{ranked(a, 5), b}, {a, ranked(b, 5)}}, items{ranked(a, 5), ranked(b, 5)}}, {[]items{{a, b, c}, {ranked(a, 9)}, {ranked(c, 9)}, {dead(ranked(b, 9))}}, items{ranked(a, 9), dead(ranked(b, 9)), ranked(c, 9)}}, {[]items{{dead(ranked(b, 1))}, {b}}, items{b}},
		// Those that are alike: the first one, of the first list.
		{[]items{{bodied(b, "x")}, {bodied(b, "y")}}, items{bodied(b, "x")}}, {[]items{{bodied(b, "y")}, {bodied(b, "x")}}, items{bodied(b, "y")}}, {[]items{{b}, {dead(b)}}, items{b}}, {[]items{{dead(b)}, {b}}, items{dead(b)}}, {[]items{{prior(b, 1)}, {prior(b, 9)}, {prior(b, 5)}}, items{prior(b, 1)}},
		{[]items{{a, b}, {bodied(b, "x"), c}, {bodied(a, "y")}}, items{a, b, c}}, {[]items{{a}, {bodied(high, "x"), c}, {b}, {dead(high)}, {high}}, items{a, bodied(high, "x"), c}},
		// Lists that aren't right: out of order, one key more than once.
		{[]items{{c, b, a}}, items{a, b, c}}, {[]items{{b, a}, {c, b}}, items{a, b, c}}, {[]items{{b, high, b}}, items{high}}, {[]items{{high, b}}, items{high}}, {[]items{{bodied(b, "x"), bodied(b, "y")}}, items{bodied(b, "x")}}, {[]items{{c, bodied(b, "x"), a, bodied(b, "y")}, {high, a}, {bodied(a, "z")}}, items{a, high, c}},
		// Items that aren't right, which win against none, and are in no list.
		{[]items{{{}}}, nil}, {[]items{{ranked(b, 0)}}, nil}, {[]items{{prior(high, 256)}, {b}}, items{b}}, {[]items{{b}, {bodied(dead(high), "x")}}, items{b}}, {[]items{{a, ranked(b, last+1), c}, {b}}, items{a, b, c}}, {[]items{{a, ranked(b, last+1), c}}, items{a, c}}, {[]items{{keyed(a, "")}, {a}, {keyed(a, long("a", 17))}}, items{a}},
		{[]items{sample.WrongItems()}, nil}, {[]items{sample.WrongItems(), {b}, sample.WrongItems()}, items{b}}, {[]items{{prior(high, 256), bodied(high, "x"), ranked(high, last+1)}, {high}}, items{bodied(high, "x")}},
		// Keys of the shortest and of the longest length.
		{[]items{{of1(long("k", 16), 1)}, {of1("k", 1)}, {of1(long("k", 16), 2)}, {of1(long("k", 15), 1)}, {of1(long("k", 17), 9)}}, items{of1("k", 1), of1(long("k", 15), 1), of1(long("k", 16), 2)}}, {[]items{{of1(long("\xff", 16), 1)}, {of1("\x00", 1)}, {of1(long("\x00", 16), 1)}}, items{of1("\x00", 1), of1(long("\x00", 16), 1), of1(long("\xff", 16), 1)}},
	} {
		checkMerged(t, x.want, x.l...)
		checkMerged(t, x.want, x.want)
		checkMerged(t, x.want, append(slices.Clone(x.l), x.l...)...)
		checkMerged(t, x.want, slices.Concat(x.l...))
		checkMerged(t, x.want, x.want, slices.Concat(x.l...))
		turned := slices.Clone(x.l)
		slices.Reverse(turned)
		checkMerge(t, turned...)
	}
	if got := item.Merge(); len(got) != 0 {
		t.Errorf("Merge() = %s, want none", brief(got))
	}
}

// P18.3: each item that isn't right is left out, of the first list, of the last one, and at each place, whatever its Key.
func TestMergeWrong(t *testing.T) {
	l := items{of1("a", 3), of("k", ver(2, 3), 1), of1("z", 4)}
	for _, wrong := range sample.WrongItems() {
		checkMerged(t, nil, items{wrong})
		checkMerged(t, nil, items{wrong, wrong}, items{wrong})
		checkMerged(t, l, items{wrong}, l)
		checkMerged(t, l, l, items{wrong})
		for i := range len(l) + 1 {
			checkMerged(t, l, with(l, i, wrong))
			checkMerged(t, l, l[:i], items{wrong, wrong}, l[i:])
			checkMerged(t, l, turned(with(l, i, wrong)))
		}
	}
	for _, x := range sample.EdgeItems() {
		checkMerge(t, l, items{x})
		checkMerge(t, items{x}, l, items{dead(x)})
		checkMerge(t, items{dead(x)}, l, items{x})
	}
}

// P18.3: all pairs of short lists of some items, and all short rows of lists, as the words say.
func TestMergeByWords(t *testing.T) {
	some := items{of1("a", 1), of1("a", 2), dead(of1("a", 2)), of("a", ver(2, 1), 1), of1("b", 1), bodied(of1("b", 1), "x"), of1("b", last+1)}
	lists := sample.Lists(some, 2)
	for _, a := range lists {
		for _, b := range lists {
			checkMerge(t, a, b)
		}
	}
	for _, l := range sample.Lists(some, 4) {
		checkMerge(t, l)
	}
	for _, l := range sample.Lists([]items{nil, {some[0], some[4]}, {some[2], some[5]}, {some[1]}, {some[5], some[3]}, {some[6], {}}}, 4) {
		checkMerge(t, l...)
	}
}

// P18.3: drawn lists, as the words say; what is merged is merged again, in whatever parts.
func TestMergeDrawn(t *testing.T) {
	keys := []string{"a", "a\x00", "b", "k", long("k", 16), "\x7f", "\x80", "\xff", "", long("k", 17)}
	for seed := range 2000 {
		roll := sample.Draw(seed)
		var l []items
		for range roll(6) {
			l = append(l, sample.DrawnItems(roll, 30, keys[:1+roll(len(keys))]))
		}
		checkMerge(t, l...)
		want := item.Merge(l...)
		checkMerged(t, want, slices.Concat(l...))
		i := roll(len(l) + 1)
		checkMerged(t, want, item.Merge(l[:i]...), item.Merge(l[i:]...))
		for _, x := range want {
			if best, ok := item.Wins(ofKey(slices.Concat(l...), x.Key)...); !ok || best != x {
				t.Fatalf("of %q %s wins, but %s is merged", x.Key, brief(best), brief(x))
			}
		}
	}
}

// ofKey are the items of a list that have a key, as they stand.
func ofKey(l items, k string) items {
	return slices.DeleteFunc(slices.Clone(l), func(x api.Item) bool { return x.Key != k })
}

// P18.3: In, of lists and ranges that the words name.
func TestIn(t *testing.T) {
	a, b, c := of1("a", 1), of1("b", 2), of1("c", 3)
	l := items{a, b, c}
	for _, x := range []struct {
		l    items
		r    texts
		want items
	}{
		// None of both.
		{nil, nil, nil}, {items{}, texts{}, nil}, {nil, texts{from("")}, nil}, {l, nil, nil}, {l, texts{}, nil},
		// One range: all, some, none of them; its beginning, and not its end.
		{l, texts{from("")}, l}, {l, texts{to("a", "d")}, l}, {l, texts{to("a", "c")}, items{a, b}}, {l, texts{to("b", "c")}, items{b}}, {l, texts{from("b")}, items{b, c}}, {l, texts{from("c")}, items{c}}, {l, texts{from("c\x00")}, nil}, {l, texts{to("", "a")}, nil}, {l, texts{to("", "a\x00")}, items{a}},
		{l, texts{to("a\x00", "b")}, nil}, {l, texts{to("a\x00", "b\x00")}, items{b}}, {l, texts{to("b", "b\x00")}, items{b}}, {l, texts{to("d", "e")}, nil}, {items{a}, texts{to("a", "a\x00")}, items{a}}, {items{a}, texts{to("b", "c")}, nil},
		// Several ranges.
		{l, texts{to("a", "b"), to("c", "d")}, items{a, c}}, {l, texts{to("", "a"), to("b", "c"), from("x")}, items{b}}, {l, texts{to("a", "a\x00"), to("b", "b\x00"), to("c", "c\x00")}, l}, {l, texts{to("", "a"), to("a\x00", "b"), to("b\x00", "c"), from("c\x00")}, nil}, {l, texts{to("A", "B"), from("b")}, items{b, c}},
		// Ranges that aren't a right list: out of order, on top of one another, side by side, more than once.
		{l, texts{to("c", "d"), to("a", "b")}, items{a, c}}, {l, texts{from("c"), to("a", "b")}, items{a, c}}, {l, texts{to("a", "c"), to("b", "d")}, l}, {l, texts{to("a", "d"), to("b", "c")}, l}, {l, texts{to("b", "c"), to("a", "d")}, l}, {l, texts{from(""), to("a", "b")}, l}, {l, texts{to("a", "b"), from("")}, l},
		{l, texts{to("a", "b"), to("b", "c")}, items{a, b}}, {l, texts{to("b", "c"), to("b", "c")}, items{b}}, {l, texts{from("a"), to("b", "b\x00"), to("c", "d")}, l}, {l, texts{to("a", "z"), to("a", "b")}, l}, {l, texts{to("a", "b"), to("a", "z")}, l}, {l, texts{to("", "z"), to("a", "a\x00"), to("b", "b\x00")}, l},
		// Ranges that aren't right have nothing.
		{l, texts{{}}, nil}, {l, texts{to("b", "a")}, nil}, {l, texts{to("a", "a")}, nil}, {l, texts{{Lo: "a", Hi: "z", Open: true}}, nil}, {l, texts{from(long("a", 18))}, nil}, {l, texts{to("", long("z", 18))}, nil}, {l, texts{to("z", "a"), to("b", "c"), {}}, items{b}}, {l, texts{to("b", "c"), to("b", "a")}, items{b}}, {l, sample.Wrong(), nil},
		{l, append(sample.Wrong(), to("b", "z")), items{b, c}}, {l, append(texts{to("b", "z")}, sample.Wrong()...), items{b, c}},
		// Lists in any order, of one key more than once: as they stand.
		{items{c, a, b}, texts{from("")}, items{c, a, b}}, {items{c, b, a}, texts{to("b", "d")}, items{c, b}}, {items{b, a, ranked(b, 9), dead(b), a}, texts{to("b", "c")}, items{b, ranked(b, 9), dead(b)}}, {items{a, a, a}, texts{to("a", "b")}, items{a, a, a}}, {items{ranked(a, 9), a}, texts{from("a")}, items{ranked(a, 9), a}},
		// Items that aren't right, and Keys that are none: the ranges may have them.
		{items{ranked(b, 0), a, prior(b, 256)}, texts{to("b", "c")}, items{ranked(b, 0), prior(b, 256)}}, {items{{}, a}, texts{from("")}, items{{}, a}}, {items{{}, a}, texts{to("", "a")}, items{{}}}, {items{{}, a}, texts{from("a")}, items{a}}, {items{keyed(a, long("k", 17)), keyed(a, long("k", 1000))}, texts{to("k", "l")}, items{keyed(a, long("k", 17)), keyed(a, long("k", 1000))}},
		{sample.WrongItems(), texts{from("")}, sample.WrongItems()}, {items{keyed(a, long("\xff", 1000))}, texts{from(long("\xff", 17))}, items{keyed(a, long("\xff", 1000))}}, {items{keyed(a, long("k", 16)), keyed(a, long("k", 17)), keyed(a, long("k", 18))}, texts{to(long("k", 16), long("k", 17))}, items{keyed(a, long("k", 16))}},
		// Byte by byte, as numbers.
		{items{of1("Z", 1), of1("a", 1), of1("\x7f", 1), of1("\x80", 1), of1("\xff", 1)}, texts{to("a", "\x80")}, items{of1("a", 1), of1("\x7f", 1)}}, {items{of1("\x7f", 1), of1("\x80", 1), of1("\xff", 1)}, texts{from("\x80")}, items{of1("\x80", 1), of1("\xff", 1)}},
	} {
		checkHeld(t, x.l, x.r, x.want)
		checkIn(t, x.l, x.r)
		checkHeld(t, turned(x.l), x.r, turned(x.want))
		back := slices.Clone(x.r)
		slices.Reverse(back)
		checkHeld(t, x.l, append(back, x.r...), x.want)
	}
}

// P18.3: In, of all short lists of ranges by some edges, right or not, and of items near these, as the words say.
func TestInByWords(t *testing.T) {
	var l items
	for i, k := range sample.Near([]string{"", "a", "b", "c"}) {
		l = append(l, of1(k, i))
	}
	all := sample.All([]string{"", "a", "b", "c"})
	for _, r := range sample.Lists(all, 2) {
		checkIn(t, l, r)
	}
	some := texts{to("", "a"), to("a", "b"), to("b", "c"), to("a", "c"), from("b"), to("c", "b"), {Lo: "a", Hi: "c", Open: true}}
	for _, r := range sample.Lists(some, 4) {
		checkIn(t, l, r)
	}
	for _, wrong := range sample.Wrong() {
		checkHeld(t, l, texts{wrong}, nil)
		checkIn(t, l, texts{wrong, to("a", "b")})
		checkIn(t, l, texts{to("a", "b"), wrong, from("c")})
	}
}

// P18.3: In, of drawn items and drawn ranges, as the words say; what the ranges have, and what they haven't, is all.
func TestInDrawn(t *testing.T) {
	edges := sample.Edges()
	for seed := range 3000 {
		roll := sample.Draw(seed)
		l := sample.DrawnItems(roll, 40, edges)
		r := slices.Concat(sample.DrawnRanges(roll, edges), sample.DrawnRanges(roll, edges[roll(len(edges)):]))
		checkIn(t, l, r)
		in := item.In(l, r)
		checkHeld(t, in, r, in)
		if out := item.In(l, ranges.Not(r)); len(in)+len(out) != len(l) {
			t.Fatalf("of %s %s have %s, and the others %s", brief(l), brief(r), brief(in), brief(out))
		}
	}
}

// P18.3: of more items than MaxItems, which no words of the chapter forbid, all are merged, found, and told.
func TestMoreThanMaxItems(t *testing.T) {
	var l items
	for i := range api.MaxItems + 2 {
		l = append(l, of1(fmt.Sprintf("%08d", i), 1+i%7))
	}
	checkMerged(t, l, l[:api.MaxItems], l[api.MaxItems-1:])
	checkMerged(t, l, turned(l))
	if !item.List(l) {
		t.Error("a list of more than MaxItems isn't right")
	}
	checkFound(t, l, l[api.MaxItems+1].Key, api.MaxItems+1, true)
	checkFound(t, l, "1", api.MaxItems+2, false)
	checkHeld(t, l, texts{from("")}, l)
}

// P18.3: of many that are alike by their numbers the first one stays, also among very many, and those of other keys.
func TestFirstOfMany(t *testing.T) {
	for _, n := range []int{2, 3, 11, 12, 13, 20, 21, 50, 51, 200, 1000} {
		for keys := 1; keys <= 4; keys++ {
			var l, want items
			for i := range n {
				l = append(l, bodied(of1(fmt.Sprint((i*7)%keys), 1), fmt.Sprint(i)))
			}
			for k := range keys {
				if own := ofKey(l, fmt.Sprint(k)); len(own) > 0 {
					want = append(want, own[0])
				}
			}
			checkMerged(t, want, l)
			checkMerged(t, want, l[:n/2], l[n/2:])
			checkWon(t, l, l[0], true)
		}
	}
}

// Rule 1: very many items, lists and ranges, and very long texts, come to an end.
func TestMany(t *testing.T) {
	const n = 1 << 17
	var l, one items
	var each []items
	var r texts
	for i := range n {
		k := fmt.Sprintf("%08d", i)
		x := of(k, ver(1+i%16, 1+i), 1+i%5)
		l = append(l, x)
		each = append(each, items{x})
		one = append(one, ranked(keyed(x, "k"), 1+i))
		r = append(r, to(k, k+"a"))
	}
	slices.Reverse(each)
	checkMerged(t, l, each...)
	checkMerged(t, l, turned(l), l)
	checkMerged(t, items{one[n-1]}, one)
	checkMerged(t, items{one[n-1]}, turned(one))
	checkWon(t, one, one[n-1], true)
	checkFound(t, l, l[n-1].Key, n-1, true)
	checkFound(t, l, l[n-1].Key+"\x00", n, false)
	checkHeld(t, l, r, l)
	slices.Reverse(r)
	checkHeld(t, turned(l), r, turned(l))
	checkHeld(t, one, r, nil)
	for i := range r {
		r[i] = from(r[i].Lo)
	}
	checkHeld(t, one, r, one)
	checkHeld(t, l, append(r, from("")), l)
	huge := strings.Repeat("\xff", 1<<24)
	checkRight(t, keyed(base(), huge), false)
	checkRight(t, bodied(base(), huge), false)
	checkHeld(t, items{keyed(base(), huge)}, texts{from(long("\xff", 17))}, items{keyed(base(), huge)})
	checkFound(t, l, huge, n, false)
}
