package icode_test

import (
	"bytes"
	"math"
	"slices"
	"testing"

	"winnower/api"
	"winnower/icode"
	"winnower/item"
	"winnower/sample"
)

// items is a short name of what the calls take and answer.
type items = []api.Item

// last is the greatest rank, and the greatest count.
const last = 1 << 40

// What items and bytes are made by here: the tests of several layers have it together.
var (
	of, ver, dead = sample.Item, sample.Ver, sample.Dead
	bodied, prior = sample.Bodied, sample.Prior
	number, made  = sample.NumberBytes, sample.Made
	long          = sample.Long
)

// least is an item of a key that has nothing but what it must have.
func least(k string) api.Item {
	return of(k, ver(1, 1), 1)
}

// end are the bytes of such an item behind its Key.
func end() []byte {
	return []byte{1, 1, 1, 0, 0, 0}
}

// leasts are such items, of some keys.
func leasts(keys ...string) items {
	var l items
	for _, k := range keys {
		l = append(l, least(k))
	}
	return l
}

// lay copies a list to where it has room, with something in it.
func lay(l items) (items, func() bool) {
	return sample.LayOne(l, bodied(of("overwritten", ver(16, last), last), "over"))
}

// ofLists is what is asked of lists.
func ofLists() sample.Code[api.Item] {
	return sample.Code[api.Item]{
		Name: "Items", Put: func(l items) ([]byte, api.Errno) { return icode.Items(l...) }, Read: icode.ReadItems, Most: 4096,
		Right: func(l items) bool {
			return !slices.ContainsFunc(l, func(x api.Item) bool { return !sample.RightItem(x) })
		},
		All: sample.ItemsBytes, Next: (*sample.Words).Items,
		Same: slices.Equal[items], Spoil: sample.SpoilOne[api.Item], Lay: lay,
	}
}

// ofOne is what is asked of items, each of which is a list of its own here.
func ofOne() sample.Code[api.Item] {
	return sample.Code[api.Item]{
		Name: "Item", Put: putOne, Read: readOne, Most: 1,
		Right: func(l items) bool { return len(l) == 1 && sample.RightItem(l[0]) },
		All:   oneBytes, Next: func(w *sample.Words) items { return items{w.Item("")} },
		Same: slices.Equal[items], Spoil: sample.SpoilOne[api.Item], Lay: lay,
	}
}

// putOne puts the one item of a list.
func putOne(l items) ([]byte, api.Errno) {
	if len(l) != 1 {
		return nil, api.ErrArg
	}
	return icode.Item(l[0])
}

// readOne reads an item; beside an error a list that has one tells that it isn't the zero one.
func readOne(b []byte) (items, api.Errno) {
	x, e := icode.ReadItem(b)
	if e != api.OK && x == (api.Item{}) {
		return nil, e
	}
	return items{x}, e
}

// oneBytes are the bytes of the items of a list, without how many there are.
func oneBytes(l items) []byte {
	var b []byte
	for _, x := range l {
		b = append(b, sample.ItemBytes(x)...)
	}
	return b
}

// checkSize is how many bytes Size tells of an item.
func checkSize(t *testing.T, x api.Item, want int) {
	t.Helper()
	if got := icode.Size(x); got != want {
		t.Fatalf("Size(%#v) = %d, want %d", x, got, want)
	}
}

// checkItem is that an item is put as some bytes and read of them, alone and as a list.
func checkItem(t *testing.T, x api.Item, b []byte) {
	t.Helper()
	ofOne().CheckBoth(t, items{x}, b)
	checkSize(t, x, len(b))
	ofLists().CheckBoth(t, items{x}, made(1, 0, b))
	ofLists().CheckBoth(t, items{x, x}, made(2, 0, b, len(x.Key), 0, b[1+len(x.Key):]))
}

// checkWrong is that an item isn't put, nor its bytes read as it, alone and as a list.
func checkWrong(t *testing.T, x api.Item) {
	t.Helper()
	checkSize(t, x, 0)
	for _, c := range []sample.Code[api.Item]{ofOne(), ofLists()} {
		c.CheckUnput(t, items{x})
		c.CheckList(t, items{x})
	}
	ofLists().CheckUnput(t, items{x, x})
	ofLists().CheckList(t, items{x, x})
}

// P19.1 to P19.4: the chapter's example.
func TestExample(t *testing.T) {
	ofLists().CheckBoth(t, leasts("aa", "ab"), made(2, 0, 2, "aa", end(), 1, 1, "b", end()))
	x, y := least("aa"), dead(prior(of("ab", ver(2, 300), 2), 200))
	b := made(2, 0, 2, "aa", 1, 1, 1, 0, 0, 0, 1, 1, "b", 2, 172, 2, 2, 200, 1, 1, 0)
	ofLists().CheckBoth(t, items{x, y}, b)
	ofLists().CheckChanged(t, b)
	checkSize(t, x, 9)
	checkSize(t, y, 11)
}

// P19.1, P19.2 and P19.4: items, and their bytes.
func TestItem(t *testing.T) {
	most := []byte{128, 128, 128, 128, 128, 32}
	for _, c := range []struct {
		x api.Item
		b []byte
	}{
		{least("a"), made(1, "a", 1, 1, 1, 0, 0, 0)},
		{dead(least("a")), made(1, "a", 1, 1, 1, 0, 1, 0)},
		{bodied(least("a"), "x"), made(1, "a", 1, 1, 1, 0, 0, 1, "x")},
		// Each number stands in its own place.
		{bodied(prior(of("key", ver(2, 3), 4), 5), "body"), made(3, "key", 2, 3, 4, 5, 0, 4, "body")},
		{dead(prior(of("key", ver(2, 3), 4), 5)), made(3, "key", 2, 3, 4, 5, 1, 0)},
		// Keys of any bytes, the shortest and the longest.
		{least("\x00"), made(1, 0, end())},
		{least("\xff"), made(1, 255, end())},
		{least("\x80"), made(1, 128, end())},
		{least("é "), made(3, 195, 169, " ", end())},
		{least(long("k", 15)), made(15, long("k", 15), end())},
		{least(long("k", 16)), made(16, long("k", 16), end())},
		{dead(least(long("\x00", 16))), made(16, bytes.Repeat([]byte{0}, 16), 1, 1, 1, 0, 1, 0)},
		// Replica and Count.
		{of("a", ver(16, 1), 1), made(1, "a", 16, 1, 1, 0, 0, 0)},
		{of("a", ver(15, 2), 1), made(1, "a", 15, 2, 1, 0, 0, 0)},
		{of("a", ver(1, 127), 1), made(1, "a", 1, 127, 1, 0, 0, 0)},
		{of("a", ver(1, 128), 1), made(1, "a", 1, 128, 1, 1, 0, 0, 0)},
		{of("a", ver(2, last-1), 1), made(1, "a", 2, 255, 255, 255, 255, 255, 31, 1, 0, 0, 0)},
		{of("a", ver(2, last), 1), made(1, "a", 2, most, 1, 0, 0, 0)},
		// Rank.
		{of("a", ver(1, 1), 300), made(1, "a", 1, 1, 172, 2, 0, 0, 0)},
		{of("a", ver(1, 1), last-1), made(1, "a", 1, 1, 255, 255, 255, 255, 255, 31, 0, 0, 0)},
		{of("a", ver(1, 1), last), made(1, "a", 1, 1, most, 0, 0, 0)},
		// Prio.
		{prior(least("a"), 1), made(1, "a", 1, 1, 1, 1, 0, 0)},
		{prior(least("a"), 127), made(1, "a", 1, 1, 1, 127, 0, 0)},
		{prior(least("a"), 128), made(1, "a", 1, 1, 1, 128, 1, 0, 0)},
		{dead(prior(least("a"), 254)), made(1, "a", 1, 1, 1, 254, 1, 1, 0)},
		{prior(least("a"), 255), made(1, "a", 1, 1, 1, 255, 1, 0, 0)},
		// Bodies of any bytes, and the longest.
		{bodied(least("a"), "\x00"), made(1, "a", 1, 1, 1, 0, 0, 1, 0)},
		{bodied(least("a"), "\xff\x80"), made(1, "a", 1, 1, 1, 0, 0, 2, 255, 128)},
		{bodied(least("a"), long("b", 63)), made(1, "a", 1, 1, 1, 0, 0, 63, long("b", 63))},
		{bodied(least("a"), long("b", 64)), made(1, "a", 1, 1, 1, 0, 0, 64, long("b", 64))},
		// All at its greatest.
		{bodied(prior(of(long("\xff", 16), ver(16, last), last), 255), long("\xff", 64)), made(16, long("\xff", 16), 16, most, most, 255, 1, 0, 64, long("\xff", 64))},
	} {
		checkItem(t, c.x, c.b)
		ofOne().CheckChanged(t, c.b)
		ofLists().CheckChanged(t, made(1, 0, c.b))
	}
}

// P19.1, P19.2 and P19.4: each of what an item has at its least and its greatest.
func TestEdges(t *testing.T) {
	for _, x := range sample.EdgeItems() {
		checkItem(t, x, sample.ItemBytes(x))
		for _, y := range []api.Item{least("k"), least("a"), least(long("k", 16)), bodied(least("k"), "body")} {
			ofLists().CheckList(t, items{x, y})
			ofLists().CheckList(t, items{y, x, y})
		}
	}
	for _, l := range []items{sample.EdgeItems(), slices.Repeat(sample.EdgeItems(), 20)} {
		b := ofLists().All(l)
		ofLists().CheckPut(t, l, b)
		ofLists().CheckRead(t, b, l)
	}
}

// P19.1, P19.3 and P19.4: lists, and their bytes.
func TestItems(t *testing.T) {
	k15, k16 := long("k", 15), long("k", 16)
	for _, c := range []struct {
		l items
		b []byte
	}{
		{nil, made(0)},
		{items{}, made(0)},
		{leasts("a"), made(1, 0, 1, "a", end())},
		{items{dead(least("a"))}, made(1, 0, 1, "a", 1, 1, 1, 0, 1, 0)},
		// Keys that begin alike, and such that don't, that rise and that fall.
		{leasts("a", "b"), made(2, 0, 1, "a", end(), 0, 1, "b", end())},
		{leasts("b", "a"), made(2, 0, 1, "b", end(), 0, 1, "a", end())},
		{leasts("ab", "aa"), made(2, 0, 2, "ab", end(), 1, 1, "a", end())},
		{leasts("abc", "abd", "abda", "ac"), made(4, 0, 3, "abc", end(), 2, 1, "d", end(), 3, 1, "a", end(), 1, 1, "c", end())},
		{leasts("abc", "xbc", "abc"), made(3, 0, 3, "abc", end(), 0, 3, "xbc", end(), 0, 3, "abc", end())},
		{leasts("cba", "dba", "dca", "dcb"), made(4, 0, 3, "cba", end(), 0, 3, "dba", end(), 1, 2, "ca", end(), 2, 1, "b", end())},
		// Behind the same Key, of just the one ahead.
		{leasts("a", "a"), made(2, 0, 1, "a", end(), 1, 0, end())},
		{leasts("ab", "ab", "ab"), made(3, 0, 2, "ab", end(), 2, 0, end(), 2, 0, end())},
		{leasts("ab", "c", "ab"), made(3, 0, 2, "ab", end(), 0, 1, "c", end(), 0, 2, "ab", end())},
		{items{least("a"), dead(least("a")), bodied(least("a"), "a")}, made(3, 0, 1, "a", end(), 1, 0, 1, 1, 1, 0, 1, 0, 1, 0, 1, 1, 1, 0, 0, 1, "a")},
		// A Key that begins with all of the one ahead, and one with which the one ahead begins.
		{leasts("a", "ab"), made(2, 0, 1, "a", end(), 1, 1, "b", end())},
		{leasts("ab", "a"), made(2, 0, 2, "ab", end(), 1, 0, end())},
		{leasts("a", "ab", "abc", "ab", "a"), made(5, 0, 1, "a", end(), 1, 1, "b", end(), 2, 1, "c", end(), 2, 0, end(), 1, 0, end())},
		{leasts("a", "aa", "aaa", "a"), made(4, 0, 1, "a", end(), 1, 1, "a", end(), 2, 1, "a", end(), 1, 0, end())},
		// Any bytes.
		{leasts("\x00", "\x00\x00", "\x00\xff"), made(3, 0, 1, 0, end(), 1, 1, 0, end(), 1, 1, 255, end())},
		{leasts("é", "è", "\xff", "\xff\xff"), made(4, 0, 2, 195, 169, end(), 1, 1, 168, end(), 0, 1, 255, end(), 1, 1, 255, end())},
		// The longest Keys.
		{leasts(k16, k16), made(2, 0, 16, k16, end(), 16, 0, end())},
		{leasts(k15, k16, k15), made(3, 0, 15, k15, end(), 15, 1, "k", end(), 15, 0, end())},
		{leasts("k", k16, "k"), made(3, 0, 1, "k", end(), 1, 15, k15, end(), 1, 0, end())},
		{leasts(k15+"a", k15+"b"), made(2, 0, 16, k15+"a", end(), 15, 1, "b", end())},
		{leasts(k16, "l"+k15), made(2, 0, 16, k16, end(), 0, 16, "l"+k15, end())},
		// All else is as of an item.
		{items{bodied(prior(of("ka", ver(2, 3), 4), 5), "body"), dead(prior(of("kb", ver(16, last), 300), 200)), bodied(prior(of("k", ver(3, 3), 3), 255), "k")},
			made(3, 0, 2, "ka", 2, 3, 4, 5, 0, 4, "body", 1, 1, "b", 16, 128, 128, 128, 128, 128, 32, 172, 2, 200, 1, 1, 0, 1, 0, 3, 3, 3, 255, 1, 0, 1, "k")},
	} {
		ofLists().CheckBoth(t, c.l, c.b)
		ofLists().CheckChanged(t, c.b)
	}
}

// P19.1 to P19.3: an item that isn't right isn't put, alone or at any place among right ones, nor are its bytes read as it.
func TestWrongItem(t *testing.T) {
	good := items{least("j"), bodied(prior(of("k", ver(2, 3), 4), 5), "body"), dead(least("ka"))}
	for _, x := range sample.WrongItems() {
		checkWrong(t, x)
		for i := range len(good) + 1 {
			lists := []items{slices.Insert(slices.Clone(good), i, x)}
			if i < len(good) {
				lists = append(lists, slices.Replace(slices.Clone(good), i, i+1, x))
			}
			for _, l := range lists {
				ofLists().CheckUnput(t, l)
				ofLists().CheckList(t, l)
			}
		}
	}
}

// P19.1: what isn't right at all, and very long texts.
func TestSizeWrong(t *testing.T) {
	checkSize(t, api.Item{}, 0)
	for _, x := range []api.Item{least(""), least(long("k", 17)), least(long("k", 1<<24)), bodied(least("k"), long("b", 65)), bodied(least("k"), long("b", 1<<24)), bodied(dead(least("k")), "b"), of("k", ver(0, 1), 1), of("k", ver(1, 0), 1), of("k", ver(1, 1), 0), of("k", ver(17, 1), 1), of("k", ver(1, last+1), 1), of("k", ver(1, 1), last+1), prior(least("k"), -1), prior(least("k"), 256)} {
		checkSize(t, x, 0)
		ofOne().CheckUnput(t, items{x})
		ofLists().CheckUnput(t, items{x})
	}
}

// placed are the bytes of an item up to a number, with other bytes in the place of that, and the bytes that follow.
func placed(place int, n []byte) ([]byte, []byte) {
	parts := [][]byte{{1}, []byte("a"), {1}, {1}, {1}, {0}, {0}, {0}}
	return slices.Concat(append(slices.Clone(parts[:place]), n)...), slices.Concat(parts[place+1:]...)
}

// P19.2 and P19.3: each number one below and one above its limits, and at them: what isn't within is told at once, whatever follows.
func TestNumbers(t *testing.T) {
	const key, replica, count, rank, prio, is, body = 0, 2, 3, 4, 5, 6, 7
	for _, c := range []struct{ place, lo, hi int }{{replica, 1, 16}, {count, 1, last}, {rank, 1, last}, {prio, 0, 255}, {is, 0, 1}} {
		for _, n := range []int{0, 1, c.lo, c.lo + 1, c.hi - 1, c.hi, c.hi + 1, 17, 256, 1 << 30, 1 << 41, 1 << 48, 1<<48 + 1, 1 << 49} {
			b, behind := placed(c.place, number(n))
			checkNumber(t, b, behind, c.lo <= n && n <= c.hi)
		}
		for _, n := range [][]byte{{128, 0}, {129, 0}, {129, 128, 0}, bytes.Repeat([]byte{128}, 8), bytes.Repeat([]byte{255}, 9)} {
			b, behind := placed(c.place, n)
			checkNumber(t, b, behind, false)
		}
	}
	for _, c := range []struct{ place, most int }{{key, 16}, {body, 64}} {
		for _, n := range []int{c.most + 1, c.most + 2, 1 << 20, 1 << 48, 1<<48 + 1} {
			b, _ := placed(c.place, number(n))
			checkNumber(t, b, bytes.Repeat([]byte("a"), min(n, 1000)), false)
		}
	}
}

// checkNumber is what is told of bytes up to a number, with what follows: that it ends, if the number is right, else that it isn't.
func checkNumber(t *testing.T, b, behind []byte, right bool) {
	t.Helper()
	for n := range len(behind) {
		for _, c := range []sample.Code[api.Item]{ofOne(), ofLists()} {
			all := slices.Concat(b, behind[:n])
			if c.Name == "Items" {
				all = made(1, 0, all)
			}
			if right {
				c.CheckError(t, all, api.ErrShort)
			} else {
				c.CheckError(t, all, api.ErrForm)
			}
			c.CheckBytes(t, slices.Concat(all, behind[n:]))
			c.CheckBytes(t, slices.Concat(all, behind[n:], []byte{0}))
		}
	}
}

// P19.2 and P19.3: what is told of an item that can't be read, alone and in a list, and of several things the first.
func TestReadItemWrong(t *testing.T) {
	for _, c := range []struct {
		b []byte
		e api.Errno
	}{
		{nil, api.ErrShort}, {[]byte{}, api.ErrShort},
		// The Key: cut off, too long, of too many bytes, none.
		{made(1), api.ErrShort}, {made(16), api.ErrShort}, {made(16, long("k", 15)), api.ErrShort}, {made(2, "a"), api.ErrShort}, {made(128), api.ErrShort}, {made(17), api.ErrForm}, {made(17, long("k", 17), end()), api.ErrForm}, {made(17, long("k", 17), end(), 0), api.ErrForm}, {made(127), api.ErrForm},
		{made(128, 0, end()), api.ErrForm}, {made(129, 0, "a", end()), api.ErrForm}, {made(144, 0, long("k", 16), end()), api.ErrForm}, {made(129, 1, long("k", 129), end()), api.ErrForm}, {bytes.Repeat([]byte{128}, 8), api.ErrForm}, {bytes.Repeat([]byte{128}, 7), api.ErrShort},
		{made(0, end()), api.ErrForm}, {made(0, end(), 0), api.ErrLong}, {made(0, 1, 1, 1, 0, 0), api.ErrShort}, {made(0, 1, 1, 1, 0, 1, 0), api.ErrForm}, {made(0, 0), api.ErrForm}, {made(0), api.ErrShort},
		// Replica, Count and Rank: 0, too great, of too many bytes, cut off.
		{made(1, "a"), api.ErrShort}, {made(1, "a", 0), api.ErrForm}, {made(1, "a", 0, 1, 1, 0, 0, 0), api.ErrForm}, {made(1, "a", 17), api.ErrForm}, {made(1, "a", 17, 1, 1, 0, 0, 0), api.ErrForm}, {made(1, "a", 129, 0, 1, 1, 0, 0, 0), api.ErrForm}, {made(1, "a", 129), api.ErrShort}, {made(1, "a", 16), api.ErrShort},
		{made(1, "a", 1, 0), api.ErrForm}, {made(1, "a", 1, 0, 1, 0, 0, 0), api.ErrForm}, {made(1, "a", 1, number(last+1)), api.ErrForm}, {made(1, "a", 1, number(last+1), 1, 0, 0, 0), api.ErrForm}, {made(1, "a", 1, number(1<<48+1)), api.ErrForm}, {made(1, "a", 1, number(last)), api.ErrShort}, {made(1, "a", 1, 128), api.ErrShort},
		{made(1, "a", 1, 1, 0), api.ErrForm}, {made(1, "a", 1, 1, 0, 0, 0, 0), api.ErrForm}, {made(1, "a", 1, 1, number(last+1)), api.ErrForm}, {made(1, "a", 1, 1, number(last+1), 0, 0, 0), api.ErrForm}, {made(1, "a", 1, 1, number(1<<48+1)), api.ErrForm}, {made(1, "a", 1, 1, number(last)), api.ErrShort}, {made(1, "a", 1, 1, 255), api.ErrShort},
		// Prio: too great, of too many bytes, cut off.
		{made(1, "a", 1, 1, 1, 128, 2), api.ErrForm}, {made(1, "a", 1, 1, 1, 128, 2, 0, 0), api.ErrForm}, {made(1, "a", 1, 1, 1, 128, 0, 0, 0), api.ErrForm}, {made(1, "a", 1, 1, 1, 255, 1), api.ErrShort}, {made(1, "a", 1, 1, 1, 255), api.ErrShort}, {made(1, "a", 1, 1, 1), api.ErrShort},
		// Dead: neither 0 nor 1, of too many bytes, cut off.
		{made(1, "a", 1, 1, 1, 0, 2), api.ErrForm}, {made(1, "a", 1, 1, 1, 0, 2, 0), api.ErrForm}, {made(1, "a", 1, 1, 1, 0, 2, 0, 0), api.ErrForm}, {made(1, "a", 1, 1, 1, 0, 129, 0, 0), api.ErrForm}, {made(1, "a", 1, 1, 1, 0, 128, 0, 0), api.ErrForm}, {made(1, "a", 1, 1, 1, 0, 129), api.ErrShort}, {made(1, "a", 1, 1, 1, 0), api.ErrShort},
		// The Body: cut off, too long, of too many bytes, left behind.
		{made(1, "a", 1, 1, 1, 0, 0), api.ErrShort}, {made(1, "a", 1, 1, 1, 0, 0, 1), api.ErrShort}, {made(1, "a", 1, 1, 1, 0, 0, 64, long("b", 63)), api.ErrShort}, {made(1, "a", 1, 1, 1, 0, 0, 65), api.ErrForm}, {made(1, "a", 1, 1, 1, 0, 0, 65, long("b", 65)), api.ErrForm}, {made(1, "a", 1, 1, 1, 0, 0, 65, long("b", 65), 0), api.ErrForm},
		{made(1, "a", 1, 1, 1, 0, 0, 128, 0), api.ErrForm}, {made(1, "a", 1, 1, 1, 0, 0, 129, 0, "b"), api.ErrForm}, {made(1, "a", 1, 1, 1, 0, 0, 64, long("b", 65)), api.ErrLong}, {made(1, "a", 1, 1, 1, 0, 0, 0, "b"), api.ErrLong}, {made(1, "a", 1, 1, 1, 0, 0, 1, "bc"), api.ErrLong}, {made(1, "a", end(), 1, "a", end()), api.ErrLong},
		// A dead item with a body: read to its end, and then it is told.
		{made(1, "a", 1, 1, 1, 0, 1, 1, "x"), api.ErrForm}, {made(1, "a", 1, 1, 1, 0, 1, 64, long("x", 64)), api.ErrForm}, {made(1, "a", 1, 1, 1, 0, 1, 1, "x", 0), api.ErrLong}, {made(1, "a", 1, 1, 1, 0, 1, 1, "xy"), api.ErrLong}, {made(1, "a", 1, 1, 1, 0, 1, 1), api.ErrShort}, {made(1, "a", 1, 1, 1, 0, 1, 2, "x"), api.ErrShort}, {made(1, "a", 1, 1, 1, 0, 1, 65, "x"), api.ErrForm}, {made(1, "a", 1, 1, 1, 0, 1, 1, 0), api.ErrForm},
		// The first of several.
		{made(17, 0), api.ErrForm}, {made(0, 17), api.ErrForm}, {made(0, 1, 1, 1, 0, 1, 1, "x"), api.ErrForm}, {made(0, 1, 1, 1, 0, 1, 1, "x", 0), api.ErrLong}, {made(1, "a", 0, 129), api.ErrForm}, {made(1, "a", 129, 128), api.ErrShort}, {made(0, 1, 1, 1, 0, 2), api.ErrForm}, {made(0, 1, 1, 1, 0, 1, 3, "x"), api.ErrShort},
	} {
		ofOne().CheckError(t, c.b, c.e)
		ofOne().CheckBytes(t, c.b)
		ofLists().CheckError(t, made(1, 0, c.b), c.e)
		ofLists().CheckBytes(t, made(1, 0, c.b))
		behind := made(2, 0, 2, "xy", end(), 0, c.b)
		ofLists().CheckError(t, behind, c.e)
		ofLists().CheckBytes(t, behind)
	}
}

// P19.3: what is told of lists that can't be read, and of several things the first.
func TestReadItemsWrong(t *testing.T) {
	k16, one := long("k", 16), made(0, 1, "a", end())
	bodyOfDead, noKey := made(0, 1, "b", 1, 1, 1, 0, 1, 1, "x"), made(0, 0, end())
	for _, c := range []struct {
		b []byte
		e api.Errno
	}{
		{nil, api.ErrShort}, {[]byte{}, api.ErrShort},
		// How many: half a number, one of too many bytes, one that is too large, with and without what follows.
		{made(129), api.ErrShort}, {bytes.Repeat([]byte{128}, 7), api.ErrShort}, {bytes.Repeat([]byte{128}, 8), api.ErrForm}, {made(128, 0), api.ErrForm}, {made(129, 0, one), api.ErrForm}, {made(129, 128, 0, one), api.ErrForm}, {made(129, 32), api.ErrForm}, {made(129, 32, one), api.ErrForm}, {number(1 << 48), api.ErrForm}, {number(1<<48 + 1), api.ErrForm},
		// Told of more than there are, of fewer.
		{made(1), api.ErrShort}, {made(2, one), api.ErrShort}, {made(128, 32), api.ErrShort}, {made(128, 32, one), api.ErrShort}, {made(255, 31, one), api.ErrShort}, {made(0, 0), api.ErrLong}, {made(0, one), api.ErrLong}, {made(1, one, one), api.ErrLong}, {made(1, one, 0), api.ErrLong}, {made(1, one, 128), api.ErrLong},
		// A beginning that is longer than the Key ahead: of the first one, which has none ahead, and of others.
		{made(1, 1), api.ErrForm}, {made(1, 1, 1, "a", end()), api.ErrForm}, {made(1, 1, 0, end()), api.ErrForm}, {made(1, 16, 0, end()), api.ErrForm}, {made(1, 128), api.ErrShort}, {made(1, 128, 0, 1, "a", end()), api.ErrForm}, {made(1, 127), api.ErrForm}, {made(1, number(1<<48)), api.ErrForm},
		{made(2, one, 2), api.ErrForm}, {made(2, one, 2, 0, end()), api.ErrForm}, {made(2, one, 2, 1, "b", end()), api.ErrForm}, {made(2, one, 17, 1, "b", end()), api.ErrForm}, {made(2, one, 128), api.ErrShort}, {made(2, one, 129, 0, 0, end()), api.ErrForm}, {made(2, one, 1), api.ErrShort}, {made(2, one, 0), api.ErrShort},
		{made(2, 0, 16, k16, end(), 16), api.ErrShort}, {made(2, 0, 16, k16, end(), 17), api.ErrForm}, {made(2, 0, 16, k16, end(), 17, 0, end()), api.ErrForm}, {made(3, 0, 2, "ab", end(), 1, 0, end(), 2, 0, end()), api.ErrForm}, {made(3, 0, 2, "ab", end(), 1, 0, end(), 2), api.ErrForm},
		// A beginning that is shorter than it could be told: read to the end, and then it is told.
		{made(2, one, 0, 1, "a", end()), api.ErrForm}, {made(2, one, 0, 2, "ab", end()), api.ErrForm}, {made(2, 0, 2, "aa", end(), 0, 2, "ab", end()), api.ErrForm}, {made(2, 0, 2, "ab", end(), 1, 1, "b", end()), api.ErrForm}, {made(2, 0, 2, "ab", end(), 1, 2, "bc", end()), api.ErrForm}, {made(2, 0, 2, "ab", end(), 0, 1, "a", end()), api.ErrForm},
		{made(2, 0, 16, k16, end(), 15, 1, "k", end()), api.ErrForm}, {made(2, 0, 16, k16, end(), 0, 16, k16, end()), api.ErrForm}, {made(3, one, 0, 1, "a", end(), 0, 1, "b", end()), api.ErrForm}, {made(3, one, 0, 1, "b", end(), 0, 1, "b", end()), api.ErrForm}, {made(2, one, 0, 1, "a", end(), 0), api.ErrLong}, {made(3, one, 0, 1, "a", end()), api.ErrShort}, {made(3, one, 0, 1, "a", end(), 2), api.ErrForm},
		{made(2, 0, 1, 0, end(), 0, 1, 0, end()), api.ErrForm}, {made(2, 0, 1, 255, end(), 0, 2, 255, 0, end()), api.ErrForm},
		// A Key that is too long by its beginning and its rest together: likewise. The one behind it may begin with all of it.
		{made(2, 0, 16, k16, end(), 16, 1, "k", end()), api.ErrForm}, {made(2, 0, 16, k16, end(), 16, 1, "k", end(), 0), api.ErrLong}, {made(2, 0, 16, k16, end(), 16, 16, k16, end()), api.ErrForm}, {made(2, 0, 16, k16, end(), 1, 16, "x"+long("k", 15), end()), api.ErrForm}, {made(2, 0, 16, k16, end(), 16, 17), api.ErrForm}, {made(2, one, 1, 16, k16, end()), api.ErrForm}, {made(2, one, 1, 16, k16, end(), 0), api.ErrLong}, {made(2, one, 1, 15, long("k", 15), end(), 0), api.ErrLong},
		{made(3, 0, 16, k16, end(), 16, 1, "k", end(), 17), api.ErrShort}, {made(3, 0, 16, k16, end(), 16, 1, "k", end(), 18), api.ErrForm}, {made(3, 0, 16, k16, end(), 16, 1, "k", end(), 17, 0, end()), api.ErrForm}, {made(3, 0, 16, k16, end(), 16, 1, "k", end(), 17, 0, end(), 0), api.ErrLong}, {made(3, 0, 16, k16, end(), 16, 16, k16, end(), 32, 16), api.ErrShort}, {made(3, 0, 16, k16, end(), 16, 16, k16, end(), 33), api.ErrForm},
		{made(3, 0, 16, k16, end(), 16, 1, "k", end(), 16, 0, end()), api.ErrForm}, {made(3, 0, 16, k16, end(), 16, 1, "k", end(), 1, 0, end(), 0), api.ErrLong},
		// No Key at all: neither of the first one nor behind one.
		{made(1, noKey), api.ErrForm}, {made(1, noKey, 0), api.ErrLong}, {made(2, one, noKey), api.ErrForm}, {made(2, one, noKey, 0), api.ErrLong}, {made(2, noKey, one), api.ErrForm}, {made(2, noKey, 1), api.ErrForm}, {made(2, noKey, noKey), api.ErrForm}, {made(2, noKey), api.ErrShort},
		// A dead item with a body, ahead of others and behind them.
		{made(1, bodyOfDead), api.ErrForm}, {made(1, bodyOfDead, 0), api.ErrLong}, {made(2, bodyOfDead, one), api.ErrForm}, {made(2, one, bodyOfDead), api.ErrForm}, {made(3, one, bodyOfDead, one), api.ErrForm}, {made(3, one, bodyOfDead, one, one), api.ErrLong}, {made(3, one, bodyOfDead), api.ErrShort}, {made(2, bodyOfDead), api.ErrShort},
		// The first of several: what is cut off ahead of what can't be right, and what can't be read ahead of both.
		{made(2, bodyOfDead, 2), api.ErrForm}, {made(2, bodyOfDead, 0, 17), api.ErrForm}, {made(2, bodyOfDead, 0, 1), api.ErrShort}, {made(3, one, 0, 1, "a", 0, 1), api.ErrForm}, {made(3, one, 0, 1, "a", 1, 1), api.ErrShort}, {made(2, one, 1, 0, 1, 1, 1, 0, 2, 0, 1), api.ErrForm}, {made(2, one, 2, 128), api.ErrForm}, {made(2, 0, 17, 128), api.ErrForm},
	} {
		ofLists().CheckError(t, c.b, c.e)
		ofLists().CheckBytes(t, c.b)
	}
}

// P19.3: of each two Keys, with how many bytes the second begins as the first does is told in one way only.
func TestBeginnings(t *testing.T) {
	keys := []string{long("k", 15), long("k", 16), long("k", 15) + "a", "a" + long("k", 15)}
	for n := range 4 {
		sample.EachOf(n+1, "ab", func(k string) { keys = append(keys, k) })
	}
	for _, a := range keys {
		for _, b := range keys {
			l := leasts(a, b)
			ofLists().CheckList(t, l)
			right := 0
			for told := range len(b) + 1 {
				all := made(2, 0, len(a), a, end(), told, len(b)-told, b[told:], end())
				ofLists().CheckBytes(t, all)
				if got, e := icode.ReadItems(all); e == api.OK && slices.Equal(got, l) {
					right++
				}
			}
			if right != 1 {
				t.Fatalf("%q behind %q is told in %d ways", b, a, right)
			}
		}
	}
}

// counted are so many items, in order by their keys, right, and all unlike.
func counted(n int) items {
	var l items
	for i := range n {
		x := bodied(prior(of(string([]byte{byte('a' + i>>10), byte(i >> 5 & 31), byte(i & 31)}), ver(1+i%16, 1+i), 1+i/3), i%256), long("b", i%65))
		if i%7 == 3 {
			x = dead(x)
		}
		l = append(l, x)
	}
	return l
}

// checkLong is that a long list is put as its bytes, and read of them, and of no others: neither cut off nor with one behind them.
func checkLong(t *testing.T, l items) {
	t.Helper()
	b := ofLists().All(l)
	ofLists().CheckPut(t, l, b)
	ofLists().CheckRead(t, b, l)
	for _, cut := range []int{1, 2, 9, 100, 1000} {
		ofLists().CheckError(t, b[:len(b)-min(cut, len(b))], api.ErrShort)
	}
	ofLists().CheckError(t, append(b, 0), api.ErrLong)
}

// P19.1 and P19.3: MaxItems items, and one more.
func TestMaxItems(t *testing.T) {
	for _, n := range []int{127, 128, 129, 4095, 4096} {
		l := counted(n)
		checkLong(t, l)
		slices.Reverse(l)
		checkLong(t, l)
		checkLong(t, slices.Repeat(items{least("k")}, n))
		for _, at := range []int{0, n / 2, n - 1} {
			bad := slices.Clone(l)
			bad[at].Prio = 256
			ofLists().CheckUnput(t, bad)
			bad[at] = api.Item{}
			ofLists().CheckUnput(t, bad)
			bad[at] = bodied(dead(least("z")), "x")
			ofLists().CheckUnput(t, bad)
			ofLists().CheckError(t, ofLists().All(bad), api.ErrForm)
		}
	}
	if b, _ := icode.Items(counted(4096)...); !bytes.HasPrefix(b, []byte{128, 32, 0, 3, 'a', 0, 0, 1, 1, 1, 0, 0, 0, 2, 1, 1, 2, 2, 1, 1, 0, 1, 'b'}) {
		t.Errorf("4096 items begin with %v", b[:min(23, len(b))])
	}
	for _, n := range []int{4097, 4098, 8192, 16384} {
		for _, l := range []items{counted(n), slices.Repeat(items{least("k")}, n), make(items, n)} {
			ofLists().CheckUnput(t, l)
			b := ofLists().All(l)
			for _, c := range [][]byte{b, b[:len(b)-1], append(b, 0), b[:9], number(n)} {
				ofLists().CheckError(t, c, api.ErrForm)
			}
		}
	}
	ofLists().CheckUnput(t, make(items, 1<<20))
	ofLists().CheckUnput(t, slices.Repeat(items{least("k")}, 1<<20))
}

// P19.3 and rule 1: Keys that grow from item to item are read to the end, and then it is told.
func TestKeysThatGrow(t *testing.T) {
	for _, n := range []int{2, 3, 100, 4096} {
		b := number(n)
		for i := range n {
			b = slices.Concat(b, number(16*i), number(16), []byte(long("k", 16)), end())
		}
		ofLists().CheckError(t, b, api.ErrForm)
		ofLists().CheckError(t, b[:len(b)-1], api.ErrShort)
		ofLists().CheckError(t, append(b, 0), api.ErrLong)
		ofLists().CheckError(t, append(b[:len(b)-1], 65), api.ErrForm)
	}
}

// P19.1 to P19.4: all lists of up to four items of some keys, and of up to three of some items, right or not, as the words say.
func TestLists(t *testing.T) {
	for _, l := range sample.Lists(leasts("a", "ab", "abb", "b", "ba", "\x00", "a\x00", long("k", 16)), 4) {
		ofLists().CheckList(t, l)
	}
	some := items{
		{}, least(""), least("a"), dead(least("ab")), bodied(least("ab"), "body"), bodied(dead(least("b")), "x"), least(long("k", 16)), least(long("k", 17)), of("a", ver(2, last), last), of("ab", ver(0, 1), 1), of("b", ver(1, last+1), 1), of("b", ver(1, 1), 0),
		prior(least("a"), 255), prior(least("a"), 256), prior(least("b"), -1), bodied(least("a"), long("b", 64)), bodied(least("a"), long("b", 65)), of("b", ver(16, 300), 300), of("b", ver(math.MinInt, 1), 1), of("b", ver(1, 1), math.MaxInt),
	}
	for _, l := range sample.Lists(some, 3) {
		ofLists().CheckList(t, l)
	}
	for _, x := range some {
		ofOne().CheckList(t, items{x})
	}
}

// P19.2 to P19.4: all bytes of up to two, and more of some, as the words say.
func TestAllBytes(t *testing.T) {
	for _, b := range sample.Lists([]byte(sample.Every()), 2) {
		ofOne().CheckBytes(t, b)
		ofLists().CheckBytes(t, b)
		ofLists().CheckBytes(t, made(2, 0, 2, "ab", end(), b, 1, 1, 0, 0, 0))
		ofOne().CheckBytes(t, made(1, "a", 1, 1, 1, b))
	}
	for _, b := range sample.Lists([]byte{0, 1, 2, 17, 128}, 6) {
		ofOne().CheckBytes(t, b)
		ofLists().CheckBytes(t, b)
		ofLists().CheckBytes(t, made(2, 0, 1, 1, end(), b))
		ofOne().CheckBytes(t, made(1, "a", b))
	}
	for _, b := range sample.Lists([]byte{0, 1}, 12) {
		ofOne().CheckBytes(t, b)
		ofLists().CheckBytes(t, b)
		ofLists().CheckBytes(t, made(2, 0, 1, 1, end(), b))
	}
	for _, b := range sample.Lists([]byte{0, 1, 2}, 9) {
		ofOne().CheckBytes(t, b)
		ofLists().CheckBytes(t, made(2, 0, 2, 1, 1, end(), b))
	}
}

// P19.1 to P19.4: drawn items, right or not, there and back, and changed bytes of them.
func TestDrawn(t *testing.T) {
	keys := []string{"a", "aa", "aab", "ab", "b", "\x00", "\xff", "key", "keys", long("k", 15), long("k", 16), "a" + long("k", 15)}
	for seed := range 3000 {
		roll := sample.Draw(seed)
		l := sample.DrawnItems(roll, 8, keys)
		ofLists().CheckList(t, l)
		ofLists().CheckList(t, item.Merge(l))
		right := slices.DeleteFunc(l, func(x api.Item) bool { return !sample.RightItem(x) })
		ofLists().CheckDrawn(t, roll, right)
		for _, x := range right {
			checkSize(t, x, len(sample.ItemBytes(x)))
			ofOne().CheckDrawn(t, roll, items{x})
		}
	}
}

// P19.4: what is put as the same bytes is the same.
func TestUnlike(t *testing.T) {
	var one []items
	for _, k := range []string{"", "\x00", "\x01", "\x01\x01", "\x00\x01"} {
		for _, n := range []int{0, 1, 2} {
			for _, m := range []int{0, 1, 2} {
				x := of(k, ver(n, m), 1)
				y := of(k, ver(1, 1), n)
				y.Prio = m
				for _, x := range []api.Item{x, y, dead(x), bodied(y, "\x00"), bodied(y, "\x01"), bodied(x, "\x00\x00")} {
					one = append(one, items{x})
				}
			}
		}
	}
	slices.SortFunc(one, func(a, b items) int { return bytes.Compare(oneBytes(a), oneBytes(b)) })
	one = slices.CompactFunc(one, slices.Equal[items])
	ofOne().CheckUnlike(t, one, 50)
	var some items
	for _, l := range one {
		if sample.RightItem(l[0]) {
			some = append(some, l[0])
		}
	}
	ofLists().CheckUnlike(t, sample.Lists(some, 2), 3000)
	ofLists().CheckUnlike(t, sample.Lists(leasts("\x00", "\x01", "\x01\x01", "\x01\x00", "\x00\x01"), 4), 700)
}

// handed are right lists that the tests of what is handed in hand in.
func handed() []items {
	return []items{
		leasts("a", "ab", "abc"),
		{bodied(prior(of("key", ver(2, 3), 4), 5), "body"), dead(prior(of("keys", ver(16, last), 300), 200)), bodied(least("k"), "x")},
		{least(long("k", 16)), bodied(least("z"), long("b", 20)), least("z")},
	}
}

// P19.1 to P19.3 and rule 5: what is handed in is as it was afterwards, whatever is answered.
func TestHandedIn(t *testing.T) {
	for _, l := range append(handed(), items{least("a"), {}, bodied(dead(least("k")), "x"), least("b"), prior(least("b"), 256)}) {
		for _, c := range []sample.Code[api.Item]{ofOne(), ofLists()} {
			b := c.All(l)
			c.CheckHandedIn(t, l, slices.Concat(b, []byte{0, 2, 0, 0, 1, 128, 0}, b))
		}
	}
}

// P19.1 to P19.3 and rule 5: answers share nothing with what was handed in, nor with one another.
func TestAnswersAreNew(t *testing.T) {
	for _, l := range append(handed(), nil, counted(300)) {
		ofLists().CheckNew(t, l)
		for _, x := range l {
			ofOne().CheckNew(t, items{x})
		}
	}
}
