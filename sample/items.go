package sample

import (
	"maps"
	"math"
	"slices"

	"winnower/api"
)

// Item is an item of a key, by a version and a rank, that has nothing else.
func Item(k string, v api.Version, rank int) api.Item {
	return api.Item{Key: k, Ver: v, Rank: rank}
}

// Bodied is an item with a Body.
func Bodied(x api.Item, body string) api.Item {
	x.Body = body
	return x
}

// Prior is an item with a Prio.
func Prior(x api.Item, prio int) api.Item {
	x.Prio = prio
	return x
}

// Dead is an item that is dead, and has no Body.
func Dead(x api.Item) api.Item {
	x.Dead, x.Body = true, ""
	return x
}

// EdgeItems are right items, each with something at its least or at its greatest.
func EdgeItems() []api.Item {
	x := Bodied(Prior(Item("k", Ver(2, 3), 4), 5), "body")
	l := []api.Item{x, Dead(x), Bodied(x, ""), Item("k", Ver(1, 1), 1), Dead(Item("k", Ver(1, 1), 1))}
	for _, k := range []string{"\x00", "\xff", Long("k", 15), Long("k", 16), Long("\x00", 16), Long("\xff", 16), Long("\u00e9", 8), "a\x00b", " ", "k\n"} {
		y := x
		y.Key = k
		l = append(l, y, Dead(y))
	}
	for _, v := range []api.Version{Ver(1, 1), Ver(16, 1), Ver(1, lastCount), Ver(16, lastCount), Ver(15, lastCount-1)} {
		y := x
		y.Ver = v
		l = append(l, y, Dead(y))
	}
	for _, rank := range []int{1, 2, 1 << 31, 1 << 32, 1<<40 - 1, 1 << 40} {
		y := x
		y.Rank = rank
		l = append(l, y, Dead(y))
	}
	for _, prio := range []int{0, 1, 127, 128, 254, 255} {
		l = append(l, Prior(x, prio), Dead(Prior(x, prio)))
	}
	for _, body := range []string{"\x00", "\xff", Long("b", 63), Long("b", 64), Long("\x00", 64), Long("\xff", 64), Long("\u00e9", 32)} {
		l = append(l, Bodied(x, body))
	}
	y := Bodied(Prior(Item(Long("\xff", 16), Ver(16, lastCount), 1<<40), 255), Long("\xff", 64))
	return append(l, y, Dead(y))
}

// WrongItems are items that aren't right, each for another reason; by their numbers, the last ones win against all right ones, or are alike with the one that does.
func WrongItems() []api.Item {
	x := Bodied(Prior(Item("k", Ver(2, 3), 4), 5), "body")
	l := []api.Item{{}}
	for _, k := range []string{"", Long("k", 17), Long("k", 1000), Long("\x00", 17), Long("\u00e9", 9)} {
		y := x
		y.Key = k
		l = append(l, y, Dead(y))
	}
	for _, replica := range NoReplicas() {
		y := x
		y.Ver.Replica = replica
		l = append(l, y, Dead(y))
	}
	for _, n := range []int{math.MinInt, -lastCount, -1, 0, lastCount + 1, 1 << 48, math.MaxInt} {
		y, z := x, x
		y.Ver.Count, z.Rank = n, n
		l = append(l, y, Dead(y), z, Dead(z))
	}
	for _, prio := range []int{math.MinInt, -256, -1, 256, 257, 1 << 32, math.MaxInt} {
		l = append(l, Prior(x, prio), Dead(Prior(x, prio)))
	}
	for _, body := range []string{Long("b", 65), Long("\x00", 65), Long("b", 1000), Long("\u00e9", 33)} {
		l = append(l, Bodied(x, body))
	}
	for _, body := range []string{"\x00", "b", Long("b", 64), Long("b", 65)} {
		l = append(l, Bodied(Dead(x), body))
	}
	y := Item("k", Ver(16, lastCount), 1<<40)
	return append(l, Prior(y, 256), Bodied(y, Long("b", 65)), Bodied(Dead(y), "b"), Item("k", Ver(17, lastCount), 1<<40), Item("k", Ver(16, lastCount+1), 1<<40), Item("k", Ver(16, lastCount), 1<<40+1))
}

// RightItem is what the chapter of items says that a right one is.
func RightItem(x api.Item) bool {
	if len(x.Key) < 1 || len(x.Key) > 16 || !RightVersion(x.Ver) || x.Dead && len(x.Body) > 0 {
		return false
	}
	return x.Rank >= 1 && x.Rank <= 1099511627776 && x.Prio >= 0 && x.Prio <= 255 && len(x.Body) <= 64
}

// RightItems is what the chapter of items says that a right list is.
func RightItems(l []api.Item) bool {
	for i, x := range l {
		if !RightItem(x) || i > 0 && l[i-1].Key >= x.Key {
			return false
		}
	}
	return true
}

// CmpItems is which of two items wins by its numbers, as the chapter of items says it: 1, if it is a.
func CmpItems(a, b api.Item) int {
	return slices.Compare([]int{a.Rank, a.Ver.Replica, a.Ver.Count}, []int{b.Rank, b.Ver.Replica, b.Ver.Count})
}

// BestItem is the right one of some items that wins, as the chapter of items says it, if there is one: against those ahead of it, and not against those behind it.
func BestItem(l []api.Item) (api.Item, bool) {
	for i, x := range l {
		ahead := slices.ContainsFunc(l[:i], func(y api.Item) bool { return RightItem(y) && CmpItems(x, y) <= 0 })
		behind := slices.ContainsFunc(l[i+1:], func(y api.Item) bool { return RightItem(y) && CmpItems(x, y) < 0 })
		if RightItem(x) && !ahead && !behind {
			return x, true
		}
	}
	return api.Item{}, false
}

// BestItems are the right ones of some items that win, each of those of its Key, as the chapter of items says it.
func BestItems(l []api.Item) []api.Item {
	byKey := map[string][]api.Item{}
	for _, x := range l {
		byKey[x.Key] = append(byKey[x.Key], x)
	}
	var out []api.Item
	for _, k := range slices.Sorted(maps.Keys(byKey)) {
		if x, ok := BestItem(byKey[k]); ok {
			out = append(out, x)
		}
	}
	return out
}

// DrawnItem is an item of one of some keys, right or, now and then, not, that hangs on a draw: many are alike by their numbers.
func DrawnItem(roll func(int) int, keys []string) api.Item {
	x := Prior(Item(keys[roll(len(keys))], Ver(1+roll(3), 1+roll(3)), 1+roll(3)), roll(256))
	switch roll(8) {
	case 0:
		return Dead(x)
	case 1:
		return oneOf(roll, WrongItems(), x.Key)
	case 2:
		return oneOf(roll, EdgeItems(), x.Key)
	}
	return Bodied(x, Long("b", roll(65)))
}

// oneOf is one of some items, with a Key in the place of its own.
func oneOf(roll func(int) int, l []api.Item, k string) api.Item {
	x := l[roll(len(l))]
	x.Key = k
	return x
}

// DrawnItems are up to n items of some keys, right or not, that hang on a draw.
func DrawnItems(roll func(int) int, n int, keys []string) []api.Item {
	var l []api.Item
	for range roll(n + 1) {
		l = append(l, DrawnItem(roll, keys))
	}
	return l
}
