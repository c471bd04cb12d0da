package sample

import (
	"slices"

	"winnower/api"
)

// ItemBytes are the bytes of an item, right or not; of a number below 0 there are none.
func ItemBytes(x api.Item) []byte {
	dead := 0
	if x.Dead {
		dead = 1
	}
	b := TextBytes(x.Key)
	for _, n := range []int{x.Ver.Replica, x.Ver.Count, x.Rank, x.Prio, dead} {
		b = append(b, NumberBytes(n)...)
	}
	return append(b, TextBytes(x.Body)...)
}

// ItemsBytes are the bytes of a list of items, right or not: of each, with how many bytes its Key begins as the one ahead does, and all else.
func ItemsBytes(l []api.Item) []byte {
	ahead := ""
	return ListBytes(l, func(x api.Item) []byte {
		n := shared(ahead, x.Key)
		ahead, x.Key = x.Key, x.Key[n:]
		return slices.Concat(NumberBytes(n), ItemBytes(x))
	})
}

// shared is with how many bytes both begin.
func shared(a, b string) int {
	for n := range min(len(a), len(b)) {
		if a[n] != b[n] {
			return n
		}
	}
	return min(len(a), len(b))
}

// Item reads an item, right or not, of whose Key the beginning is known.
func (w *Words) Item(begin string) api.Item {
	var x api.Item
	x.Key = begin + w.Text(16)
	x.Ver.Replica = w.Number(1, 16)
	x.Ver.Count = w.Number(1, 1099511627776)
	x.Rank = w.Number(1, 1099511627776)
	x.Prio = w.Number(0, 255)
	x.Dead = w.Number(0, 1) == 1
	x.Body = w.Text(64)
	return x
}

// Items reads a list of items, right or not.
func (w *Words) Items() []api.Item {
	ahead := ""
	return Several(w, 4096, func(w *Words) api.Item {
		x := w.Item(ahead[:w.Number(0, len(ahead))])
		ahead = x.Key
		return x
	})
}
