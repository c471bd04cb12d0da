package hash_test

import (
	"bytes"
	"hash/fnv"
	"math"
	"math/big"
	"slices"
	"strings"
	"testing"

	"winnower/api"
	"winnower/hash"
	"winnower/sample"
)

// items is a short name of what the calls take.
type items = []api.Item

// last is the greatest rank, and the greatest count.
const last = 1 << 40

// ones is the number of all bits.
const ones = 1<<64 - 1

// begin is what a seed is put together with: by it as the seed nothing is left.
const begin = 14695981039346656037

// What items are made by here: the tests of several layers have it together.
var (
	of, ver, dead = sample.Item, sample.Ver, sample.Dead
	bodied, prior = sample.Bodied, sample.Prior
	long          = sample.Long
)

// mixed are n bytes that look mixed, the same each time.
func mixed(n, seed int) []byte {
	roll := sample.Draw(seed)
	b := make([]byte, n)
	for i := range b {
		b[i] = byte(roll(256))
	}
	return b
}

// seeds are those of none, of one and of all bits, and some others.
func seeds() []uint64 {
	l := []uint64{0, ones, begin, begin + 1, ^uint64(begin), 7, 97, 255, 1<<32 - 1, (1<<32 - 1) << 32, 0x0123456789abcdef}
	for i := range 64 {
		l = append(l, 1<<i)
	}
	return l
}

// some are a few of these.
func some() []uint64 {
	return []uint64{0, 1, 7, 1 << 32, 1 << 63, begin, ones}
}

// wide is a number that doesn't wrap round.
func wide(n uint64) *big.Int {
	return new(big.Int).SetUint64(n)
}

// within is what so many bits leave of a number.
func within(n *big.Int, bits uint) uint64 {
	return new(big.Int).Mod(n, new(big.Int).Lsh(big.NewInt(1), bits)).Uint64()
}

// ofByWords is what the chapter says the hash is, word by word.
func ofByWords(seed uint64, b []byte) uint64 {
	h := new(big.Int).Xor(wide(14695981039346656037), wide(seed))
	for _, x := range b {
		h.Xor(h, big.NewInt(int64(x)))
		h.Mul(h, big.NewInt(1099511628211))
		h.SetUint64(within(h, 64))
	}
	down := new(big.Int).Quo(h, big.NewInt(4294967296))
	return h.Xor(h, down).Uint64()
}

// itemByWords is what the chapter says an item's hash is.
func itemByWords(seed uint64, x api.Item) uint64 {
	if !sample.RightItem(x) {
		return 0
	}
	return ofByWords(seed, sample.ItemBytes(x))
}

// allByWords are the hashes of items together, however many bits that has.
func allByWords(seed uint64, l items) *big.Int {
	sum := new(big.Int)
	for _, x := range l {
		sum.Add(sum, wide(itemByWords(seed, x)))
	}
	return sum
}

// checkOf is what Of answers of some parts.
func checkOf(t *testing.T, seed uint64, want uint64, parts ...[]byte) {
	t.Helper()
	if got := hash.Of(seed, parts...); got != want {
		t.Fatalf("Of(%#x, %.60q), of %d parts, = %#x, want %#x", seed, parts, len(parts), got, want)
	}
}

// checkCut is what Cut answers.
func checkCut(t *testing.T, h uint64, bits int, want uint64) {
	t.Helper()
	if got := hash.Cut(h, bits); got != want {
		t.Fatalf("Cut(%#x, %d) = %#x, want %#x", h, bits, got, want)
	}
}

// checkItem is what Item answers, and Sum of just this one.
func checkItem(t *testing.T, seed uint64, x api.Item, want uint64) {
	t.Helper()
	if got := hash.Item(seed, x); got != want {
		t.Fatalf("Item(%#x, %#v) = %#x, want %#x", seed, x, got, want)
	}
	checkSum(t, seed, want, x)
}

// checkSum is what Sum answers.
func checkSum(t *testing.T, seed uint64, want uint64, l ...api.Item) {
	t.Helper()
	if got := hash.Sum(seed, l...); got != want {
		t.Fatalf("Sum(%#x, %#v), of %d, = %#x, want %#x", seed, l[:min(len(l), 20)], len(l), got, want)
	}
}

// checkList holds what Sum answers of a list against the words; also turned about, and of it as one list behind another, cut at each place.
func checkList(t *testing.T, seed uint64, l items) {
	t.Helper()
	want := within(allByWords(seed, l), 64)
	checkSum(t, seed, want, l...)
	back := slices.Clone(l)
	slices.Reverse(back)
	checkSum(t, seed, want, back...)
	for i := range len(l) + 1 {
		if got := hash.Sum(seed, l[:i]...) + hash.Sum(seed, l[i:]...); got != want {
			t.Fatalf("Sum by %#x of %#v, cut at %d, comes to %#x, want %#x", seed, l, i, got, want)
		}
		checkSum(t, seed, want, slices.Concat(l[i:], l[:i])...)
	}
}

// P20.1: the chapter's examples.
func TestExample(t *testing.T) {
	checkCut(t, 5, 1, 1)
	checkCut(t, 5, 0, 0)
}

// P20.1: Of one part, reckoned beforehand.
func TestOf(t *testing.T) {
	for _, c := range []struct {
		seed uint64
		b    string
		want uint64
	}{
		{0, "", 0xcbf29ce44fd0bfc1},
		{0, "a", 0xaf63dc4c296230c0},
		{0, "foobar", 0x8594417172ad2699},
		{0, "\x00", 0xaf63bd4c29620a93},
		{0, "\xff", 0xaf64724c29669922},
		{0, "\x00\x00", 0x08328807bcd9e7ea},
		{1, "", 0xcbf29ce44fd0bfc0},
		{1, "a", 0xaf63dd4c29623373},
		{1, "\x00", 0xaf63bc4c29620a60},
		{97, "", 0xcbf29ce44fd0bfa0},
		{7, "The quick brown fox jumps over the lazy dog", 0x0c8f6cffbed4071a},
		{1 << 32, "", 0xcbf29ce54fd0bfc0},
		{1 << 32, "a", 0xaf63ddff29623173},
		{1 << 63, "", 0x4bf29ce4cfd0bfc1},
		{1 << 63, "a", 0x2f63dc4ca96230c0},
		{ones, "", 0x340d631b4fd0bfc1},
		{ones, "a", 0x509c22b329623372},
		{ones, "foobar", 0x030c7e60d93cf3ab},
		{ones, "\xff\xff\xff\xff\xff\xff\xff\xff", 0x7e8476741661e4e6},
		// By this seed nothing is left, till a byte isn't 0.
		{begin, "", 0},
		{begin, "\x00", 0},
		{begin, "\x00\x00\x00", 0},
		{begin, "\x01", 0x100000000b3},
		{begin, "\x01\x00", 0x3660000018529},
		{begin, "a", 0x61000000c5d3},
	} {
		checkOf(t, c.seed, c.want, []byte(c.b))
		if got := ofByWords(c.seed, []byte(c.b)); got != c.want {
			t.Errorf("by the words of %#x and %q: %#x, want %#x", c.seed, c.b, got, c.want)
		}
	}
}

// P20.1: Of no part, and of parts without bytes.
func TestOfNone(t *testing.T) {
	for _, seed := range seeds() {
		h := begin ^ seed
		want := h ^ h>>32
		checkOf(t, seed, want)
		for _, parts := range [][][]byte{nil, {}, {nil}, {{}}, {nil, nil}, {{}, nil, {}}, make([][]byte, 1000)} {
			checkOf(t, seed, want, parts...)
		}
	}
}

// P20.1: Of several parts, which are their bytes, one part behind the other.
func TestOfParts(t *testing.T) {
	for _, seed := range some() {
		want := ofByWords(seed, []byte("foobar"))
		for _, parts := range [][]string{
			{"foobar"}, {"foo", "bar"}, {"f", "oobar"}, {"fooba", "r"},
			{"", "foobar"}, {"foobar", ""}, {"foo", "", "bar"}, {"", "", "fo", "", "oba", "r", ""},
			strings.Split("foobar", ""),
		} {
			var l [][]byte
			for _, s := range parts {
				l = append(l, []byte(s))
			}
			checkOf(t, seed, want, l...)
		}
		checkOf(t, seed, want, nil, []byte("foob"), nil, []byte("ar"), nil)
		checkOf(t, seed, ofByWords(seed, []byte("barfoo")), []byte("bar"), []byte("foo"))
		if ofByWords(seed, []byte("barfoo")) == want {
			t.Errorf("by %#x, foobar and barfoo have the same hash", seed)
		}
	}
}

// P20.1: Of any cut of bytes into three, and of a part a byte.
func TestOfCuts(t *testing.T) {
	for _, b := range [][]byte{mixed(24, 1), make([]byte, 12), bytes.Repeat([]byte{255}, 12)} {
		for _, seed := range some() {
			want := ofByWords(seed, b)
			var each [][]byte
			for i := range len(b) + 1 {
				for j := i; j <= len(b); j++ {
					checkOf(t, seed, want, b[:i], b[i:j], b[j:])
				}
				if i < len(b) {
					each = append(each, b[i:i+1])
				}
			}
			checkOf(t, seed, want, each...)
		}
	}
}

// P20.1: Of all bytes of up to two, and of longer ones, as the words say.
func TestOfByWords(t *testing.T) {
	for _, b := range sample.Lists([]byte(sample.Every()), 2) {
		checkOf(t, 0, ofByWords(0, b), b)
		checkOf(t, 0xfedcba9876543210, ofByWords(0xfedcba9876543210, b), b)
	}
	for _, b := range sample.Lists([]byte(sample.Every()), 1) {
		for _, seed := range seeds() {
			checkOf(t, seed, ofByWords(seed, b), b)
		}
	}
	for n := range 200 {
		for _, seed := range some() {
			for _, b := range [][]byte{mixed(n, n), make([]byte, n), bytes.Repeat([]byte{255}, n)} {
				checkOf(t, seed, ofByWords(seed, b), b)
			}
		}
	}
}

// P20.1: Of long parts and of many, by the seed 0: all but the last step of this hash the library has too.
func TestOfLong(t *testing.T) {
	b := mixed(1<<22, 7)
	known := fnv.New64a()
	known.Write(b)
	want := known.Sum64() ^ known.Sum64()>>32
	checkOf(t, 0, want, b)
	checkOf(t, 0, want, b[:1<<21], nil, b[1<<21:])
	var each [][]byte
	for i := 0; i < len(b); i += 16 {
		each = append(each, b[i:i+16], nil)
	}
	checkOf(t, 0, want, each...)
}

// P20.1: of the same bytes, each seed has another hash.
func TestSeeds(t *testing.T) {
	for _, b := range []string{"", "\x00", "a", "foobar", long("\xff", 100)} {
		from := map[uint64]uint64{}
		for _, seed := range seeds() {
			h := hash.Of(seed, []byte(b))
			if other, ok := from[h]; ok {
				t.Errorf("of %q, by %#x as by %#x: %#x", b, seed, other, h)
			}
			from[h] = seed
		}
	}
}

// P20.1: Cut to some bits.
func TestCut(t *testing.T) {
	for _, c := range []struct {
		h    uint64
		bits int
		want uint64
	}{
		{0xff, 4, 15}, {0xff, 8, 255}, {0xff, 9, 255}, {0xff, 1, 1}, {0xfe, 1, 0}, {0x100, 8, 0}, {0x100, 9, 256},
		{5, 2, 1}, {5, 3, 5}, {0, 0, 0}, {0, 64, 0},
		// None, and fewer than none.
		{ones, 0, 0}, {ones, -1, 0}, {ones, -63, 0}, {ones, -64, 0}, {ones, -65, 0}, {ones, math.MinInt32, 0}, {ones, math.MinInt + 1, 0}, {ones, math.MinInt, 0},
		// One, and those about a half and about all.
		{ones, 1, 1}, {ones, 2, 3}, {ones, 31, 1<<31 - 1}, {ones, 32, 1<<32 - 1}, {ones, 33, 1<<33 - 1},
		{ones, 62, 1<<62 - 1}, {ones, 63, 1<<63 - 1}, {ones, 64, ones}, {1 << 63, 63, 0}, {1 << 63, 64, 1 << 63}, {1 << 62, 63, 1 << 62},
		// More than all.
		{ones, 65, ones}, {1 << 63, 65, 1 << 63}, {ones, 66, ones}, {ones, 127, ones}, {ones, 128, ones}, {ones, 129, ones}, {ones, 256, ones}, {ones, 1 << 32, ones}, {ones, 1<<32 + 1, ones}, {ones, math.MaxInt32, ones}, {ones, math.MaxInt - 1, ones}, {ones, math.MaxInt, ones},
	} {
		checkCut(t, c.h, c.bits, c.want)
	}
}

// P20.1: Cut to each number of bits, as the words say.
func TestCutByWords(t *testing.T) {
	for _, h := range append(seeds(), hash.Of(0), hash.Of(7, []byte("foobar"))) {
		for bits := -300; bits <= 300; bits++ {
			checkCut(t, h, bits, within(wide(h), uint(max(0, min(bits, 64)))))
		}
	}
}

// full are right items, whose bytes and hashes are reckoned beforehand.
func full() items {
	return items{
		of("a", ver(1, 1), 1),
		dead(of("a", ver(1, 1), 1)),
		bodied(prior(of("key", ver(2, 3), 4), 5), "body"),
		dead(prior(of("ab", ver(2, 300), 2), 200)),
		bodied(prior(of(long("\xff", 16), ver(16, last), last), 255), long("\xff", 64)),
	}
}

// P20.2: Item of items, reckoned beforehand; of their least and greatest too.
func TestItem(t *testing.T) {
	want := map[uint64][]uint64{
		0:    {0x898cf0ec6b2df594, 0x899056ec6b33be4d, 0x81a15a1cb4c6efc1, 0x35bd1d0c8c90056e, 0xd6088ce663216a1b},
		7:    {0x1673c7c7c1a31f28, 0x167061c7c1bd9401, 0xd97c2f65e0cb12eb, 0x144532178b4649c4, 0x679c204a4bc76708},
		ones: {0xac172a9e2b734db9, 0xac13c49e2b724760, 0x2dbb269d008be13b, 0x55dd78081b3e5753, 0xab798bb6cab371dc},
	}
	for seed, l := range want {
		for i, x := range full() {
			checkItem(t, seed, x, l[i])
		}
	}
	checkItem(t, 7, of("a", ver(1, 1), 1), hash.Of(7, []byte{1, 'a', 1, 1, 1, 0, 0, 0}))
	checkItem(t, 7, bodied(prior(of("key", ver(2, 3), 4), 5), "body"), hash.Of(7, []byte("\x03key\x02\x03\x04\x05\x00\x04body")))
}

// P20.2: Item of each of what an item has at its least and its greatest, as the words say; each has a hash of its own.
func TestItemEdges(t *testing.T) {
	for _, seed := range some() {
		from := map[uint64]api.Item{}
		for _, x := range append(sample.EdgeItems(), full()...) {
			h := itemByWords(seed, x)
			checkItem(t, seed, x, h)
			if other, ok := from[h]; ok && other != x {
				t.Errorf("by %#x, %#v and %#v have the same hash", seed, x, other)
			}
			from[h] = x
		}
	}
}

// P20.2: Item of one that isn't right.
func TestItemWrong(t *testing.T) {
	for _, seed := range seeds() {
		for _, x := range sample.WrongItems() {
			checkItem(t, seed, x, 0)
		}
	}
	for _, x := range (items{of(long("k", 1<<24), ver(1, 1), 1), bodied(of("k", ver(1, 1), 1), long("b", 1<<24)), bodied(dead(of("k", ver(1, 1), 1)), "b")}) {
		checkItem(t, 7, x, 0)
	}
}

// P20.2: Sum of none, one and several, reckoned beforehand; the sums go beyond 64 bits.
func TestSum(t *testing.T) {
	l := full()
	for _, seed := range seeds() {
		checkSum(t, seed, 0)
		checkSum(t, seed, 0, items{}...)
	}
	for _, c := range []struct {
		seed uint64
		l    items
		want uint64
	}{
		{0, l, 0xa0844be87ada132b}, {7, l, 0x8241ab573b3976e0}, {ones, l, 0x873d19983d633f83},
		{0, items{l[0], l[3]}, 0xbf4a0df8f7bdfb02}, {7, items{l[0], l[3]}, 0x2ab8f9df4ce968ec},
		{0, items{l[0], l[2]}, 0x0b2e4b091ff4e555}, {ones, items{l[0], l[3]}, 0x01f4a2a646b1a50c},
	} {
		checkSum(t, c.seed, c.want, c.l...)
	}
}

// P20.2: Sum of the same item more than once counts it each time.
func TestSumSame(t *testing.T) {
	for _, seed := range some() {
		for _, x := range full() {
			h := itemByWords(seed, x)
			checkSum(t, seed, 2*h, x, x)
			checkSum(t, seed, 3*h, x, x, x)
			// So often that it moves up, and what is above 64 bits is lost.
			checkSum(t, seed, h<<16, slices.Repeat(items{x}, 1<<16)...)
		}
	}
}

// seedOf is the seed by which some bytes have a hash: the words gone through from the end.
func seedOf(b []byte, h uint64) uint64 {
	modulus := new(big.Int).Lsh(big.NewInt(1), 64)
	back := new(big.Int).ModInverse(big.NewInt(1099511628211), modulus).Uint64()
	h ^= h >> 32
	for _, x := range slices.Backward(b) {
		h = h*back ^ uint64(x)
	}
	return h ^ begin
}

// P20.2: Sum at 64 bits, and one beyond: of items whose hashes are none, one and all bits.
func TestSumEdges(t *testing.T) {
	for _, x := range full() {
		for _, c := range []struct{ h, twice, thrice uint64 }{
			{0, 0, 0}, {1, 2, 3}, {1 << 32, 1 << 33, 3 << 32}, {1<<63 - 1, ones - 1, 1<<63 - 3}, {1 << 63, 0, 1 << 63}, {1<<63 + 1, 2, 1<<63 + 3}, {ones, ones - 1, ones - 2},
		} {
			seed := seedOf(sample.ItemBytes(x), c.h)
			checkItem(t, seed, x, c.h)
			checkSum(t, seed, c.twice, x, x)
			checkSum(t, seed, c.thrice, x, x, x)
			for _, y := range full() {
				checkList(t, seed, items{x, y})
			}
		}
	}
}

// P20.2: Sum of what isn't right, alone and at each place among right ones: as if it weren't there.
func TestSumWrong(t *testing.T) {
	good := full()
	for _, seed := range some() {
		want := within(allByWords(seed, good), 64)
		for _, x := range sample.WrongItems() {
			checkSum(t, seed, 0, x, x)
			for i := range len(good) + 1 {
				checkSum(t, seed, want, slices.Insert(slices.Clone(good), i, x)...)
				checkSum(t, seed, want, slices.Insert(slices.Clone(good), i, x, api.Item{}, x)...)
			}
		}
		checkSum(t, seed, 0, sample.WrongItems()...)
		checkSum(t, seed, want, slices.Concat(sample.WrongItems(), good, sample.WrongItems())...)
	}
}

// orders are all orders of some items.
func orders(l items) []items {
	if len(l) == 0 {
		return []items{nil}
	}
	var all []items
	for i, x := range l {
		for _, rest := range orders(slices.Concat(l[:i], l[i+1:])) {
			all = append(all, append(items{x}, rest...))
		}
	}
	return all
}

// P20.3: the sum in all orders.
func TestOrders(t *testing.T) {
	l := append(full(), api.Item{}, full()[0])
	for _, seed := range []uint64{0, 7, ones} {
		want := within(allByWords(seed, l), 64)
		for _, turned := range orders(l) {
			checkSum(t, seed, want, turned...)
		}
	}
}

// P20.3: of two lists, one behind the other, also where one has none, or both the same ones.
func TestBoth(t *testing.T) {
	one := items{{}, full()[0], full()[1], full()[4], prior(full()[2], 256)}
	lists := sample.Lists(one, 2)
	for _, seed := range []uint64{0, 7, ones} {
		for _, a := range lists {
			for _, b := range lists {
				checkSum(t, seed, hash.Sum(seed, a...)+hash.Sum(seed, b...), slices.Concat(a, b)...)
			}
		}
	}
}

// P20.2 and P20.3: all lists of up to three of some items, right or not.
func TestLists(t *testing.T) {
	one := append(full(), api.Item{}, of("k", ver(17, 1), 1), bodied(dead(of("k", ver(1, 1), 1)), "b"))
	for _, seed := range []uint64{0, 7, ones} {
		for _, l := range sample.Lists(one, 3) {
			checkList(t, seed, l)
		}
	}
}

// P20.1 to P20.3: drawn items, right or not, by drawn seeds.
func TestDrawn(t *testing.T) {
	keys := []string{"a", "aa", "ab", "b", "\x00", "\xff", "key", long("k", 15), long("k", 16)}
	beyond := 0
	for n := range 2000 {
		roll := sample.Draw(n)
		seed := uint64(roll(1<<31))<<33 ^ uint64(roll(1<<31))
		l := sample.DrawnItems(roll, 12, keys)
		for _, x := range l {
			checkItem(t, seed, x, itemByWords(seed, x))
		}
		checkList(t, seed, l)
		if allByWords(seed, l).BitLen() > 64 {
			beyond++
		}
	}
	if beyond < 1000 {
		t.Errorf("just %d sums went beyond 64 bits", beyond)
	}
}

// P20.2: Sum of more items than a list of them as bytes may have.
func TestMany(t *testing.T) {
	for _, n := range []int{4096, 4097, 20000} {
		var l items
		for i := range n {
			l = append(l, prior(of("k", ver(1+i%16, 1+i), 1+i/3), i%256))
		}
		want := within(allByWords(7, l), 64)
		checkSum(t, 7, want, l...)
		slices.Reverse(l)
		checkSum(t, 7, want, l...)
		if got := hash.Sum(7, l[:n/3]...) + hash.Sum(7, l[n/3:]...); got != want {
			t.Errorf("Sum of %d items and of %d comes to %#x, want %#x", n/3, n-n/3, got, want)
		}
	}
}

// P20.1 and rule 5: parts are as they were, and so is what stands behind each, and behind all of them.
func TestPartsHandedIn(t *testing.T) {
	rows, all := sample.Laid([][]byte{[]byte("foo"), {}, []byte("b"), []byte("ar")}, 250)
	kept, room := slices.Clone(all), []byte("room")
	list := append(slices.Clone(rows), room, room)
	for n := range len(rows) + 1 {
		for m := range n + 1 {
			want := ofByWords(7, bytes.Join(rows[m:n], nil))
			checkOf(t, 7, want, list[m:n]...)
			checkOf(t, 7, want, list[m:n]...)
			if !bytes.Equal(all, kept) || string(room) != "room" {
				t.Fatalf("Of parts from %d to %d left %v and %q", m, n, all, room)
			}
			for i, part := range append(slices.Clone(rows), room, room) {
				if !bytes.Equal(list[i], part) || len(part) > 0 && &list[i][0] != &part[0] {
					t.Fatalf("Of parts from %d to %d left %q", m, n, list)
				}
			}
		}
	}
}

// P20.2 and rule 5: items are as they were, and so is what stands behind them.
func TestItemsHandedIn(t *testing.T) {
	for _, l := range []items{full(), {{}, full()[0], prior(full()[2], 256), full()[1], {}}} {
		laid, kept := sample.LayOne(l, bodied(of("overwritten", ver(16, last), last), "over"))
		for n := range len(laid) + 1 {
			for m := range n + 1 {
				checkList(t, 7, laid[m:n])
				if !kept() {
					t.Fatalf("Sum of those from %d to %d of %#v left %#v", m, n, l, laid)
				}
			}
		}
	}
}

// Rule 6: what is answered hangs on nothing that was asked ahead.
func TestHangsOnNothing(t *testing.T) {
	l := full()
	for range 2 {
		for _, seed := range seeds() {
			checkOf(t, seed, ofByWords(seed, []byte("foobar")), []byte("foo"), []byte("bar"))
			checkItem(t, seed, api.Item{}, 0)
			checkList(t, seed, l)
			checkCut(t, seed, 65, seed)
		}
	}
}
