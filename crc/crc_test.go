package crc

import (
	"bytes"
	"hash/crc32"
	"slices"
	"strings"
	"testing"
)

// allOnes are four bytes whose sum is 2^32 - 1; theNone are four whose sum is 0.
var (
	allOnes = []byte{0xFF, 0xFF, 0xFF, 0xFF}
	theNone = []byte{0x9D, 0x0A, 0xD9, 0x6D}
)

// mixed are n bytes that look mixed, the same each time.
func mixed(n int, seed uint32) []byte {
	b := make([]byte, n)
	for i := range b {
		seed = seed*1664525 + 1013904223
		b[i] = byte(seed >> 24)
	}
	return b
}

// sumByWords is what the chapter says the sum is, word by word.
func sumByWords(b []byte) uint32 {
	state := uint64(1)<<32 - 1
	for _, x := range b {
		lowest := state%256 ^ uint64(x)
		state = state/256*256 + lowest
		for i := 0; i < 8; i++ {
			out := state % 2
			state /= 2
			if out == 1 {
				state ^= 0xEDB88320
			}
		}
	}
	return uint32(uint64(1)<<32 - 1 - state)
}

// P3.1: Sum of one part.
func TestSum(t *testing.T) {
	for _, c := range []struct {
		b    string
		want uint32
	}{
		{"123456789", 0xCBF43926},
		{"", 0},
		{"a", 0xE8B7BE43},
		{"abc", 0x352441C2},
		{"\x00", 0xD202EF8D},
		{"\xff", 0xFF000000},
		{"\x00\x00\x00\x00", 0x2144DF1C},
		{string(allOnes), 0xFFFFFFFF},
		{string(theNone), 0},
		{"The quick brown fox jumps over the lazy dog", 0x414FA339},
	} {
		if got := Sum([]byte(c.b)); got != c.want {
			t.Errorf("Sum(%q) = %#x, want %#x", c.b, got, c.want)
		}
	}
}

// P3.1: Sum of no part, and of parts that are nil or empty.
func TestSumNone(t *testing.T) {
	if got := Sum(); got != 0 {
		t.Errorf("Sum() = %#x, want 0", got)
	}
	for _, parts := range [][][]byte{nil, {}, {nil}, {{}}, {nil, nil}, {{}, nil, {}}} {
		if got := Sum(parts...); got != 0 {
			t.Errorf("Sum(%v) = %#x, want 0", parts, got)
		}
	}
}

// P3.1: Sum of several parts is that of their bytes, one part behind the other.
func TestSumParts(t *testing.T) {
	const want = 0xCBF43926
	for _, parts := range [][]string{
		{"123456789"},
		{"1234", "56789"},
		{"1", "23456789"},
		{"12345678", "9"},
		{"", "123456789"},
		{"123456789", ""},
		{"1234", "", "56789"},
		{"", "", "12", "", "345", "6789", ""},
		strings.Split("123456789", ""),
	} {
		var l [][]byte
		for _, s := range parts {
			l = append(l, []byte(s))
		}
		if got := Sum(l...); got != want {
			t.Errorf("Sum(%q) = %#x, want %#x", parts, got, want)
		}
	}
	if got := Sum(nil, []byte("12345"), nil, []byte("6789"), nil); got != want {
		t.Errorf("with parts that are nil: %#x, want %#x", got, want)
	}
	if got := Sum([]byte("56789"), []byte("1234")); got == want {
		t.Error("parts in another order have the same sum")
	}
}

// P3.1: Sum of any cut of bytes into three.
func TestSumCuts(t *testing.T) {
	b := mixed(20, 1)
	want := sumByWords(b)
	for i := range len(b) + 1 {
		for j := i; j <= len(b); j++ {
			if got := Sum(b[:i], b[i:j], b[j:]); got != want {
				t.Errorf("cut at %d and %d: %#x, want %#x", i, j, got, want)
			}
		}
	}
}

// P3.1: Sum, as the words say, of all lists of up to two bytes, and of longer ones.
func TestSumByWords(t *testing.T) {
	check := func(b []byte) {
		if got, want := Sum(b), sumByWords(b); got != want {
			t.Fatalf("Sum of %d bytes, %.8v: %#x, want %#x", len(b), b, got, want)
		}
		if got, want := Sum(b), crc32.ChecksumIEEE(b); got != want {
			t.Fatalf("Sum of %d bytes, %.8v: %#x, the library's %#x", len(b), b, got, want)
		}
	}
	for x := range 256 {
		check([]byte{byte(x)})
		for y := range 256 {
			check([]byte{byte(x), byte(y)})
		}
	}
	for n := range 300 {
		check(mixed(n, uint32(n)))
		check(make([]byte, n))
		check(bytes.Repeat([]byte{0xFF}, n))
	}
	check(mixed(1<<20, 7))
}

// P3.1: Tail.
func TestTail(t *testing.T) {
	for _, c := range []struct {
		sum  uint32
		want []byte
	}{
		{0, []byte{0, 0, 0, 0}},
		{1, []byte{1, 0, 0, 0}},
		{1<<32 - 1, []byte{255, 255, 255, 255}},
		{1<<32 - 2, []byte{254, 255, 255, 255}},
		{255, []byte{255, 0, 0, 0}},
		{256, []byte{0, 1, 0, 0}},
		{1 << 16, []byte{0, 0, 1, 0}},
		{1 << 24, []byte{0, 0, 0, 1}},
		{1 << 31, []byte{0, 0, 0, 128}},
		{0xCBF43926, []byte{0x26, 0x39, 0xF4, 0xCB}},
		{0x352441C2, []byte{0xC2, 0x41, 0x24, 0x35}},
	} {
		if got := Tail(c.sum); !bytes.Equal(got, c.want) {
			t.Errorf("Tail(%#x) = %v, want %v", c.sum, got, c.want)
		}
	}
}

// checkWhole checks that b is told to be whole, with so many bytes ahead of its sum.
func checkWhole(t *testing.T, b []byte) {
	t.Helper()
	if got, ok := Whole(b); !ok || !bytes.Equal(got, b[:len(b)-4]) {
		t.Errorf("Whole(%v) = %v, %t, want those ahead of the last four, true", b, got, ok)
	}
}

// checkBroken checks that b is told not to be whole.
func checkBroken(t *testing.T, b []byte) {
	t.Helper()
	if got, ok := Whole(b); ok || got != nil {
		t.Errorf("Whole(%v) = %v, %t, want nothing, false", b, got, ok)
	}
}

// summed is b, and behind it its sum.
func summed(b []byte) []byte { return slices.Concat(b, Tail(Sum(b))) }

// P3.2: Whole of bytes that end in their sum.
func TestWhole(t *testing.T) {
	for _, b := range [][]byte{
		append([]byte("123456789"), 0x26, 0x39, 0xF4, 0xCB),
		append([]byte("abc"), 0xC2, 0x41, 0x24, 0x35),
		append([]byte("a"), 0x43, 0xBE, 0xB7, 0xE8),
		{0, 0x8D, 0xEF, 0x02, 0xD2},
		append(slices.Clone(allOnes), 255, 255, 255, 255),
		append(slices.Clone(theNone), 0, 0, 0, 0),
	} {
		checkWhole(t, b)
	}
	for n := range 300 {
		checkWhole(t, summed(mixed(n, uint32(n))))
		checkWhole(t, summed(make([]byte, n)))
	}
	checkWhole(t, summed(summed([]byte("abc"))))
}

// P3.2: Whole of four bytes alone: only the sum of none is whole, and none is what it has.
func TestWholeFour(t *testing.T) {
	if got, ok := Whole([]byte{0, 0, 0, 0}); !ok || len(got) != 0 {
		t.Errorf("of four noughts: %v, %t, want none, true", got, ok)
	}
	for i := range 4 {
		for x := 1; x < 256; x++ {
			b := make([]byte, 4)
			b[i] = byte(x)
			checkBroken(t, b)
		}
	}
	checkBroken(t, []byte{255, 255, 255, 255})
	checkBroken(t, []byte{1, 2, 3, 4})
}

// P3.2: Whole of fewer than four bytes.
func TestWholeShort(t *testing.T) {
	for _, b := range [][]byte{
		nil, {}, {0}, {255}, {0, 0}, {255, 255}, {0, 0, 0}, {255, 255, 255}, {1, 2, 3},
		{0x8D, 0xEF, 0x02},
	} {
		checkBroken(t, b)
	}
	// What stands behind the bytes, in their array, is none of them.
	four := make([]byte, 4)
	for n := range 4 {
		checkBroken(t, four[:n])
	}
}

// P3.2: Whole of bytes that end in something else than their sum.
func TestWholeOther(t *testing.T) {
	for _, b := range [][]byte{
		[]byte("123456789"),
		append([]byte("123456789"), 0xCB, 0xF4, 0x39, 0x26),
		append([]byte("123456789"), 0x27, 0x39, 0xF4, 0xCB),
		append([]byte("123456789"), 0x26, 0x39, 0xF4, 0xCA),
		append([]byte("123456789"), 0xD9, 0xC6, 0x0B, 0x34),
		append([]byte("123456789"), 0, 0, 0, 0),
		append([]byte("123456789"), 0x26, 0x39, 0xF4, 0xCB, 0),
		append([]byte("123456789"), 0x26, 0x39, 0xF4),
		append([]byte("12345678"), 0x26, 0x39, 0xF4, 0xCB),
		append([]byte("123456780"), 0x26, 0x39, 0xF4, 0xCB),
		append([]byte("213456789"), 0x26, 0x39, 0xF4, 0xCB),
		append(slices.Clone(allOnes), 0, 0, 0, 0),
		append(slices.Clone(theNone), 255, 255, 255, 255),
		make([]byte, 5),
		make([]byte, 8),
	} {
		checkBroken(t, b)
	}
	for n := range 30 {
		b := summed(mixed(n, uint32(n)))
		for i := n; i < len(b); i++ {
			for x := 1; x < 256; x++ {
				b[i] ^= byte(x)
				checkBroken(t, b)
				b[i] ^= byte(x)
			}
		}
	}
}

// turned is b, with those bits turned that pattern has, its lowest at the bit so far from b's first one; bits side by side: byte by byte, of each the lowest first.
func turned(b []byte, at int, pattern uint32) []byte {
	out := slices.Clone(b)
	for i := range 32 {
		if pattern>>i&1 == 1 {
			out[(at+i)/8] ^= 1 << ((at + i) % 8)
		}
	}
	return out
}

// P3.3: bits that are turned within 32 side by side, at each place, the first byte and the last one too.
func TestTurned(t *testing.T) {
	patterns := []uint32{1, 3, 5, 0x81, 0xFF, 0x101, 0x1FF, 0xFFFF, 0x10001, 0x800001, 0xFFFFFF, 0x80000001, 0xC0000003, 0xDB710641, 0x04C11DB7, 0xFFFFFFFF}
	for i := range 32 {
		patterns = append(patterns, 1<<i|1, ^uint32(0)>>i)
	}
	for i := range 60 {
		m := mixed(4, uint32(i))
		patterns = append(patterns, uint32(m[0])<<24|uint32(m[1])<<16|uint32(m[2])<<8|uint32(m[3])|1)
	}
	for _, n := range []int{1, 2, 3, 4, 5, 8, 13, 32} {
		for _, b := range [][]byte{mixed(n, uint32(n)), make([]byte, n), bytes.Repeat([]byte{0xFF}, n)} {
			sum := Sum(b)
			for at := range 8 * n {
				for _, pattern := range patterns {
					// Bits past the end aren't there to be turned.
					pattern = pattern << max(0, at+32-8*n) >> max(0, at+32-8*n)
					if got := Sum(turned(b, at, pattern)); got == sum {
						t.Fatalf("%v, with %#x turned at bit %d, has the same sum", b, pattern, at)
					}
				}
			}
		}
	}
}

// P3.3: all that can be turned in up to two bytes.
func TestTurnedAll(t *testing.T) {
	for _, b := range [][]byte{{0, 0}, {255, 255}, {'a', 'b'}} {
		sum := Sum(b)
		for x := 1; x < 1<<16; x++ {
			if Sum([]byte{b[0] ^ byte(x), b[1] ^ byte(x>>8)}) == sum {
				t.Fatalf("%v, with %#x turned, has the same sum", b, x)
			}
		}
	}
}

// independent tells that no choice of one at least, put together by exclusive or, is 0.
func independent(l []uint32) bool {
	var lead [32]uint32
	for _, x := range l {
		for bit := 31; bit >= 0 && x != 0; bit-- {
			if x>>bit&1 == 0 {
				continue
			}
			if lead[bit] == 0 {
				lead[bit] = x
				break
			}
			x ^= lead[bit]
		}
		if x == 0 {
			return false
		}
	}
	return true
}

// P3.3: whatever is turned within 32 bits, for what a bit turns of the sum is the same whatever the others are, and these 32 are independent.
func TestTurnedWhatever(t *testing.T) {
	const n = 64
	zeros := make([]byte, n)
	turns := make([]uint32, 8*n)
	for at := range turns {
		turns[at] = Sum(turned(zeros, at, 1)) ^ Sum(zeros)
	}
	for at := range turns {
		if end := min(at+32, len(turns)); !independent(turns[at:end]) {
			t.Errorf("some bits of those from %d on, turned, leave the sum", at)
		}
	}
	for seed := range uint32(50) {
		b := mixed(n, seed)
		sum := Sum(b)
		for at := range turns {
			if got := Sum(turned(b, at, 1)); got != sum^turns[at] {
				t.Fatalf("of %v, bit %d turns %#x of the sum, want %#x", b, at, got^sum, turns[at])
			}
			sum, b = sum^turns[at], turned(b, at, 1)
		}
	}
}

// P3.2 and P3.3: what was whole is none any more, when bits within 32 are turned ahead of its sum.
func TestWholeTurned(t *testing.T) {
	b := summed([]byte("123456789"))
	for at := range 8 * 9 {
		for _, pattern := range []uint32{1, 3, 0x81, 0xFFFF, 0x80000001, 0xFFFFFFFF} {
			most := max(0, at+32-8*9)
			checkBroken(t, turned(b, at, pattern<<most>>most))
		}
	}
}

// Rule 5: what is handed in stays, and what is answered is memory of its own.
func TestKeepsApart(t *testing.T) {
	b := summed([]byte("123456789"))
	was := slices.Clone(b)
	Sum(b, b[:3])
	got, ok := Whole(b)
	if !ok || !bytes.Equal(b, was) {
		t.Fatalf("bytes became %v, were %v", b, was)
	}
	got[0] ^= 1
	_ = append(got, 1, 2, 3, 4)
	if !bytes.Equal(b, was) {
		t.Errorf("bytes became %v, were %v", b, was)
	}
	one, two := Tail(5), Tail(5)
	one[0] = 9
	if two[0] != 5 || Tail(5)[0] != 5 {
		t.Errorf("Tail(5) became %v", two)
	}
}
