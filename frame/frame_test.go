package frame

import (
	"bytes"
	"encoding/binary"
	"fmt"
	"hash/crc32"
	"slices"
	"strings"
	"testing"

	"winnower/api"
)

// sizes are loads' sizes at the edges of lengths of one, two and three bytes, and some between.
var sizes = []int{0, 1, 2, 3, 4, 5, 8, 100, 126, 127, 128, 129, 130, 255, 256, 1000, 16382, 16383, 16384, 16385, 20000, api.MaxLoad - 1, api.MaxLoad}

// mixed are n bytes that look mixed, the same each time.
func mixed(n int, seed uint32) []byte {
	b := make([]byte, n)
	for i := range b {
		seed = seed*1664525 + 1013904223
		b[i] = byte(seed >> 24)
	}
	return b
}

// numberByWords is what chapter 2 says a number's bytes are; Go's own are just so.
func numberByWords(n int) []byte { return binary.AppendUvarint(nil, uint64(n)) }

// summed is b, and behind it its sum, by the library.
func summed(b []byte) []byte {
	return binary.LittleEndian.AppendUint32(slices.Clone(b), crc32.ChecksumIEEE(b))
}

// makeByWords is what the chapter says a load's frame is, word by word.
func makeByWords(load []byte) []byte { return summed(slices.Concat(numberByWords(len(load)), load)) }

// nextByWords is what the chapter says Next is, word by word.
func nextByWords(b []byte) ([]byte, int, api.Errno) {
	last := slices.IndexFunc(b, func(x byte) bool { return x < 128 })
	switch {
	case last < 0 && len(b) < 8:
		return nil, 0, api.ErrShort
	case last < 0 || last >= 8:
		return nil, 0, api.ErrForm
	}
	n, head := binary.Uvarint(b)
	switch {
	case !bytes.Equal(numberByWords(int(n)), b[:head]) || n > api.MaxNumber:
		return nil, 0, api.ErrForm
	case n > api.MaxLoad:
		return nil, 0, api.ErrSize
	case len(b) < head+int(n)+4:
		return nil, 0, api.ErrShort
	}
	behind := head + int(n)
	if !bytes.Equal(summed(b[:behind]), b[:behind+4]) {
		return nil, 0, api.ErrSum
	}
	return b[head:behind], behind + 4, api.OK
}

// openByWords is what the chapter says Open is.
func openByWords(b []byte) ([]byte, api.Errno) {
	load, n, e := nextByWords(b)
	if e == api.OK && n < len(b) {
		return nil, api.ErrLong
	}
	return load, e
}

// brief are bytes as a test tells them: of many only the first ones.
func brief(b []byte) string {
	if len(b) > 40 {
		return fmt.Sprintf("%v.. of %d bytes", b[:20], len(b))
	}
	return fmt.Sprint(b)
}

// checkWords checks that Next and Open answer of b what the words say, and nothing beside an error.
func checkWords(t *testing.T, b []byte) {
	t.Helper()
	want, wantN, wantE := nextByWords(b)
	load, n, e := Next(b)
	if e != wantE || n != wantN || !bytes.Equal(load, want) {
		t.Fatalf("Next(%s) = %s, %d, %d, want %s, %d, %d", brief(b), brief(load), n, e, brief(want), wantN, wantE)
	}
	want, wantE = openByWords(b)
	load, e = Open(b)
	if e != wantE || !bytes.Equal(load, want) {
		t.Fatalf("Open(%s) = %s, %d, want %s, %d", brief(b), brief(load), e, brief(want), wantE)
	}
}

// checkNone checks that no frame begins b, and with what error.
func checkNone(t *testing.T, name string, b []byte, e api.Errno) {
	t.Helper()
	if load, n, got := Next(b); got != e || len(load) != 0 || n != 0 {
		t.Fatalf("%s: Next(%s) = %s, %d, %d, want nothing, 0, %d", name, brief(b), brief(load), n, got, e)
	}
	if load, got := Open(b); got != e || len(load) != 0 {
		t.Fatalf("%s: Open(%s) = %s, %d, want nothing, %d", name, brief(b), brief(load), got, e)
	}
}

// made is the frame of parts, which aren't too large.
func made(t *testing.T, parts ...[]byte) []byte {
	t.Helper()
	b, e := Make(parts...)
	if e != api.OK {
		t.Fatalf("Make of %d parts: %d, want OK", len(parts), e)
	}
	return b
}

// P4.1: Make, of loads in one part.
func TestMake(t *testing.T) {
	for _, c := range []struct {
		load string
		want []byte
	}{
		{"", []byte{0, 141, 239, 2, 210}},
		{"a", []byte{1, 'a', 0x70, 0x72, 0x77, 0x62}},
		{"\x00", []byte{1, 0, 0xBE, 0x23, 0xC2, 0x58}},
		{"abc", []byte{3, 'a', 'b', 'c', 0x22, 0xE8, 0x94, 0xF9}},
		{"123456789", append([]byte("\t123456789"), 0x34, 0x6E, 0x62, 0x32)},
	} {
		if got := made(t, []byte(c.load)); !bytes.Equal(got, c.want) {
			t.Errorf("Make(%q) = %#v, want %#v", c.load, got, c.want)
		}
	}
	for _, n := range sizes {
		for _, load := range [][]byte{mixed(n, uint32(n)), make([]byte, n), bytes.Repeat([]byte{255}, n)} {
			if got, want := made(t, load), makeByWords(load); !bytes.Equal(got, want) {
				t.Errorf("of %d bytes: %s, want %s", n, brief(got), brief(want))
			}
		}
	}
}

// P4.1: Make of no part at all, and of parts that are nil or empty: the empty load.
func TestMakeNone(t *testing.T) {
	want := []byte{0, 141, 239, 2, 210}
	if got := made(t); !bytes.Equal(got, want) {
		t.Errorf("Make() = %v, want %v", got, want)
	}
	for _, parts := range [][][]byte{nil, {}, {nil}, {{}}, {nil, nil}, {{}, nil, {}}} {
		if got := made(t, parts...); !bytes.Equal(got, want) {
			t.Errorf("Make(%v) = %v, want %v", parts, got, want)
		}
	}
}

// P4.1: Make of several parts, one behind the other.
func TestMakeParts(t *testing.T) {
	want := makeByWords([]byte("123456789"))
	for _, parts := range [][]string{
		{"123456789"},
		{"1234", "56789"},
		{"", "123456789", ""},
		{"1234", "", "", "56789"},
		strings.Split("123456789", ""),
	} {
		var l [][]byte
		for _, s := range parts {
			l = append(l, []byte(s))
		}
		if got := made(t, l...); !bytes.Equal(got, want) {
			t.Errorf("Make(%q) = %v, want %v", parts, got, want)
		}
	}
	if got := made(t, nil, []byte("12345"), nil, nil, []byte("6789"), nil); !bytes.Equal(got, want) {
		t.Errorf("with parts that are nil: %v, want %v", got, want)
	}
	if got, other := made(t, []byte("56789"), []byte("1234")), makeByWords([]byte("567891234")); !bytes.Equal(got, other) {
		t.Errorf("in another order: %v, want %v", got, other)
	}
	part := []byte("ab")
	if got, twice := made(t, part, part), makeByWords([]byte("abab")); !bytes.Equal(got, twice) {
		t.Errorf("a part twice: %v, want %v", got, twice)
	}
}

// P4.1: Make of any cut into three, where the length has one, two and three bytes.
func TestMakeCuts(t *testing.T) {
	for _, n := range []int{9, 127, 128, 129} {
		load := mixed(n, uint32(n))
		want := makeByWords(load)
		for i := range n + 1 {
			for j := i; j <= n; j++ {
				if got := made(t, load[:i], load[i:j], load[j:]); !bytes.Equal(got, want) {
					t.Fatalf("%d bytes, cut at %d and %d: %s, want %s", n, i, j, brief(got), brief(want))
				}
			}
		}
	}
	for _, n := range []int{16383, 16384, api.MaxLoad} {
		load := mixed(n, uint32(n))
		want := makeByWords(load)
		for _, i := range []int{0, 1, 127, 128, n / 2, n - 1, n} {
			if got := made(t, load[:i], load[i:]); !bytes.Equal(got, want) {
				t.Fatalf("%d bytes, cut at %d: %s, want %s", n, i, brief(got), brief(want))
			}
		}
	}
}

// P4.1: a length has one, two or three bytes.
func TestMakeLengths(t *testing.T) {
	for _, c := range []struct {
		n    int
		head []byte
	}{
		{0, []byte{0}},
		{1, []byte{1}},
		{127, []byte{127}},
		{128, []byte{128, 1}},
		{300, []byte{172, 2}},
		{16383, []byte{255, 127}},
		{16384, []byte{128, 128, 1}},
		{api.MaxLoad - 1, []byte{255, 255, 1}},
		{api.MaxLoad, []byte{128, 128, 2}},
	} {
		load := mixed(c.n, 3)
		b := made(t, load)
		if len(b) != len(c.head)+c.n+4 || !bytes.HasPrefix(b, c.head) || !bytes.Equal(b[len(c.head):len(b)-4], load) {
			t.Errorf("of %d bytes: %s, want %v, the load, and four", c.n, brief(b), c.head)
		}
	}
}

// repeated is a part, so many times.
func repeated(n int, part []byte) [][]byte { return slices.Repeat([][]byte{part}, n) }

// P4.1: loads of MaxLoad bytes, in one part and in several, have a frame.
func TestMakeMost(t *testing.T) {
	full, half, one := mixed(api.MaxLoad, 5), mixed(api.MaxLoad/2, 5), mixed(1, 5)
	for i, parts := range [][][]byte{
		{full},
		{nil, full, {}},
		{full[:1], full[1:]},
		{full[:api.MaxLoad-1], full[api.MaxLoad-1:]},
		{half, half},
		{half, nil, half, nil},
		repeated(api.MaxLoad, one),
	} {
		load := slices.Concat(parts...)
		b, e := Make(parts...)
		if e != api.OK || !bytes.Equal(b, makeByWords(load)) {
			t.Errorf("row %d: %s, %d", i, brief(b), e)
		}
		if back, e := Open(b); e != api.OK || !bytes.Equal(back, load) {
			t.Errorf("row %d, opened: %s, %d", i, brief(back), e)
		}
	}
}

// P4.1: loads of more than MaxLoad bytes, in one part and in several, have none.
func TestMakeTooLarge(t *testing.T) {
	full, half, one := make([]byte, api.MaxLoad), make([]byte, api.MaxLoad/2), make([]byte, 1)
	for i, parts := range [][][]byte{
		{make([]byte, api.MaxLoad+1)},
		{nil, make([]byte, api.MaxLoad+1)},
		{make([]byte, api.MaxLoad+1), nil},
		{make([]byte, 1<<20)},
		{full, one},
		{one, full},
		{full, nil, {}, one, nil},
		{half, half, one},
		{half, one, half},
		{one, half, half},
		{full, full},
		{full, full, full},
		{make([]byte, 1<<20), one},
		{make([]byte, 1<<20), make([]byte, 1<<20)},
		repeated(api.MaxLoad+1, one),
		repeated(300, full),
	} {
		if b, e := Make(parts...); e != api.ErrSize || len(b) != 0 {
			t.Errorf("row %d: %s, %d, want nothing, ErrSize", i, brief(b), e)
		}
	}
}

// P4.2: Open of a frame alone, and Next of one that begins bytes, whatever stands behind it.
func TestOpenAndNext(t *testing.T) {
	for _, n := range sizes {
		load := mixed(n, uint32(n)+9)
		b := makeByWords(load)
		if got, e := Open(b); e != api.OK || !bytes.Equal(got, load) {
			t.Errorf("of %d bytes: Open = %s, %d", n, brief(got), e)
		}
		for _, behind := range [][]byte{nil, {}, {0}, {7}, {7, 7}, {255}, {128, 128}, b, mixed(5000, 1)} {
			all := slices.Concat(b, behind)
			if got, m, e := Next(all); e != api.OK || m != len(b) || !bytes.Equal(got, load) {
				t.Errorf("of %d bytes, %d behind: Next = %s, %d, %d, want %d", n, len(behind), brief(got), m, e, len(b))
			}
			want := api.ErrLong
			if len(behind) == 0 {
				want = api.OK
			}
			if got, e := Open(all); e != want || want == api.ErrLong && len(got) != 0 {
				t.Errorf("of %d bytes, %d behind: Open = %s, %d, want %d", n, len(behind), brief(got), e, want)
			}
		}
	}
}

// P4.2: Next of several frames, one behind the other, and of a frame within a frame.
func TestNextRow(t *testing.T) {
	loads := [][]byte{[]byte("abc"), nil, mixed(200, 1), {0}, nil, nil, mixed(api.MaxLoad, 2), []byte("z")}
	var row []byte
	for _, load := range loads {
		row = append(row, made(t, load)...)
	}
	for i, want := range loads {
		load, n, e := Next(row)
		if e != api.OK || !bytes.Equal(load, want) || n != len(makeByWords(want)) {
			t.Fatalf("frame %d: %s, %d, %d", i, brief(load), n, e)
		}
		row = row[n:]
	}
	checkNone(t, "behind the last one", row, api.ErrShort)
	inner := made(t, []byte("abc"))
	if got, e := Open(made(t, inner)); e != api.OK || !bytes.Equal(got, inner) {
		t.Errorf("a frame's frame: %v, %d", got, e)
	}
}

// P4.2: the number's error, of a wrong form, or cut short.
func TestNumberWrong(t *testing.T) {
	times := func(n int, b byte) []byte { return bytes.Repeat([]byte{b}, n) }
	for _, c := range []struct {
		name string
		b    []byte
		e    api.Errno
	}{
		{"none", nil, api.ErrShort},
		{"empty", []byte{}, api.ErrShort},
		{"half a number", []byte{128}, api.ErrShort},
		{"half of three", []byte{128, 128}, api.ErrShort},
		{"seven of 128", times(7, 128), api.ErrShort},
		{"seven of 255", times(7, 255), api.ErrShort},
		{"eight of 128", times(8, 128), api.ErrForm},
		{"eight of 255", times(8, 255), api.ErrForm},
		{"eight of 128, and more", append(times(8, 128), 0, 0, 0, 0, 0, 0), api.ErrForm},
		{"a hundred of 255", times(100, 255), api.ErrForm},
		{"0 in two", []byte{128, 0}, api.ErrForm},
		{"0 in two, with four behind", []byte{128, 0, 141, 239, 2, 210}, api.ErrForm},
		{"0 in two, with its sum", summed([]byte{128, 0}), api.ErrForm},
		{"3 in two, with its sum", summed([]byte{131, 0, 'a', 'b', 'c'}), api.ErrForm},
		{"MaxLoad in four", []byte{128, 128, 130, 0}, api.ErrForm},
		{"above MaxLoad in four", []byte{129, 128, 130, 0}, api.ErrForm},
		{"MaxNumber in eight", []byte{128, 128, 128, 128, 128, 128, 192, 0}, api.ErrForm},
		{"one above MaxNumber", []byte{129, 128, 128, 128, 128, 128, 64}, api.ErrForm},
		{"one above MaxNumber, and more", []byte{129, 128, 128, 128, 128, 128, 64, 0, 0, 0, 0}, api.ErrForm},
		{"2^49 in eight", append(times(7, 128), 1), api.ErrForm},
		{"2^49 in eight, and more", append(times(7, 128), 1, 0, 0, 0, 0), api.ErrForm},
	} {
		checkNone(t, c.name, c.b, c.e)
	}
}

// P4.2: a length above MaxLoad, whether its bytes are all there, with their sum, or not.
func TestLengthTooLarge(t *testing.T) {
	for _, n := range []int{api.MaxLoad + 1, api.MaxLoad + 2, 2 * api.MaxLoad, 1<<21 - 1, 1 << 21, 1 << 32, 1<<32 + 3, api.MaxNumber - 1, api.MaxNumber} {
		checkNone(t, "alone", numberByWords(n), api.ErrSize)
		checkNone(t, "with few behind", append(numberByWords(n), 1, 2, 3), api.ErrSize)
		checkNone(t, "with many behind", append(numberByWords(n), mixed(3*api.MaxLoad, 1)...), api.ErrSize)
		checkNone(t, "with a sum behind", summed(numberByWords(n)), api.ErrSize)
	}
	for _, n := range []int{api.MaxLoad + 1, api.MaxLoad + 2, 2 * api.MaxLoad} {
		b := makeByWords(mixed(n, 1))
		checkNone(t, "with all", b, api.ErrSize)
		checkNone(t, "with all, and more", append(b, 7), api.ErrSize)
	}
	checkNone(t, "MaxLoad itself, alone", numberByWords(api.MaxLoad), api.ErrShort)
}

// P4.2: a frame whose bytes aren't all there.
func TestShort(t *testing.T) {
	for _, c := range []struct {
		name string
		b    []byte
	}{
		{"length 0 alone", []byte{0}},
		{"length 0 and three", []byte{0, 141, 239, 2}},
		{"length 0 and three others", []byte{0, 1, 2, 3}},
		{"length 3 alone", []byte{3}},
		{"length 3 and one", []byte{3, 1}},
		{"length 3 and its load", []byte{3, 'a', 'b', 'c'}},
		{"length 3 and all but one", makeByWords([]byte("abc"))[:7]},
		{"length 4, with the frame of three", append([]byte{4}, makeByWords([]byte("abc"))[1:]...)},
		{"length 127 and 130", append([]byte{127}, make([]byte, 130)...)},
		{"length 128 and 131", append([]byte{128, 1}, make([]byte, 131)...)},
		{"length MaxLoad, alone", []byte{128, 128, 2}},
		{"length MaxLoad, and its load", append([]byte{128, 128, 2}, make([]byte, api.MaxLoad)...)},
		{"length MaxLoad, and all but one", append([]byte{128, 128, 2}, make([]byte, api.MaxLoad+3)...)},
	} {
		checkNone(t, c.name, c.b, api.ErrShort)
	}
	// What stands behind the bytes, in their array, is none of them.
	b := makeByWords([]byte("abc"))
	for n := range b {
		checkNone(t, "with room behind", b[:n], api.ErrShort)
	}
}

// P4.2: a frame whose sum is another one, whether bytes stand behind it or not.
func TestSum(t *testing.T) {
	b := makeByWords([]byte("123456789"))
	end := len(b) - 4
	sum := b[end:]
	for _, other := range [][]byte{
		{0, 0, 0, 0},
		{255, 255, 255, 255},
		{sum[3], sum[2], sum[1], sum[0]},
		{^sum[0], ^sum[1], ^sum[2], ^sum[3]},
		binary.LittleEndian.AppendUint32(nil, crc32.ChecksumIEEE([]byte("123456789"))),
		binary.LittleEndian.AppendUint32(nil, crc32.ChecksumIEEE(nil)),
		binary.LittleEndian.AppendUint32(nil, crc32.ChecksumIEEE(b)),
	} {
		wrong := slices.Concat(b[:end], other)
		checkNone(t, "another sum", wrong, api.ErrSum)
		checkNone(t, "another sum, and a byte behind", append(wrong, 0), api.ErrSum)
		checkNone(t, "another sum, and the right one behind", slices.Concat(wrong, sum), api.ErrSum)
	}
	for _, load := range []string{"", "a", "123456789", strings.Repeat("ab", 100)} {
		b := makeByWords([]byte(load))
		for i := len(b) - 4; i < len(b); i++ {
			for x := 1; x < 256; x++ {
				b[i] ^= byte(x)
				checkNone(t, "a byte of the sum", b, api.ErrSum)
				checkNone(t, "a byte of the sum, and one behind", append(b, 7), api.ErrSum)
				b[i] ^= byte(x)
			}
		}
	}
	checkNone(t, "five noughts", make([]byte, 5), api.ErrSum)
	// The sum is of the length too: with another one ahead, the same bytes are no frame.
	checkNone(t, "a length of one less", append([]byte{2}, makeByWords([]byte("abc"))[1:]...), api.ErrSum)
	checkNone(t, "MaxLoad noughts", append([]byte{128, 128, 2}, make([]byte, api.MaxLoad+4)...), api.ErrSum)
}

// eachOf goes through all lists of so many bytes out of some.
func eachOf(n int, some []byte, f func([]byte)) {
	b := make([]byte, n)
	var fill func(int)
	fill = func(i int) {
		if i == n {
			f(b)
			return
		}
		for _, x := range some {
			b[i] = x
			fill(i + 1)
		}
	}
	fill(0)
}

// P4.2: Next and Open, as the words say, of all lists of few bytes, with a sum behind them and without.
func TestByWords(t *testing.T) {
	every := make([]byte, 256)
	for i := range every {
		every[i] = byte(i)
	}
	check := func(b []byte) {
		t.Helper()
		checkWords(t, b)
		sent := summed(b)
		checkWords(t, sent)
		checkWords(t, append(sent, 7))
		checkWords(t, sent[:len(sent)-1])
	}
	for n := range 3 {
		eachOf(n, every, check)
	}
	for n := 3; n <= 5; n++ {
		eachOf(n, []byte{0, 1, 2, 3, 4, 127, 128, 255}, check)
	}
	for n := 6; n <= 9; n++ {
		eachOf(n, []byte{0, 4, 128, 255}, check)
	}
}

// P4.2: Next and Open, as the words say, of frames of which a byte is another one, is gone, or is one more, and of two in a row.
func TestByWordsChanged(t *testing.T) {
	for _, n := range []int{0, 1, 2, 5, 127, 128, 300} {
		b := makeByWords(mixed(n, uint32(n)))
		for i := range b {
			for _, x := range []byte{1, 2, 64, 128, 129, 255} {
				b[i] ^= x
				checkWords(t, b)
				checkWords(t, slices.Concat(b, b))
				b[i] ^= x
			}
			checkWords(t, slices.Delete(slices.Clone(b), i, i+1))
			checkWords(t, slices.Insert(slices.Clone(b), i, 0))
			checkWords(t, slices.Insert(slices.Clone(b), i, 128))
		}
	}
}

// P4.3: a first part of a frame that isn't all of it.
func TestFirstParts(t *testing.T) {
	for _, size := range sizes {
		b := made(t, mixed(size, uint32(size)))
		for n := range b {
			checkNone(t, "a first part", b[:n], api.ErrShort)
		}
		if load, e := Open(b); e != api.OK || len(load) != size {
			t.Errorf("all of it: %d bytes, %d, want %d, OK", len(load), e, size)
		}
	}
	// Loads that hold frames themselves, and loads of noughts, whose first parts look like frames.
	for _, load := range [][]byte{made(t), made(t, made(t)), made(t, []byte("abc"), made(t)), make([]byte, 300), summed(nil)} {
		b := made(t, load)
		for n := range b {
			checkNone(t, "a first part", b[:n], api.ErrShort)
		}
	}
}

// turned is b, with those bits turned that pattern has, its lowest at the bit so far from b's first one; bits side by side: byte by byte, of each the lowest first.
func turned(b []byte, at int, pattern uint32) []byte {
	out := slices.Clone(b)
	for i := range 32 {
		if pattern>>i&1 == 1 {
			out[(at+i)/8] ^= 1 << ((at + i) % 8)
		}
	}
	return out
}

// patterns are some bits within 32 side by side, the lowest always.
func patterns() []uint32 {
	l := []uint32{1, 3, 5, 0x81, 0xFF, 0x101, 0x1FF, 0xFFFF, 0x10001, 0x800001, 0xFFFFFF, 0x80000001, 0xC0000003, 0xDB710641, 0x04C11DB7, 0xFFFFFFFF}
	for i := range 32 {
		l = append(l, 1<<i|1, ^uint32(0)>>i)
	}
	return l
}

// checkTurned checks that the frame of size bytes, with a pattern turned from the load's bit at on, is none.
func checkTurned(t *testing.T, b []byte, size, at int, pattern uint32) {
	t.Helper()
	// Bits past the load's end aren't there to be turned.
	past := max(0, at+32-8*size)
	pattern = pattern << past >> past
	wrong := turned(b, 8*(len(b)-4-size)+at, pattern)
	checkNone(t, "turned", wrong, api.ErrSum)
}

// P4.3: bits of the load that are turned within 32 side by side, at each place.
func TestTurned(t *testing.T) {
	for _, size := range []int{1, 2, 3, 4, 5, 8, 13, 32, 127, 128} {
		for _, load := range [][]byte{mixed(size, uint32(size)), make([]byte, size)} {
			b := made(t, load)
			for at := range 8 * size {
				for _, pattern := range patterns() {
					checkTurned(t, b, size, at, pattern)
				}
			}
		}
	}
}

// P4.3: bits that are turned at the first byte, at the last one, and about the middle of long loads.
func TestTurnedLong(t *testing.T) {
	for _, size := range []int{1000, 16383, 16384, api.MaxLoad} {
		b := made(t, mixed(size, uint32(size)))
		for _, at := range []int{0, 1, 7, 8, 8*(size/2) - 3, 8*size - 33, 8*size - 32, 8*size - 31, 8*size - 8, 8*size - 1} {
			for _, pattern := range []uint32{1, 3, 0x101, 0x80000001, 0xDB710641, 0xFFFFFFFF} {
				checkTurned(t, b, size, at, pattern)
			}
		}
	}
}

// P4.3: all that can be turned in a load of up to two bytes; with bytes behind the frame it is ErrSum too.
func TestTurnedAll(t *testing.T) {
	for _, load := range [][]byte{{0}, {255}, {'a'}, {0, 0}, {255, 255}, {'a', 'b'}} {
		b := made(t, load)
		for x := 1; x < 1<<(8*len(load)); x++ {
			wrong := slices.Clone(b)
			for i := range load {
				wrong[1+i] ^= byte(x >> (8 * i))
			}
			checkNone(t, "turned", wrong, api.ErrSum)
			checkNone(t, "turned, and bytes behind", append(wrong, 7, 7), api.ErrSum)
		}
	}
}

// Rule 5: what is handed in stays, and so does what stands behind it in its array.
func TestKeeps(t *testing.T) {
	array := []byte("abcdefghijklmnopqrstuvwxyz")
	was := slices.Clone(array)
	made(t, array[:3], array[5:6], array[:0], array[9:20])
	made(t, array[:3])
	if !bytes.Equal(array, was) {
		t.Errorf("parts became %q, were %q", array, was)
	}
	parts := make([][]byte, 2, 4)
	parts[0], parts[1] = array[:3], array[4:6]
	made(t, parts...)
	if behind := parts[:4]; behind[2] != nil || behind[3] != nil {
		t.Errorf("behind the parts stand %q", behind[2:])
	}
	b := append(made(t, []byte("abc")), 7, 7)
	was = slices.Clone(b)
	Next(b)
	Open(b)
	Open(b[:8])
	if !bytes.Equal(b, was) {
		t.Errorf("bytes became %v, were %v", b, was)
	}
}

// Rule 5: what is answered is memory of its own.
func TestKeepsApart(t *testing.T) {
	load := []byte("abc")
	b := made(t, load)
	was := slices.Clone(b)
	load[0] ^= 1
	if !bytes.Equal(b, was) {
		t.Errorf("the frame became %v, was %v", b, was)
	}
	one, _, _ := Next(b)
	two, _ := Open(b)
	one[0] ^= 1
	_ = append(one, 1, 2, 3, 4)
	if !bytes.Equal(b, was) || string(two) != "abc" {
		t.Errorf("the frame became %v, was %v; the other load %q", b, was, two)
	}
	b[1] ^= 1
	if string(two) != "abc" {
		t.Errorf("the load became %q", two)
	}
	empty, other := made(t), made(t)
	empty[0] = 9
	if other[0] != 0 || made(t)[0] != 0 {
		t.Error("two frames of the empty load share their bytes")
	}
}
