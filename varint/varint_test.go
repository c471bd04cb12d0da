package varint

import (
	"bytes"
	"math"
	"math/big"
	"slices"
	"strings"
	"testing"

	"winnower/api"
)

// times is n times the same byte.
func times(n int, b byte) []byte { return bytes.Repeat([]byte{b}, n) }

// errnos are all of api's errors.
var errnos = []api.Errno{
	api.ErrNil, api.ErrArg, api.ErrLimit, api.ErrShort, api.ErrForm, api.ErrSize, api.ErrSum, api.ErrLong,
	api.ErrKind, api.ErrOver, api.ErrFilter, api.ErrNone, api.ErrItems, api.ErrCount, api.ErrFull,
	api.ErrState, api.ErrDown, api.ErrSession, api.ErrStale,
}

// P2.1: Put.
func TestPut(t *testing.T) {
	for _, c := range []struct {
		b    []byte
		l    []int
		want []byte
	}{
		{nil, nil, nil},
		{[]byte{}, []int{}, nil},
		{[]byte{7, 8}, nil, []byte{7, 8}},
		{nil, []int{300}, []byte{172, 2}},
		{nil, []int{0}, []byte{0}},
		{nil, []int{1}, []byte{1}},
		{nil, []int{127}, []byte{127}},
		{nil, []int{128}, []byte{128, 1}},
		{nil, []int{129}, []byte{129, 1}},
		{nil, []int{16383}, []byte{255, 127}},
		{nil, []int{16384}, []byte{128, 128, 1}},
		{nil, []int{api.MaxNumber - 1}, []byte{255, 255, 255, 255, 255, 255, 63}},
		{nil, []int{api.MaxNumber}, []byte{128, 128, 128, 128, 128, 128, 64}},
		{[]byte{9}, []int{0, 300, 5}, []byte{9, 0, 172, 2, 5}},
		{[]byte{128}, []int{0, 0}, []byte{128, 0, 0}},
	} {
		got, e := Put(c.b, c.l...)
		if !bytes.Equal(got, c.want) || e != api.OK {
			t.Errorf("Put(%v, %v) = %v, %d, want %v, OK", c.b, c.l, got, e, c.want)
		}
	}
}

// P2.1: Put of a number that isn't from 0 to MaxNumber, wherever it stands.
func TestPutWrong(t *testing.T) {
	for _, n := range []int{-1, -2, -128, math.MinInt, math.MinInt + 1, api.MaxNumber + 1, 2 * api.MaxNumber, math.MaxInt - 1, math.MaxInt} {
		for _, l := range [][]int{{n}, {n, 1}, {1, n}, {1, n, 2}, {0, api.MaxNumber, n}, {n, n}} {
			if got, e := Put([]byte{7}, l...); len(got) != 0 || e != api.ErrArg {
				t.Errorf("Put({7}, %v) = %v, %d, want none, ErrArg", l, got, e)
			}
		}
	}
}

// P2.1: Text.
func TestText(t *testing.T) {
	long := strings.Repeat("x", 300)
	for _, c := range []struct {
		b    []byte
		l    []string
		want []byte
	}{
		{nil, nil, nil},
		{[]byte{}, []string{}, nil},
		{[]byte{7, 8}, nil, []byte{7, 8}},
		{nil, []string{"ab"}, []byte{2, 97, 98}},
		{nil, []string{""}, []byte{0}},
		{nil, []string{"", ""}, []byte{0, 0}},
		{[]byte{7}, []string{"ab", "", "c"}, []byte{7, 2, 97, 98, 0, 1, 99}},
		{nil, []string{"\x00\xff\xc3"}, []byte{3, 0, 255, 195}},
		{nil, []string{"é"}, []byte{2, 0xc3, 0xa9}},
		{nil, []string{long[:127]}, append([]byte{127}, long[:127]...)},
		{nil, []string{long[:128]}, append([]byte{128, 1}, long[:128]...)},
		{nil, []string{long}, append([]byte{172, 2}, long...)},
	} {
		if got := Text(c.b, c.l...); !bytes.Equal(got, c.want) {
			t.Errorf("Text(%v, %q) = %v, want %v", c.b, c.l, got, c.want)
		}
	}
}

// P2.1 and rule 5: what is handed in stays as it is, and so does what stands behind it in its array.
func TestPutKeepsApart(t *testing.T) {
	all := []byte{1, 2, 3, 4, 5, 6, 7, 8}
	was := slices.Clone(all)
	first, _ := Put(all[:2], 300, 9)
	second := Text(all[:2], "xyz")
	third, _ := Put(first, 5)
	fourth := Text(first, "q")
	if !bytes.Equal(all, was) {
		t.Errorf("array became %v, was %v", all, was)
	}
	for _, c := range []struct{ got, want []byte }{
		{first, []byte{1, 2, 172, 2, 9}},
		{second, []byte{1, 2, 3, 'x', 'y', 'z'}},
		{third, []byte{1, 2, 172, 2, 9, 5}},
		{fourth, []byte{1, 2, 172, 2, 9, 1, 'q'}},
	} {
		if !bytes.Equal(c.got, c.want) {
			t.Errorf("got %v, want %v", c.got, c.want)
		}
	}
	none, _ := Put(all[:2])
	texts := Text(all[:2])
	none[0], texts[0] = 99, 99
	if !bytes.Equal(all, was) {
		t.Errorf("array became %v, was %v", all, was)
	}
	l := []int{3, 1, 2}
	Put(nil, l...)
	if !slices.Equal(l, []int{3, 1, 2}) {
		t.Errorf("numbers became %v", l)
	}
}

// checkNumber checks Number on a reader of b, and what is left and kept behind it.
func checkNumber(t *testing.T, b []byte, n, size int, e api.Errno) {
	t.Helper()
	r := New(b)
	if got := r.Number(); got != n || r.Err() != e || r.Left() != len(b)-size {
		t.Errorf("of %v: Number() = %d, Err %d, Left %d, want %d, %d, %d", b, got, r.Err(), r.Left(), n, e, len(b)-size)
	}
}

// P2.2: Number.
func TestNumber(t *testing.T) {
	for _, c := range []struct {
		b       []byte
		n, size int
	}{
		{[]byte{172, 2}, 300, 2},
		{[]byte{0}, 0, 1},
		{[]byte{0, 0}, 0, 1},
		{[]byte{127}, 127, 1},
		{[]byte{127, 200}, 127, 1},
		{[]byte{128, 1}, 128, 2},
		{[]byte{255, 127, 3}, 16383, 2},
		{[]byte{128, 128, 1}, 16384, 3},
		{[]byte{255, 255, 255, 255, 255, 255, 63}, api.MaxNumber - 1, 7},
		{[]byte{128, 128, 128, 128, 128, 128, 64}, api.MaxNumber, 7},
		{[]byte{128, 128, 128, 128, 128, 128, 64, 128}, api.MaxNumber, 7},
	} {
		checkNumber(t, c.b, c.n, c.size, api.OK)
	}
}

// P2.2: Number, and its errors.
func TestNumberWrong(t *testing.T) {
	for _, c := range []struct {
		name string
		b    []byte
		e    api.Errno
	}{
		{"none", nil, api.ErrShort},
		{"empty", []byte{}, api.ErrShort},
		{"ends early", []byte{128}, api.ErrShort},
		{"ends early, of two", []byte{255, 255}, api.ErrShort},
		{"seven of 128", times(7, 128), api.ErrShort},
		{"seven of 255", times(7, 255), api.ErrShort},
		{"eight of 128", times(8, 128), api.ErrForm},
		{"eight of 255", times(8, 255), api.ErrForm},
		{"nine of 128", times(9, 128), api.ErrForm},
		{"eight of 128, and a last one", append(times(8, 128), 1), api.ErrForm},
		{"twenty of 255", times(20, 255), api.ErrForm},
		{"0 in two", []byte{128, 0}, api.ErrForm},
		{"1 in two", []byte{129, 0}, api.ErrForm},
		{"128 in three", []byte{128, 129, 0}, api.ErrForm},
		{"MaxNumber in eight", []byte{128, 128, 128, 128, 128, 128, 192, 0}, api.ErrForm},
		{"0 in eight", append(times(7, 128), 0), api.ErrForm},
		{"one above MaxNumber", []byte{129, 128, 128, 128, 128, 128, 64}, api.ErrForm},
		{"MaxNumber and 2^42", []byte{128, 128, 128, 128, 128, 128, 65}, api.ErrForm},
		{"all of seven", append(times(6, 255), 127), api.ErrForm},
		{"2^49 in eight", append(times(7, 128), 1), api.ErrForm},
		{"all of eight", append(times(7, 255), 127), api.ErrForm},
	} {
		t.Run(c.name, func(t *testing.T) {
			checkNumber(t, c.b, 0, 0, c.e)
		})
	}
}

// numberByWords is what the chapter says Number is, word by word: the number, its bytes, and the error.
func numberByWords(b []byte) (int, int, api.Errno) {
	high := func(x byte) bool { return x >= 128 }
	if len(b) >= 8 && !slices.ContainsFunc(b[:8], func(x byte) bool { return !high(x) }) {
		return 0, 0, api.ErrForm
	}
	last := slices.IndexFunc(b, func(x byte) bool { return !high(x) })
	if last < 0 {
		return 0, 0, api.ErrShort
	}
	n := new(big.Int)
	for i := last; i >= 0; i-- {
		n.Mul(n, big.NewInt(128))
		n.Add(n, big.NewInt(int64(b[i]%128)))
	}
	takes := max(1, (n.BitLen()+6)/7)
	if last+1 > takes || n.Cmp(big.NewInt(api.MaxNumber)) > 0 {
		return 0, 0, api.ErrForm
	}
	return int(n.Int64()), last + 1, api.OK
}

// eachOf goes through all lists of so many bytes out of some.
func eachOf(n int, some []byte, f func([]byte)) {
	b := make([]byte, n)
	var fill func(int)
	fill = func(i int) {
		if i == n {
			f(b)
			return
		}
		for _, x := range some {
			b[i] = x
			fill(i + 1)
		}
	}
	fill(0)
}

// everyByte are all bytes.
func everyByte() []byte {
	all := make([]byte, 256)
	for i := range all {
		all[i] = byte(i)
	}
	return all
}

// P2.2 and P2.4: Number, of all lists of few bytes, and of long ones at the edges: as the words say, and put just so.
func TestNumberAll(t *testing.T) {
	check := func(b []byte) {
		n, size, e := numberByWords(b)
		r := New(b)
		if got := r.Number(); got != n || r.Err() != e || r.Left() != len(b)-size {
			t.Fatalf("of %v: Number() = %d, Err %d, Left %d, want %d, %d, %d", b, got, r.Err(), r.Left(), n, e, len(b)-size)
		}
		if e != api.OK {
			return
		}
		if again, e := Put(nil, n); e != api.OK || !bytes.Equal(again, b[:size]) {
			t.Fatalf("%v is read as %d, which is put as %v, %d", b[:size], n, again, e)
		}
	}
	for n := range 3 {
		eachOf(n, everyByte(), check)
	}
	for n := 3; n <= 5; n++ {
		eachOf(n, []byte{0, 1, 64, 127, 128, 129, 192, 255}, check)
	}
	for n := 6; n <= 9; n++ {
		eachOf(n, []byte{0, 64, 128, 255}, check)
	}
	for high := 5; high <= 8; high++ {
		for _, fill := range []byte{128, 129, 255} {
			for _, last := range everyByte() {
				check(append(times(high, fill), last))
				check(append(times(high, fill), last, 0))
			}
		}
	}
}

// P2.2: Within.
func TestWithin(t *testing.T) {
	for _, c := range []struct {
		n, lo, hi int
		ok        bool
	}{
		{5, 3, 9, true},
		{3, 3, 9, true},
		{9, 3, 9, true},
		{2, 3, 9, false},
		{10, 3, 9, false},
		{5, 5, 5, true},
		{5, 6, 4, false},
		{5, 6, 5, false},
		{5, 5, 4, false},
		{0, 0, 0, true},
		{0, 1, 9, false},
		{0, -9, -1, false},
		{0, -9, 0, true},
		{api.MaxNumber, 0, api.MaxNumber, true},
		{api.MaxNumber, 0, api.MaxNumber - 1, false},
		{api.MaxNumber, math.MinInt, math.MaxInt, true},
		{0, math.MinInt, math.MaxInt, true},
		{0, math.MinInt, math.MinInt, false},
		{7, math.MaxInt, math.MaxInt, false},
		{7, math.MaxInt, math.MinInt, false},
		{7, math.MaxInt, 7, false},
		{7, 7, math.MinInt, false},
	} {
		b, _ := Put(nil, c.n, 1)
		want, left, e := c.n, 1, api.OK
		if !c.ok {
			want, left, e = 0, len(b), api.ErrForm
		}
		r := New(b)
		if got := r.Within(c.lo, c.hi); got != want || r.Err() != e || r.Left() != left {
			t.Errorf("of %d: Within(%d, %d) = %d, Err %d, Left %d, want %d, %d, %d", c.n, c.lo, c.hi, got, r.Err(), r.Left(), want, e, left)
		}
	}
}

// P2.2: Within tells the number's own error ahead of its own.
func TestWithinNumberWrong(t *testing.T) {
	for _, c := range []struct {
		b []byte
		e api.Errno
	}{
		{nil, api.ErrShort},
		{[]byte{128}, api.ErrShort},
		{[]byte{131, 0}, api.ErrForm},
		{times(8, 128), api.ErrForm},
	} {
		for _, bounds := range [][2]int{{0, 9}, {3, 9}, {9, 3}, {-9, -3}} {
			r := New(c.b)
			if got := r.Within(bounds[0], bounds[1]); got != 0 || r.Err() != c.e || r.Left() != len(c.b) {
				t.Errorf("of %v: Within(%v) = %d, Err %d, Left %d", c.b, bounds, got, r.Err(), r.Left())
			}
		}
	}
}

// P2.2: Bool.
func TestBool(t *testing.T) {
	for _, c := range []struct {
		b    []byte
		want bool
		left int
		e    api.Errno
	}{
		{[]byte{1}, true, 0, api.OK},
		{[]byte{0}, false, 0, api.OK},
		{[]byte{1, 7}, true, 1, api.OK},
		{[]byte{0, 1}, false, 1, api.OK},
		{[]byte{2}, false, 1, api.ErrForm},
		{[]byte{127, 1}, false, 2, api.ErrForm},
		{[]byte{128, 1}, false, 2, api.ErrForm},
		{[]byte{129, 0}, false, 2, api.ErrForm},
		{[]byte{129}, false, 1, api.ErrShort},
		{nil, false, 0, api.ErrShort},
	} {
		r := New(c.b)
		if got := r.Bool(); got != c.want || r.Err() != c.e || r.Left() != c.left {
			t.Errorf("of %v: Bool() = %t, Err %d, Left %d, want %t, %d, %d", c.b, got, r.Err(), r.Left(), c.want, c.e, c.left)
		}
	}
}

// P2.2: Reader.Text.
func TestReaderText(t *testing.T) {
	for _, c := range []struct {
		name string
		b    []byte
		most int
		want string
		left int
		e    api.Errno
	}{
		{"example", []byte{2, 97, 98}, 9, "ab", 0, api.OK},
		{"just its most", []byte{2, 97, 98}, 2, "ab", 0, api.OK},
		{"bytes behind it", []byte{2, 97, 98, 99}, 9, "ab", 1, api.OK},
		{"any bytes", []byte{3, 0, 255, 195}, 3, "\x00\xff\xc3", 0, api.OK},
		{"empty", []byte{0}, 9, "", 0, api.OK},
		{"empty, most 0", []byte{0, 5}, 0, "", 1, api.OK},
		{"any most", []byte{2, 97, 98}, math.MaxInt, "ab", 0, api.OK},
		{"longer than its most", []byte{2, 97, 98}, 1, "", 3, api.ErrForm},
		{"longer than most 0", []byte{1, 97}, 0, "", 2, api.ErrForm},
		{"most below 0", []byte{2, 97, 98}, -1, "", 3, api.ErrForm},
		{"empty, most below 0", []byte{0}, -1, "", 1, api.ErrForm},
		{"most the least int", []byte{0, 97}, math.MinInt, "", 2, api.ErrForm},
		{"longer than what is left", []byte{3, 97, 98}, 9, "", 3, api.ErrShort},
		{"longer than nothing that is left", []byte{1}, 9, "", 1, api.ErrShort},
		{"longer than its most and what is left", []byte{3, 97}, 2, "", 2, api.ErrForm},
		{"MaxNumber bytes", []byte{128, 128, 128, 128, 128, 128, 64, 97}, math.MaxInt, "", 8, api.ErrShort},
		{"above MaxNumber bytes", []byte{129, 128, 128, 128, 128, 128, 64, 97}, math.MaxInt, "", 8, api.ErrForm},
		{"no number", nil, 9, "", 0, api.ErrShort},
		{"no number, most below 0", nil, -1, "", 0, api.ErrShort},
		{"half a number", []byte{130}, 9, "", 1, api.ErrShort},
		{"a number of too many bytes", []byte{130, 0, 97, 98}, 9, "", 4, api.ErrForm},
	} {
		r := New(c.b)
		if got := r.Text(c.most); got != c.want || r.Err() != c.e || r.Left() != c.left {
			t.Errorf("%s: of %v: Text(%d) = %q, Err %d, Left %d, want %q, %d, %d", c.name, c.b, c.most, got, r.Err(), r.Left(), c.want, c.e, c.left)
		}
	}
}

// P2.2: one thing is read behind the other, and Left tells what is left.
func TestReadInOrder(t *testing.T) {
	b, _ := Put(nil, 300, 1, 0, 7)
	b = Text(b, "abc", "")
	b, _ = Put(b, api.MaxNumber)
	r := New(b)
	left := func(want int) {
		t.Helper()
		if got := r.Left(); got != want || r.Err() != api.OK {
			t.Errorf("Left() = %d, Err %d, want %d, OK", got, r.Err(), want)
		}
	}
	left(17)
	if n := r.Number(); n != 300 {
		t.Errorf("Number() = %d", n)
	}
	left(15)
	if !r.Bool() || r.Bool() {
		t.Error("bools")
	}
	left(13)
	if n := r.Within(7, 7); n != 7 {
		t.Errorf("Within(7, 7) = %d", n)
	}
	left(12)
	if s := r.Text(3); s != "abc" {
		t.Errorf("Text(3) = %q", s)
	}
	left(8)
	if s := r.Text(0); s != "" {
		t.Errorf("Text(0) = %q", s)
	}
	left(7)
	if n := r.Number(); n != api.MaxNumber || r.End() != api.OK {
		t.Errorf("Number() = %d, End %d", n, r.End())
	}
	left(0)
}

// checkStuck checks that a reader with an error answers it, and reads nothing.
func checkStuck(t *testing.T, r *Reader, e api.Errno, left int) {
	t.Helper()
	for range 2 {
		if n := r.Number(); n != 0 {
			t.Errorf("Number() = %d, want 0", n)
		}
		if n := r.Within(1, 9); n != 0 {
			t.Errorf("Within(1, 9) = %d, want 0", n)
		}
		if r.Bool() {
			t.Error("Bool() = true")
		}
		if s := r.Text(9); s != "" {
			t.Errorf("Text(9) = %q, want none", s)
		}
		r.Fail(api.OK)
		r.Fail(api.ErrStale)
		if r.Err() != e || r.End() != e || r.Left() != left {
			t.Errorf("Err %d, End %d, Left %d, want %d, %d, %d", r.Err(), r.End(), r.Left(), e, e, left)
		}
	}
}

// P2.2 and P2.3: behind an error, whatever it came with, nothing is read any more, and it is the one that is told.
func TestFirstErrorStays(t *testing.T) {
	for _, c := range []struct {
		name string
		b    []byte
		do   func(r *Reader)
		e    api.Errno
		left int
	}{
		{"Number", []byte{1, 128, 0, 1, 1}, func(r *Reader) { r.Number(); r.Number() }, api.ErrForm, 4},
		{"Number, none left", []byte{1}, func(r *Reader) { r.Number(); r.Number() }, api.ErrShort, 0},
		{"Within", []byte{1, 20, 1, 1}, func(r *Reader) { r.Number(); r.Within(0, 9) }, api.ErrForm, 3},
		{"Bool", []byte{1, 2, 1, 1}, func(r *Reader) { r.Bool(); r.Bool() }, api.ErrForm, 3},
		{"Text, above its most", []byte{1, 2, 1, 1}, func(r *Reader) { r.Number(); r.Text(1) }, api.ErrForm, 3},
		{"Text, above what is left", []byte{1, 3, 1, 1}, func(r *Reader) { r.Number(); r.Text(9) }, api.ErrShort, 3},
		{"Fail", []byte{1, 1, 1, 1}, func(r *Reader) { r.Number(); r.Fail(api.ErrSum) }, api.ErrSum, 3},
		{"Fail at the end", []byte{1}, func(r *Reader) { r.Number(); r.Fail(api.ErrKind) }, api.ErrKind, 0},
	} {
		t.Run(c.name, func(t *testing.T) {
			r := New(c.b)
			c.do(r)
			checkStuck(t, r, c.e, c.left)
		})
	}
}

// P2.3: Fail.
func TestFail(t *testing.T) {
	for _, e := range append(errnos, -1, 99, math.MinInt, math.MaxInt) {
		r := New([]byte{3, 4})
		r.Number()
		r.Fail(api.OK)
		if r.Err() != api.OK || r.Left() != 1 {
			t.Errorf("behind Fail(OK): Err %d, Left %d", r.Err(), r.Left())
		}
		r.Fail(e)
		checkStuck(t, r, e, 1)
	}
	r := New([]byte{128})
	r.Number()
	r.Fail(api.ErrSum)
	if r.Err() != api.ErrShort {
		t.Errorf("Err %d, want ErrShort", r.Err())
	}
}

// P2.3: Err and End.
func TestEnd(t *testing.T) {
	for _, b := range [][]byte{nil, {}} {
		if r := New(b); r.Err() != api.OK || r.End() != api.OK || r.Left() != 0 {
			t.Errorf("of none: Err %d, End %d, Left %d", r.Err(), r.End(), r.Left())
		}
	}
	r := New([]byte{3, 4})
	if r.Err() != api.OK || r.End() != api.ErrLong {
		t.Errorf("two left: Err %d, End %d", r.Err(), r.End())
	}
	// End tells that bytes are left, but it isn't an error that the reader has.
	if r.Err() != api.OK || r.Left() != 2 || r.Number() != 3 {
		t.Errorf("behind End: Err %d, Left %d", r.Err(), r.Left())
	}
	if r.End() != api.ErrLong {
		t.Errorf("one left: End %d", r.End())
	}
	if r.Number() != 4 || r.Err() != api.OK || r.End() != api.OK {
		t.Errorf("none left: Err %d, End %d", r.Err(), r.End())
	}
	r.Fail(api.ErrSum)
	if r.Err() != api.ErrSum || r.End() != api.ErrSum {
		t.Errorf("failed: Err %d, End %d", r.Err(), r.End())
	}
}

// P2.3 and rule 1: a reader that is none.
func TestNone(t *testing.T) {
	var r *Reader
	checkStuck(t, r, api.ErrNil, 0)
	r.Fail(api.ErrSum)
	if n := r.Within(0, 0); n != 0 || r.Text(0) != "" || r.Err() != api.ErrNil || r.End() != api.ErrNil {
		t.Errorf("Within %d, Err %d, End %d", n, r.Err(), r.End())
	}
	if n := r.Within(math.MinInt, math.MaxInt); n != 0 || r.Text(math.MinInt) != "" || r.Text(math.MaxInt) != "" {
		t.Errorf("Within %d", n)
	}
}

// P2.2 and rule 5: a reader doesn't change its bytes, and two of the same bytes don't touch each other.
func TestReadersKeepApart(t *testing.T) {
	b := []byte{2, 97, 98, 5, 128, 0}
	was := slices.Clone(b)
	one, two := New(b), New(b)
	if one.Text(9) != "ab" || one.Number() != 5 || one.Number() != 0 || one.Err() != api.ErrForm {
		t.Errorf("first: Err %d", one.Err())
	}
	if two.Left() != 6 || two.Err() != api.OK || two.Text(9) != "ab" || two.Left() != 3 {
		t.Errorf("second: Err %d, Left %d", two.Err(), two.Left())
	}
	if !bytes.Equal(b, was) {
		t.Errorf("bytes became %v, were %v", b, was)
	}
}

// P2.4: numbers that are put are read.
func TestPutIsRead(t *testing.T) {
	var l []int
	for bit := range 49 {
		for off := -2; off <= 2; off++ {
			if n := 1<<bit + off; n >= 0 && n <= api.MaxNumber {
				l = append(l, n)
			}
		}
	}
	for n := range 40000 {
		l = append(l, n)
	}
	b, e := Put(nil, l...)
	if e != api.OK {
		t.Fatal(e)
	}
	r := New(b)
	for _, n := range l {
		if got := r.Number(); got != n {
			t.Fatalf("Number() = %d, want %d", got, n)
		}
	}
	if r.End() != api.OK {
		t.Errorf("End %d", r.End())
	}
}

// P2.4: texts and bools that are put are read.
func TestTextIsRead(t *testing.T) {
	l := []string{"", "a", "\x00", "\xff\xfe", "é", strings.Repeat("x", 127), strings.Repeat("y", 128), strings.Repeat("z", 20000)}
	r := New(Text(nil, l...))
	for _, s := range l {
		if got := r.Text(len(s)); got != s {
			t.Fatalf("Text(%d) = %.40q, want %.40q", len(s), got, s)
		}
	}
	if r.End() != api.OK {
		t.Errorf("End %d", r.End())
	}
	b, _ := Put(nil, 1, 0, 1)
	r = New(b)
	if !r.Bool() || r.Bool() || !r.Bool() || r.End() != api.OK {
		t.Errorf("bools: End %d", r.End())
	}
}

// P2.4: texts and bools that are read were put just so.
func TestReadWasPut(t *testing.T) {
	check := func(b []byte) {
		r := New(b)
		if s := r.Text(200); r.End() == api.OK && !bytes.Equal(Text(nil, s), b) {
			t.Fatalf("%v is read as %q, which is put as %v", b, s, Text(nil, s))
		}
		r = New(b)
		if is := r.Bool(); r.End() == api.OK && (len(b) != 1 || b[0] > 1 || is != (b[0] == 1)) {
			t.Fatalf("%v is read as %t", b, is)
		}
	}
	for n := range 3 {
		eachOf(n, everyByte(), check)
	}
	for n := 3; n <= 6; n++ {
		eachOf(n, []byte{0, 1, 2, 3, 4, 127, 128}, check)
	}
	check(append([]byte{128, 1}, times(128, 7)...))
	check(append([]byte{200, 1}, times(200, 7)...))
}
