package sample

import (
	"slices"

	"winnower/api"
)

// NumberBytes are a number's bytes, as the chapter of numbers has them; of one below 0 none.
func NumberBytes(n int) []byte {
	switch {
	case n < 0:
		return nil
	case n < 128:
		return []byte{byte(n)}
	}
	return append([]byte{byte(n%128 + 128)}, NumberBytes(n/128)...)
}

// TextBytes are a text's bytes.
func TextBytes(s string) []byte {
	return append(NumberBytes(len(s)), s...)
}

// RangeBytes are the bytes of a range, right or not: of Lo, whether it is Open, and, if it isn't, of Hi.
func RangeBytes(r api.Range) []byte {
	if r.Open {
		return append(TextBytes(r.Lo), 1)
	}
	return slices.Concat(TextBytes(r.Lo), []byte{0}, TextBytes(r.Hi))
}

// ListBytes are the bytes of a list: how many things there are, and of each.
func ListBytes[T any](l []T, bytesOf func(x T) []byte) []byte {
	b := NumberBytes(len(l))
	for _, x := range l {
		b = append(b, bytesOf(x)...)
	}
	return b
}

// Made are bytes, made of numbers and texts: numbers as bytes of one each, a text as its bytes alone, bytes as they are.
func Made(parts ...any) []byte {
	var b []byte
	for _, part := range parts {
		switch x := part.(type) {
		case int:
			b = append(b, byte(x))
		case string:
			b = append(b, x...)
		case []byte:
			b = append(b, x...)
		}
	}
	return b
}

// Longer are bytes of which the one at a place is told in two, as if more of a number followed behind it.
func Longer(b []byte, i int) []byte {
	b = slices.Clone(b)
	b[i] |= 128
	return slices.Insert(b, i+1, 0)
}

// SpoiltBytes are some bytes, changed in one place that is drawn.
func SpoiltBytes(roll func(n int) int, b []byte) []byte {
	b = slices.Clone(b)
	if len(b) == 0 {
		return []byte{byte(roll(256))}
	}
	i := roll(len(b))
	switch roll(8) {
	case 0:
		b[i] = byte(roll(256))
	case 1:
		b[i] ^= 1 << roll(8)
	case 2:
		b[i]++
	case 3:
		b[i]--
	case 4:
		b = slices.Delete(b, i, i+1)
	case 5:
		b = slices.Insert(b, i, byte(roll(256)))
	case 6:
		b = Longer(b, i)
	case 7:
		b = b[:i]
	}
	return b
}

// Words reads bytes from the left, as the words of the chapter of numbers have it, and keeps the first error.
type Words struct {
	left []byte
	e    api.Errno
}

// Number reads a number from lo to hi.
func (w *Words) Number(lo, hi int) int {
	if w.e != api.OK {
		return 0
	}
	n := 0
	w.e = api.ErrShort
	for i, x := range w.left {
		n += int(x%128) << (7 * i)
		if x < 128 || i == 7 {
			w.e = api.OK
			if x >= 128 || i > 0 && x == 0 || n < lo || n > hi {
				w.e = api.ErrForm
				return 0
			}
			w.left = w.left[i+1:]
			return n
		}
	}
	return 0
}

// Edge reads a text of at most MaxEdge bytes.
func (w *Words) Edge() string {
	return w.Text(17)
}

// Text reads a text of at most so many bytes.
func (w *Words) Text(most int) string {
	n := w.Number(0, most)
	if w.e == api.OK && n > len(w.left) {
		w.e = api.ErrShort
	}
	if w.e != api.OK {
		return ""
	}
	s := string(w.left[:n])
	w.left = w.left[n:]
	return s
}

// Range reads a range.
func (w *Words) Range() api.Range {
	lo := w.Edge()
	if w.Number(0, 1) == 1 {
		return From(lo)
	}
	return To(lo, w.Edge())
}

// Several reads how many things there are, at most so many, and each as next reads it.
func Several[T any](w *Words, most int, next func(w *Words) T) []T {
	var l []T
	for n := w.Number(0, most); len(l) < n && w.e == api.OK; {
		l = append(l, next(w))
	}
	return l
}
