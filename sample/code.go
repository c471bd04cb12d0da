package sample

import (
	"bytes"
	"slices"

	"winnower/api"
)

// Tester is what a check tells of: a *testing.T.
type Tester interface {
	Helper()
	Fatalf(format string, args ...any)
}

// Code is what is asked of two calls, of which one puts lists as bytes, and the other one reads them.
type Code[T any] struct {
	// Name is the name of the one that puts.
	Name string
	Put  func(l []T) ([]byte, api.Errno)
	Read func(b []byte) ([]T, api.Errno)
	// Most is how many things a list may have, and Right whether one of no more may be put, as the words say.
	Most  int
	Right func(l []T) bool
	// All are the bytes of a list, right or not, and Next reads one, right or not, as the words say.
	All  func(l []T) []byte
	Next func(w *Words) []T
	// Same is whether two lists are the same, in all their parts.
	Same func(a, b []T) bool
	// Lay copies a list to where its lists have room with something in it, and answers what tells whether all there is as it was.
	Lay func(l []T) ([]T, func() bool)
	// Spoil writes over all of a list, and over what stands behind its lists.
	Spoil func(l []T)
}

// head is the beginning of a list, which is told of one that may be long.
func head[T any](l []T) []T {
	return l[:min(len(l), 60)]
}

// spoilBytes writes over bytes, and over what stands behind them.
func spoilBytes(b []byte) {
	for i := range b {
		b[i] ^= 255
	}
	_ = append(b, 1, 2, 3)
}

// byWords is what is read, and what is told, as the words say it.
func (c Code[T]) byWords(b []byte) ([]T, api.Errno) {
	w := &Words{left: b}
	l := c.Next(w)
	switch {
	case w.e != api.OK:
		return nil, w.e
	case len(w.left) > 0:
		return nil, api.ErrLong
	case !c.Right(l) || !bytes.Equal(c.All(l), b):
		return nil, api.ErrForm
	}
	return l, api.OK
}

// CheckPut is that a list is put as some bytes.
func (c Code[T]) CheckPut(t Tester, l []T, want []byte) {
	t.Helper()
	if b, e := c.Put(l); e != api.OK || !bytes.Equal(b, want) {
		t.Fatalf("%s(%#v), of %d, = %v, of %d, and %d, want %v, of %d, and OK", c.Name, head(l), len(l), head(b), len(b), e, head(want), len(want))
	}
}

// CheckUnput is that a list isn't put.
func (c Code[T]) CheckUnput(t Tester, l []T) {
	t.Helper()
	if b, e := c.Put(l); e != api.ErrArg || len(b) != 0 {
		t.Fatalf("%s(%#v), of %d, = %v, of %d, and %d, want none, and ErrArg", c.Name, head(l), len(l), head(b), len(b), e)
	}
}

// CheckRead is that bytes are read as a list.
func (c Code[T]) CheckRead(t Tester, b []byte, want []T) {
	t.Helper()
	if l, e := c.Read(b); e != api.OK || !c.Same(l, want) {
		t.Fatalf("Read%s(%v), of %d, = %#v, of %d, and %d, want %#v, of %d, and OK", c.Name, head(b), len(b), head(l), len(l), e, head(want), len(want))
	}
}

// CheckError is that bytes aren't read, and what is told.
func (c Code[T]) CheckError(t Tester, b []byte, want api.Errno) {
	t.Helper()
	if l, e := c.Read(b); e != want || len(l) != 0 {
		t.Fatalf("Read%s(%v), of %d, = %#v, of %d, and %d, want none, and %d", c.Name, head(b), len(b), head(l), len(l), e, want)
	}
}

// CheckBytes holds what is read of some bytes against the words; if it is a list, that it was put just so.
func (c Code[T]) CheckBytes(t Tester, b []byte) {
	t.Helper()
	l, e := c.byWords(b)
	if e != api.OK {
		c.CheckError(t, b, e)
		return
	}
	c.CheckRead(t, b, l)
	c.CheckPut(t, l, b)
}

// CheckList holds what is put of a list, right or not, against the words, and what is read of its bytes, whole and with one behind them.
func (c Code[T]) CheckList(t Tester, l []T) {
	t.Helper()
	b := c.All(l)
	if len(l) <= c.Most && c.Right(l) {
		c.CheckPut(t, l, b)
		c.CheckRead(t, b, l)
		c.CheckError(t, append(b, 0), api.ErrLong)
		return
	}
	c.CheckUnput(t, l)
	c.CheckBytes(t, b)
	c.CheckBytes(t, append(b, 0))
}

// CheckBoth is that a list is put as some bytes, and they are read as it, and in no other way: neither cut off at any place, nor with bytes behind them.
func (c Code[T]) CheckBoth(t Tester, l []T, b []byte) {
	t.Helper()
	c.CheckPut(t, l, b)
	c.CheckRead(t, b, l)
	c.CheckEnds(t, b, api.OK)
}

// CheckEnds is what is told of bytes that are read to their end, of such that are cut off at any place, and of such with bytes behind them.
func (c Code[T]) CheckEnds(t Tester, b []byte, whole api.Errno) {
	t.Helper()
	if whole != api.OK {
		c.CheckError(t, b, whole)
	}
	for n := range len(b) {
		c.CheckError(t, b[:n], api.ErrShort)
	}
	for x := range 256 {
		c.CheckError(t, append(slices.Clone(b), byte(x)), api.ErrLong)
	}
	c.CheckError(t, slices.Concat(b, b), api.ErrLong)
	c.CheckError(t, slices.Concat(b, bytes.Repeat([]byte{128}, 1000)), api.ErrLong)
}

// CheckChanged holds what is read of bytes against the words, of which each one is each other one, is gone, has any one ahead, or is told in two.
func (c Code[T]) CheckChanged(t Tester, b []byte) {
	t.Helper()
	for i := range b {
		for x := range 256 {
			other := slices.Clone(b)
			other[i] = byte(x)
			c.CheckBytes(t, other)
			c.CheckBytes(t, slices.Insert(slices.Clone(b), i, byte(x)))
		}
		c.CheckBytes(t, slices.Delete(slices.Clone(b), i, i+1))
		c.CheckBytes(t, Longer(b, i))
	}
}

// CheckDrawn holds a right list that is drawn, and what comes of its bytes by one change and by two, against the words.
func (c Code[T]) CheckDrawn(t Tester, roll func(n int) int, l []T) {
	t.Helper()
	b := c.All(l)
	c.CheckPut(t, l, b)
	c.CheckRead(t, b, l)
	for range 20 {
		once := SpoiltBytes(roll, b)
		c.CheckBytes(t, once)
		c.CheckBytes(t, SpoiltBytes(roll, once))
	}
}

// CheckUnlike is that no two of some lists are put as the same bytes, and that enough of them are put.
func (c Code[T]) CheckUnlike(t Tester, lists [][]T, least int) {
	t.Helper()
	seen := map[string]int{}
	for i, l := range lists {
		b, e := c.Put(l)
		if e != api.OK {
			continue
		}
		if other, ok := seen[string(b)]; ok {
			t.Fatalf("%#v and %#v are both put as %v", lists[other], l, b)
		}
		seen[string(b)] = i
	}
	if len(seen) < least {
		t.Fatalf("just %d are put, want %d", len(seen), least)
	}
}

// CheckHandedIn is that what is handed in to both calls is as it was, also ahead of its beginning and behind its end, whoever writes into what is answered.
func (c Code[T]) CheckHandedIn(t Tester, l []T, wide []byte) {
	t.Helper()
	laid, kept := c.Lay(l)
	for n := range len(laid) + 1 {
		for m := range n + 1 {
			b, _ := c.Put(laid[m:n])
			spoilBytes(b)
			if !kept() {
				t.Fatalf("%s of those from %d to %d of %#v left %#v", c.Name, m, n, l, laid)
			}
		}
	}
	b := slices.Clone(wide)
	for n := range len(b) + 1 {
		for m := range n + 1 {
			l, _ := c.Read(b[m:n])
			c.Spoil(l)
			if !bytes.Equal(b, wide) {
				t.Fatalf("Read%s of the bytes from %d to %d left %v of %v", c.Name, m, n, b, wide)
			}
		}
	}
}

// CheckNew is that what is answered of a right list is new: who writes into it, or into what was handed in, changes no answer, and none of its parts changes another one.
func (c Code[T]) CheckNew(t Tester, l []T) {
	t.Helper()
	laid, _ := c.Lay(l)
	want := c.All(l)
	b, _ := c.Put(laid)
	again, _ := c.Put(laid)
	spoilBytes(b)
	c.Spoil(laid)
	if !bytes.Equal(again, want) {
		t.Fatalf("%s(%#v) became %v, was %v", c.Name, l, again, want)
	}
	first, _ := c.Read(again)
	second, _ := c.Read(again)
	spoilBytes(again)
	c.Spoil(first)
	if !c.Same(second, l) {
		t.Fatalf("Read%s(%v) became %#v, was %#v", c.Name, want, second, l)
	}
	for i := range second {
		c.Spoil(second[i : i+1 : i+1])
		if !c.Same(second[i+1:], l[i+1:]) {
			t.Fatalf("Read%s(%v) became %#v behind %d, was %#v", c.Name, want, second[i+1:], i, l[i+1:])
		}
	}
}

// LayOne copies a list of things without lists to where it has room, with one of them in it, and answers what tells whether all there is as it was.
func LayOne[T comparable](l []T, between T) ([]T, func() bool) {
	rows, all := Laid([][]T{l}, between)
	kept := slices.Clone(all)
	return rows[0], func() bool { return slices.Equal(all, kept) }
}

// SpoilOne writes over all of a list of things without lists, and over what stands behind it.
func SpoilOne[T any](l []T) {
	var other T
	clear(l)
	_ = append(l, other, other)
}
