// Package sample has texts, ranges, lists, filters, runs, sets of versions, knowledge, items and bytes that the tests of several layers ask about.
package sample

import (
	"slices"
	"strings"

	"winnower/api"
)

// To is the range of the texts from lo on, ahead of hi.
func To(lo, hi string) api.Range {
	return api.Range{Lo: lo, Hi: hi}
}

// From is the range of all texts from lo on.
func From(lo string) api.Range {
	return api.Range{Lo: lo, Open: true}
}

// Long is a letter, n times.
func Long(letter string, n int) string {
	return strings.Repeat(letter, n)
}

// Wrong are ranges that aren't right, each for another reason.
func Wrong() []api.Range {
	return []api.Range{
		{},
		// A Hi that isn't behind Lo.
		To("a", ""), To("a", "a"), To("b", "a"), To("a\x00", "a"), To("\xff", "\xfe"), To("\x00", ""), To("\x80", "\x7f"),
		To("", ""), To(Long("k", 17), Long("k", 17)), To(Long("k", 17), Long("k", 16)),
		// An Open one, whose Hi isn't empty.
		{Lo: "a", Hi: "b", Open: true}, {Lo: "a", Hi: "a", Open: true}, {Lo: "b", Hi: "a", Open: true},
		{Hi: "a", Open: true}, {Hi: "\x00", Open: true}, {Lo: "a", Hi: "\xff", Open: true}, {Hi: Long("k", 18), Open: true},
		// A Lo that is too long.
		To(Long("a", 18), "b"), To(Long("a", 1000), "b"), To(Long("\x00", 18), "\xff"), From(Long("a", 18)), From(Long("\xff", 18)),
		// A Hi that is too long.
		To("a", Long("b", 18)), To("", Long("\x00", 18)), To("a", Long("\xff", 1000)), To(Long("a", 17), Long("a", 18)),
		// Both.
		To(Long("a", 18), Long("b", 18)), {Lo: Long("a", 18), Hi: Long("b", 18), Open: true},
	}
}

// All are the ranges, right or not, from each of some texts to each, Open and not.
func All(edges []string) []api.Range {
	var l []api.Range
	for _, lo := range edges {
		for _, hi := range edges {
			l = append(l, To(lo, hi), api.Range{Lo: lo, Hi: hi, Open: true})
		}
	}
	return l
}

// RightRange is what the chapter of ranges says that a right one is.
func RightRange(r api.Range) bool {
	if len(r.Lo) > 17 {
		return false
	}
	if r.Open {
		return len(r.Hi) == 0
	}
	return len(r.Hi) <= 17 && r.Lo < r.Hi
}

// HasText is whether a list has a text, as the chapters of ranges say it.
func HasText(l []api.Range, s string) bool {
	return slices.ContainsFunc(l, func(r api.Range) bool {
		return RightRange(r) && !(s < r.Lo) && (r.Open || s < r.Hi)
	})
}

// DrawnRange is a range by some edges, right or not, that hangs on a draw.
func DrawnRange(roll func(int) int, edges []string) api.Range {
	r := To(edges[roll(len(edges))], edges[roll(len(edges))])
	if r.Lo > r.Hi && roll(8) > 0 {
		r.Lo, r.Hi = r.Hi, r.Lo
	}
	switch roll(24) {
	case 0:
		r.Open = true
	case 1:
		r.Hi, r.Open = "", true
	}
	return r
}

// DrawnRanges is a list of ranges by some edges, right or not, that hangs on a draw.
func DrawnRanges(roll func(int) int, edges []string) []api.Range {
	var l []api.Range
	for range roll(9) {
		l = append(l, DrawnRange(roll, edges))
	}
	return l
}

// List is the right list, by edges of some texts in order, that has those of them that are in: no others stand between two of them but alike.
func List(in []bool, texts []string) []api.Range {
	var l []api.Range
	for i, s := range texts {
		switch {
		case in[i] && (i == 0 || !in[i-1]):
			l = append(l, From(s))
		case !in[i] && i > 0 && in[i-1]:
			l[len(l)-1] = To(l[len(l)-1].Lo, s)
		}
	}
	return l
}

// Near are some texts, what stands near them, and what stands far behind, in order.
func Near(texts []string) []string {
	var l []string
	for _, s := range texts {
		l = append(l, s, s+"\x00", s+"a", s+"\xff", s+Long("\xff", 40))
		if s != "" {
			l = append(l, s[:len(s)-1], s[:len(s)-1]+string([]byte{s[len(s)-1] - 1}))
		}
	}
	slices.Sort(l)
	return slices.Compact(l)
}

// Lists are all lists of at most n of some things, each in any order and more than once.
func Lists[T any](some []T, n int) [][]T {
	all := [][]T{nil}
	longest := all
	for range n {
		var more [][]T
		for _, l := range longest {
			for _, x := range some {
				more = append(more, append(slices.Clone(l), x))
			}
		}
		all, longest = append(all, more...), more
	}
	return all
}

// Laid are copies of some lists, which all lie in one list, and that list: behind each one there is room, with something in it, and behind that room the next one.
func Laid[T any](lists [][]T, between T) ([][]T, []T) {
	var all []T
	for _, l := range lists {
		all = append(append(all, l...), between, between)
	}
	var rows [][]T
	at := 0
	for _, l := range lists {
		rows = append(rows, all[at:at+len(l)])
		at += len(l) + 2
	}
	return rows, all
}

// Draw answers numbers from 0 on, below what it is asked for: they hang on a seed alone.
func Draw(seed int) func(n int) int {
	x := uint64(seed)*0x9E3779B97F4A7C15 + 1
	return func(n int) int {
		x = x*6364136223846793005 + 1442695040888963407
		return int(x>>33) % n
	}
}
