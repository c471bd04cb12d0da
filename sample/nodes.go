package sample

import (
	"math"
	"slices"

	"winnower/api"
)

// Begins is a node that has the texts that begin with p.
func Begins(p string) api.Node {
	return api.Node{Op: api.FPrefix, Lo: p}
}

// Between is a node that has the texts from lo on, ahead of hi.
func Between(lo, hi string) api.Node {
	return api.Node{Op: api.FRange, Lo: lo, Hi: hi}
}

// Behind is a node that has all texts from lo on.
func Behind(lo string) api.Node {
	return api.Node{Op: api.FFrom, Lo: lo}
}

// Turned is a node that has what its kid hasn't.
func Turned() api.Node {
	return api.Node{Op: api.FNot, Kids: 1}
}

// Each is a node that has what each of its kids has.
func Each(kids int) api.Node {
	return api.Node{Op: api.FAnd, Kids: kids}
}

// Some is a node that has what some of its kids have.
func Some(kids int) api.Node {
	return api.Node{Op: api.FOr, Kids: kids}
}

// WrongNodes are nodes that no right filter has, wherever they stand.
func WrongNodes() []api.Node {
	return slices.Concat(wrongEdges(), wrongOps(), wrongKids(), wrongTexts())
}

// wrongEdges are nodes without kids, whose texts are too long, or not in order, or that have a Hi that isn't named.
func wrongEdges() []api.Node {
	l := []api.Node{
		Begins(Long("k", 17)), Begins(Long("\xff", 17)), Begins(Long("k", 18)), Begins(Long("k", 1000)),
		{Op: api.FPrefix, Lo: "a", Hi: "b"}, {Op: api.FPrefix, Hi: "a"}, {Op: api.FPrefix, Hi: "\x00"},
		Behind(Long("k", 18)), Behind(Long("\xff", 18)), Behind(Long("k", 1000)),
		{Op: api.FFrom, Lo: "a", Hi: "b"}, {Op: api.FFrom, Hi: "a"}, {Op: api.FFrom, Lo: "b", Hi: "a"}, {Op: api.FFrom, Lo: "a", Hi: "a"},
	}
	for _, r := range Wrong() {
		if !r.Open {
			l = append(l, Between(r.Lo, r.Hi))
		}
	}
	return l
}

// wrongOps are nodes of no kind that there is.
func wrongOps() []api.Node {
	var l []api.Node
	for _, op := range []int{math.MinInt, -8, -1, 0, 9, 10, 255, 256, 257, 263, 1 << 32, 1<<32 + 1, 1<<32 + 7, math.MaxInt} {
		l = append(l, api.Node{Op: op}, api.Node{Op: op, Kids: 1}, api.Node{Op: op, Kids: 2}, api.Node{Op: op, Lo: "a"}, api.Node{Op: op, Lo: "a", Hi: "b"})
	}
	return l
}

// wrongKids are nodes of fewer or more kids than their kind may have.
func wrongKids() []api.Node {
	var l []api.Node
	for _, n := range []api.Node{{Op: api.FAll}, {Op: api.FNone}, Begins("a"), Begins(""), Between("a", "b"), Behind("a"), Behind("")} {
		for _, kids := range []int{math.MinInt, math.MinInt + 1, -2, -1, 1, 2, 31, 32, 33, 256, 1 << 32, math.MaxInt} {
			n.Kids = kids
			l = append(l, n)
		}
	}
	for _, kids := range []int{math.MinInt, math.MinInt + 1, -32, -2, -1, 0, 33, 256, 257, 1 << 32, 1<<32 + 1, 1<<32 + 2, math.MaxInt - 1, math.MaxInt} {
		l = append(l, api.Node{Op: api.FNot, Kids: kids}, Each(kids), Some(kids))
	}
	for _, kids := range []int{2, 3, 31, 32} {
		l = append(l, api.Node{Op: api.FNot, Kids: kids})
	}
	return l
}

// wrongTexts are nodes that have texts, though their kind names none.
func wrongTexts() []api.Node {
	var l []api.Node
	for _, n := range []api.Node{{Op: api.FAll}, {Op: api.FNone}, Turned(), Each(1), Each(2), Some(1), Some(2)} {
		for _, s := range []string{"a", "\x00", "\xff", " ", Long("k", 17), Long("k", 18)} {
			l = append(l, api.Node{Op: n.Op, Kids: n.Kids, Lo: s}, api.Node{Op: n.Op, Kids: n.Kids, Hi: s}, api.Node{Op: n.Op, Kids: n.Kids, Lo: s, Hi: s + "b"})
		}
	}
	return l
}

// Edges are texts for which drawn filters ask, in order: all are edges, and those of at most MaxKey bytes are begun with too.
func Edges() []string {
	return []string{"", "\x00", "\x00\x00", "a", "a\x00", "ab", "a\xff", "b", "b\x00", "c", Long("k", 16), Long("k", 17), "\x7f", "\x80", "\xff", "\xff\xff", Long("\xff", 16), Long("\xff", 17)}
}

// leaf is a right node without kids, that is drawn.
func leaf(roll func(n int) int) api.Node {
	l := Edges()
	i, j := roll(len(l)), roll(len(l))
	lo, hi := l[min(i, j)], l[max(i, j)]
	switch kind := roll(8); {
	case kind == 0:
		return api.Node{Op: api.FAll}
	case kind == 1:
		return api.Node{Op: api.FNone}
	case kind <= 3 && len(lo) <= api.MaxKey:
		return Begins(lo)
	case kind <= 5 && lo < hi:
		return Between(lo, hi)
	}
	return Behind(lo)
}

// Grown is a right filter of so many nodes, that is drawn.
func Grown(roll func(n int) int, size int) []api.Node {
	if size == 1 {
		return []api.Node{leaf(roll)}
	}
	if roll(4) == 0 {
		return append(Grown(roll, size-1), Turned())
	}
	var l []api.Node
	kids := 0
	for left := size - 1; left > 0; kids++ {
		n := 1 + roll(left)
		l, left = append(l, Grown(roll, n)...), left-n
	}
	return append(l, []api.Node{Each(kids), Some(kids)}[roll(2)])
}

// Spoilt is a filter of some nodes, changed in one place that is drawn.
func Spoilt(roll func(n int) int, l []api.Node) []api.Node {
	l = slices.Clone(l)
	i, s := roll(len(l)), Edges()[roll(len(Edges()))]
	switch roll(8) {
	case 0:
		l[i].Op = roll(11)
	case 1:
		l[i].Kids += roll(5) - 2
	case 2:
		l[i].Kids = []int{math.MinInt, -1, 32, 33, math.MaxInt}[roll(5)]
	case 3:
		l[i].Lo = s
	case 4:
		l[i].Hi = s
	case 5:
		l = slices.Delete(l, i, i+1)
	case 6:
		l = slices.Insert(l, i, leaf(roll))
	case 7:
		j := roll(len(l))
		l[i], l[j] = l[j], l[i]
	}
	return l
}
