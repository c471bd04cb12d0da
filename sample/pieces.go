package sample

import (
	"slices"

	"winnower/api"
)

// Piece is a range with a set.
func Piece(r api.Range, s ...api.Known) api.Piece {
	return api.Piece{Range: r, Set: s}
}

// Idle are pieces that have nothing, each for another reason.
func Idle() []api.Piece {
	l := []api.Piece{{}, Piece(From("")), Piece(To("a", "b")), {Range: From(""), Set: []api.Known{}}}
	for _, r := range Wrong() {
		l = append(l, Piece(r), Piece(r, One(1, 1)), Piece(r, Known(2, Run(1, lastCount)), One(16, 7)))
	}
	for _, k := range Nothing() {
		l = append(l, Piece(From(""), k), Piece(To("a", "c"), k, k))
	}
	return append(l, Piece(From(""), Nothing()...), Piece(api.Range{Lo: "a", Hi: "b", Open: true}, Nothing()...))
}

// DrawnPieces is knowledge by some texts and numbers, right or not, that hangs on a draw: its pieces have few sets between them.
func DrawnPieces(roll func(int) int, edges []string, numbers []int) []api.Piece {
	sets := [][]api.Known{DrawnSet(roll, numbers), OwnSet(DrawnSet(roll, numbers)), {One(1, 1)}, nil}
	var k []api.Piece
	for range roll(7) {
		k = append(k, Piece(DrawnRange(roll, edges), CloneSet(sets[roll(len(sets))])...))
	}
	return k
}

// EqualPieces is whether two lists of pieces are the same, in all their parts.
func EqualPieces(a, b []api.Piece) bool {
	return slices.EqualFunc(a, b, func(a, b api.Piece) bool { return a.Range == b.Range && EqualSets(a.Set, b.Set) })
}

// ClonePieces is a list of pieces that shares nothing with another one.
func ClonePieces(k []api.Piece) []api.Piece {
	var out []api.Piece
	for _, p := range k {
		out = append(out, Piece(p.Range, CloneSet(p.Set)...))
	}
	return out
}

// RightPieces is what the chapter of knowledge says that right knowledge is.
func RightPieces(k []api.Piece) bool {
	for i, p := range k {
		if !RightRange(p.Range) || len(p.Set) == 0 || !RightSet(p.Set) {
			return false
		}
		if i == 0 {
			continue
		}
		ahead := k[i-1]
		if ahead.Range.Open || ahead.Range.Hi > p.Range.Lo || ahead.Range.Hi == p.Range.Lo && EqualSets(ahead.Set, p.Set) {
			return false
		}
	}
	return true
}

// Place is a list of pieces, which lie in a longer one; their Known and their runs lie in two longer lists more.
type Place struct {
	List   []api.Piece
	Runs   []api.Run
	pieces []api.Piece
	known  []api.Known
}

// LaidPieces is a place with a copy of a list: behind all lists there is room, and something in it.
func LaidPieces(k []api.Piece) Place {
	var all []api.Known
	for _, p := range k {
		all = append(all, p.Set...)
	}
	all, runs := Roomy(all)
	var sets [][]api.Known
	at := 0
	for _, p := range k {
		sets = append(sets, all[at:at+len(p.Set)])
		at += len(p.Set)
	}
	rows, known := Laid(sets, One(8, 8))
	var pieces []api.Piece
	for i, p := range k {
		pieces = append(pieces, Piece(p.Range, rows[i]...))
	}
	l, pieces := Laid([][]api.Piece{pieces}, Piece(To("over", "written"), One(8, 8)))
	return Place{l[0], runs, pieces, known}
}

// Same is whether two places are the same, behind all lists too.
func (p Place) Same(q Place) bool {
	return EqualPieces(p.pieces, q.pieces) && EqualSets(p.known, q.known) && slices.Equal(p.Runs, q.Runs)
}

// SpoilPieces writes over all of a list of pieces, and over what stands behind its lists.
func SpoilPieces(k []api.Piece) {
	for i, p := range k {
		Spoil(p.Set)
		k[i].Range = To("spoilt", "z")
	}
	_ = append(k, Piece(From("spoilt"), One(9, 9)))
}
