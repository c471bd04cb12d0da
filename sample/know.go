package sample

import (
	"slices"

	"winnower/api"
)

// KnownOf are the Known of all pieces that have a text, as the chapter of knowledge says it.
func KnownOf(k []api.Piece, s string) []api.Known {
	var all []api.Known
	for _, p := range k {
		if HasText([]api.Range{p.Range}, s) {
			all = append(all, p.Set...)
		}
	}
	return all
}

// HasKnown is what the chapter of knowledge says that it has.
func HasKnown(k []api.Piece, s string, v api.Version) bool {
	return slices.ContainsFunc(k, func(p api.Piece) bool { return HasText([]api.Range{p.Range}, s) && HasVersion(p.Set, v) })
}

// RangesOf are the ranges of all pieces.
func RangesOf(l ...[]api.Piece) []api.Range {
	var out []api.Range
	for _, p := range slices.Concat(l...) {
		out = append(out, p.Range)
	}
	return out
}

// TextTurns are the texts from which on some ranges may have others than ahead of them, in order, the empty text first.
func TextTurns(l ...[]api.Range) []string {
	out := []string{""}
	for _, r := range slices.Concat(l...) {
		if RightRange(r) {
			out = append(out, r.Lo, r.Hi)
		}
	}
	slices.Sort(out)
	return slices.Compact(out)
}

// PiecesBy is the right list that has of each of some texts, and of all behind it up to the next one, a right set.
func PiecesBy(texts []string, at func(s string) []api.Known) []api.Piece {
	var sets [][]api.Known
	for _, s := range texts {
		sets = append(sets, at(s))
	}
	var k []api.Piece
	for i, s := range texts {
		if len(sets[i]) == 0 || i > 0 && EqualSets(sets[i-1], sets[i]) {
			continue
		}
		r := From(s)
		if n := slices.IndexFunc(sets[i:], func(other []api.Known) bool { return !EqualSets(other, sets[i]) }); n > 0 {
			r = To(s, texts[i+n])
		}
		k = append(k, Piece(r, sets[i]...))
	}
	return k
}

// OwnPieces is the right list of what knowledge has.
func OwnPieces(k []api.Piece) []api.Piece {
	return PiecesBy(TextTurns(RangesOf(k)), func(s string) []api.Known { return OwnSet(KnownOf(k, s)) })
}

// LessPieces is the right list of what a has, and b hasn't.
func LessPieces(a, b []api.Piece) []api.Piece {
	return PiecesBy(TextTurns(RangesOf(a, b)), func(s string) []api.Known {
		return SetOf(KnownOf(a, s), KnownOf(b, s), func(a, b bool) bool { return a && !b })
	})
}
