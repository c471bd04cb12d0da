package sample

import (
	"slices"

	"winnower/api"
)

// SetCode is what is asked of two calls that put and read sets.
func SetCode(name string, put func(s []api.Known) ([]byte, api.Errno), read func(b []byte) ([]api.Known, api.Errno)) Code[api.Known] {
	return Code[api.Known]{
		Name: name, Put: put, Read: read, Most: 16, Right: setFits, All: setBytes, Next: nextSet,
		Same: EqualSets, Spoil: Spoil, Lay: laySet,
	}
}

// setFits is whether a set has bytes.
func setFits(s []api.Known) bool {
	return RightSet(s) && !slices.ContainsFunc(s, func(k api.Known) bool { return len(k.Runs) > 4096 })
}

// setBytes are the bytes of a set, right or not.
func setBytes(s []api.Known) []byte {
	return ListBytes(s, knownBytes)
}

// knownBytes are the bytes of a replica's counts, right or not; of a number below 0 there are none.
func knownBytes(k api.Known) []byte {
	b := slices.Concat(NumberBytes(k.Replica), NumberBytes(len(k.Runs)))
	end := 0
	for _, r := range k.Runs {
		b = append(append(b, NumberBytes(r.From-end)...), NumberBytes(r.To-r.From)...)
		end = r.To
	}
	return b
}

// nextSet is the set that is read next.
func nextSet(w *Words) []api.Known {
	return Several(w, 16, nextKnown)
}

// nextKnown is the Known that is read next.
func nextKnown(w *Words) api.Known {
	replica, end := w.Number(1, 16), 0
	return Known(replica, Several(w, 4096, func(w *Words) api.Run {
		from := end + w.Number(0, 1<<48)
		end = from + w.Number(0, 1<<48)
		return Run(from, end)
	})...)
}

// laySet copies a set to where all its lists have room.
func laySet(s []api.Known) ([]api.Known, func() bool) {
	l, kept := layPieces([]api.Piece{Piece(From(""), s...)})
	return l[0].Set, kept
}

// PieceCode is what is asked of two calls that put and read knowledge.
func PieceCode(name string, put func(k []api.Piece) ([]byte, api.Errno), read func(b []byte) ([]api.Piece, api.Errno)) Code[api.Piece] {
	return Code[api.Piece]{
		Name: name, Put: put, Read: read, Most: 4096, Right: knowFits, All: knowBytes, Next: nextKnow,
		Same: EqualPieces, Spoil: SpoilPieces, Lay: layPieces,
	}
}

// knowFits is whether knowledge of no more pieces than may be has bytes.
func knowFits(k []api.Piece) bool {
	return RightPieces(k) && !slices.ContainsFunc(k, func(p api.Piece) bool { return !setFits(p.Set) })
}

// knowBytes are the bytes of knowledge, right or not.
func knowBytes(k []api.Piece) []byte {
	return ListBytes(k, pieceBytes)
}

// pieceBytes are the bytes of a piece, right or not.
func pieceBytes(p api.Piece) []byte {
	return append(RangeBytes(p.Range), setBytes(p.Set)...)
}

// nextKnow is the knowledge that is read next.
func nextKnow(w *Words) []api.Piece {
	return Several(w, 4096, nextPiece)
}

// nextPiece is the piece that is read next.
func nextPiece(w *Words) api.Piece {
	r := w.Range()
	return Piece(r, nextSet(w)...)
}

// layPieces copies knowledge to where all its lists have room.
func layPieces(k []api.Piece) ([]api.Piece, func() bool) {
	p, kept := LaidPieces(k), LaidPieces(k)
	return p.List, func() bool { return p.Same(kept) }
}
