/-
  Words for bytes in pieces: a row of slices of bytes that is read.
-/
import Derived.Test.YtonghhnodpjkfaaMore
namespace Go.Proofs.Ytonghhnodpjkfaa
open Go.RowKit

/-- Bytes in pieces: each a slice. -/
abbrev Piece := Option Addr × Nat × List UInt8
abbrev pieceV (p : Piece) : Value := .slice p.1 p.2.2.length p.2.1
abbrev pieces (l : List Piece) : List Value := l.map pieceV
def allP (l : List Piece) : List UInt8 := l.flatMap fun p => p.2.2
theorem allP_snoc (l : List Piece) (p : Piece) : allP (l ++ [p]) = allP l ++ p.2.2 := by simp [allP]
theorem take_snoc_piece (l : List Piece) (k : Nat) (h : k < l.length) : l.take (k + 1) = l.take k ++ [l.getD k (none, 0, [])] := by
  rw [List.take_succ_eq_append_getElem h]; simp [List.getD, List.getElem?_eq_getElem h]
theorem pieces_get {l : List Piece} {k : Nat} (h : k < l.length) : (pieces l)[k]? = some (pieceV (l.getD k (none, 0, []))) := by
  simp [pieces, List.getD, List.getElem?_eq_getElem h]
theorem RowAt.pieces_at {w : World} {B : Nat} {A : Option Addr} {l : List Piece} (h : RowAt w B A (pieces l)) (hp : 0 < l.length) :
    ∃ b o, A = some ⟨b, o, none⟩ ∧ b < B ∧ ∀ k, k < l.length → w.cell? ⟨b, o + k, none⟩ = some (pieceV (l.getD k (none, 0, []))) := by
  rcases h with h | ⟨b, o, h1, h2, h3⟩
  · have : l = [] := by simpa [pieces] using h
    subst this; simp at hp
  · exact ⟨b, o, h1, h2, fun k hk => h3 k _ (pieces_get hk)⟩
theorem getD_mem {l : List Piece} {k : Nat} (h : k < l.length) : l.getD k (none, 0, []) ∈ l := by
  simp [List.getD, List.getElem?_eq_getElem h]
/-- Pieces that read. -/
structure RdP (w : World) (B B2 : Nat) (A : Option Addr) (l : List Piece) : Prop where
  row : RowAt w B A (pieces l)
  each : ∀ p ∈ l, RdB w B2 p.1 p.2.1 p.2.2
theorem RdP.below {w w' : World} {B : Nat} {A : Option Addr} {l : List Piece} (h : RdP w B B A l) (hb : Below B w w') : RdP w' B B A l := ⟨h.row.below hb, fun p hp => (h.each p hp).below hb⟩
end Go.Proofs.Ytonghhnodpjkfaa
