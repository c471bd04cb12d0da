/-
  Lists of ranges, and of texts, as values of the program.
-/
import Derived.Test.YtgoenmgkhdibnaaRng
import Derived.Test.YtgoenmgkhdibnaaKind
import Derived.Test.YtgoenmgkhdibnaaRgsPure
namespace Go.Proofs.Ytgoenmgkhdibnaa
open Go.RowKit

/-- A range's cells. -/
def rngCells (r : Rng) : List Value := [.string (str r.lo), .string (str r.hi), .bool r.op]
noncomputable def kRng : Kind Try.prog Rng where
  ty := 22
  el := 35
  size := 3
  bytes := 40
  zero := .agg #[.string ⟨#[]⟩, .string ⟨#[]⟩, .bool false]
  cells := rngCells
  len := fun _ => rfl
  one := fun r u hu => by simp [rngCells] at hu; rcases hu with rfl | rfl | rfl <;> rfl
  pos := by decide
  under := Try.underlying22
  info := by kernel_rfl
  zsize := rfl
noncomputable def kStr : Kind Try.prog (List UInt8) where
  ty := 43
  el := 9
  size := 1
  bytes := 16
  zero := .string ⟨#[]⟩
  cells := fun s => [.string (str s)]
  len := fun _ => rfl
  one := fun s u hu => by simp at hu; subst hu; rfl
  pos := by decide
  under := Try.underlying43
  info := by kernel_rfl
  zsize := rfl
/-- The cells of range k of a list. -/
theorem rngs_at {w : World} {B : Nat} {A : Option Addr} {c : Nat} {l : List Rng} (h : kRng.Rd w B A c l) (hp : 0 < l.length) :
    ∃ b o, A = some ⟨b, o, none⟩ ∧ b < B ∧ ∀ k r, l[k]? = some r → w.cell? ⟨b, o + k * 3, none⟩ = some (.string (str r.lo)) ∧ w.cell? ⟨b, o + k * 3 + 1, none⟩ = some (.string (str r.hi)) ∧ w.cell? ⟨b, o + k * 3 + 2, none⟩ = some (.bool r.op) := by
  obtain ⟨b, o, h1, h2, h3⟩ := h.at_ hp
  exact ⟨b, o, h1, h2, fun k r hr => ⟨h3 k r hr 0 _ rfl, h3 k r hr 1 _ rfl, h3 k r hr 2 _ rfl⟩⟩
theorem texts_at {w : World} {B : Nat} {A : Option Addr} {c : Nat} {l : List (List UInt8)} (h : kStr.Rd w B A c l) (hp : 0 < l.length) :
    ∃ b o, A = some ⟨b, o, none⟩ ∧ b < B ∧ ∀ k s, l[k]? = some s → w.cell? ⟨b, o + k, none⟩ = some (.string (str s)) := by
  obtain ⟨b, o, h1, h2, h3⟩ := h.at_ hp
  refine ⟨b, o, h1, h2, fun k s hs => ?_⟩
  have := h3 k s hs 0 _ rfl
  rwa [show o + (k * kStr.size + 0) = o + k by show o + (k * 1 + 0) = o + k; omega] at this
theorem get_some {α : Type} {l : List α} {k : Nat} (h : k < l.length) : ∃ x, l[k]? = some x ∧ l.drop k = x :: l.drop (k + 1) ∧ x ∈ l := ⟨l[k], List.getElem?_eq_getElem h, List.drop_eq_getElem_cons h, List.getElem_mem h⟩
end Go.Proofs.Ytgoenmgkhdibnaa
