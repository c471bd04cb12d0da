/-
  Layer 7 (span): the ranges of one text, and of those that begin with one.
-/
import Derived.Test.YtgoenmgkhdibnaaSpanB
namespace Go.Proofs.Ytgoenmgkhdibnaa
open Go.RowKit

/-- What the range of a prefix is, in terms of the prefix's end. -/
theorem prefixR_end {p : List UInt8} (h : p.length ≤ 16) {x : List UInt8} {v : Bool} (hv : (endV p = some x ∧ v = true) ∨ (endV p = none ∧ x = [] ∧ v = false)) : prefixR p = ⟨p, x, !v⟩ := by
  rcases hv with ⟨h1, rfl⟩ | ⟨h1, rfl, rfl⟩
  · rw [prefixR_some h h1]; rfl
  · rw [prefixR_none h h1]; rfl
end Go.Proofs.Ytgoenmgkhdibnaa
