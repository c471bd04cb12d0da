/-
  The laws of layer 6: KeyNext.
-/
import Derived.Test.YtgoenmgkhdibnaaLaw06A
namespace Go.Proofs.Ytgoenmgkhdibnaa
open Go.RowKit

/-- What an end's two results are. -/
theorem endO (a : List UInt8) : ∃ (x : List UInt8) (v : Bool), (endV a = some x ∧ v = true) ∨ (endV a = none ∧ x = [] ∧ v = false) := by
  cases h : endV a with
  | some x => exact ⟨x, true, .inl ⟨rfl, rfl⟩⟩
  | none => exact ⟨[], false, .inr ⟨rfl, rfl, rfl⟩⟩
theorem endO_len {a x : List UInt8} {v : Bool} (h : (endV a = some x ∧ v = true) ∨ (endV a = none ∧ x = [] ∧ v = false)) : x.length ≤ a.length := by
  rcases h with ⟨h, _⟩ | ⟨_, rfl, _⟩
  · exact (endV_len h).2
  · simp
theorem end_betweenO {a x : List UInt8} {v : Bool} (h : (endV a = some x ∧ v = true) ∨ (endV a = none ∧ x = [] ∧ v = false)) (t : List UInt8) : a.isPrefixOf t = (!ltB t a && (!v || ltB t x)) := by
  rw [← end_between a t]
  rcases h with ⟨h, rfl⟩ | ⟨h, rfl, rfl⟩ <;> rw [h] <;> simp [aheadO]
theorem next_noneB {s t : List UInt8} {v : Bool} (h : ltB s t = v) : v = true → ltB t (s ++ [0]) = false := fun e => next_none (h.trans e)

end Go.Proofs.Ytgoenmgkhdibnaa
