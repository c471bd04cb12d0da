/-
  The laws of layer 6: KeyNext.
-/
import Derived.Test.YtmdalbglekjcjaaLaw06A
namespace Go.Proofs.Ytmdalbglekjcjaa
open Go.RowKit

theorem begins_is (a b : List UInt8) (S T : ByteArray) (hS : str a = S) (hT : str b = T) (v : Bool) (hv : b.isPrefixOf a = v) (w : World) : Calls Try.prog 17 #[.string S, .string T] w fun e w' => e = .returned (.bool v) ∧ w = w' := by
  subst hS hT hv
  exact ref_begins a b w
/-- What an end's two results are. -/
theorem endO (a : List UInt8) : ∃ (x : List UInt8) (v : Bool), (endV a = some x ∧ v = true) ∨ (endV a = none ∧ x = [] ∧ v = false) := by
  cases h : endV a with
  | some x => exact ⟨x, true, .inl ⟨rfl, rfl⟩⟩
  | none => exact ⟨[], false, .inr ⟨rfl, rfl, rfl⟩⟩
theorem endO_len {a x : List UInt8} {v : Bool} (h : (endV a = some x ∧ v = true) ∨ (endV a = none ∧ x = [] ∧ v = false)) : x.length ≤ a.length := by
  rcases h with ⟨h, _⟩ | ⟨_, rfl, _⟩
  · exact (endV_len h).2
  · simp
theorem endO_is (a x : List UInt8) (v : Bool) (S X : ByteArray) (hS : str a = S) (hX : str x = X) (ha : a.length ≤ 1000000) (h : (endV a = some x ∧ v = true) ∨ (endV a = none ∧ x = [] ∧ v = false)) (w : World) :
    Calls Try.prog 21 #[.string S] w fun e w' => e = .returned (.tuple #[.string X, .bool v]) ∧ Below w.heap.size w w' := by
  subst hS hX
  refine (key_end a ha w).mono ?_
  rintro e w' ⟨h', hb⟩
  rcases h with ⟨h, rfl⟩ | ⟨h, rfl, rfl⟩ <;> rcases h' with ⟨y, hy, rfl⟩ | ⟨hy, rfl⟩ <;> rw [h] at hy
  · injection hy with hy; subst hy; exact ⟨rfl, hb⟩
  · cases hy
  · cases hy
  · exact ⟨rfl, hb⟩
theorem rendO_is (a x : List UInt8) (v : Bool) (S X : ByteArray) (hS : str a = S) (hX : str x = X) (ha : a.length ≤ 1000000) (h : (endV a = some x ∧ v = true) ∨ (endV a = none ∧ x = [] ∧ v = false)) (w : World) :
    Calls Try.prog 25 #[.string S] w fun e w' => e = .returned (.tuple #[.string X, .bool v]) ∧ Below w.heap.size w w' := by
  subst hS hX
  refine (ref_end a ha w).mono ?_
  rintro e w' ⟨h', hb⟩
  rcases h with ⟨h, rfl⟩ | ⟨h, rfl, rfl⟩ <;> rcases h' with ⟨y, hy, rfl⟩ | ⟨hy, rfl⟩ <;> rw [h] at hy
  · injection hy with hy; subst hy; exact ⟨rfl, hb⟩
  · cases hy
  · cases hy
  · exact ⟨rfl, hb⟩
theorem end_betweenO {a x : List UInt8} {v : Bool} (h : (endV a = some x ∧ v = true) ∨ (endV a = none ∧ x = [] ∧ v = false)) (t : List UInt8) : a.isPrefixOf t = (!ltB t a && (!v || ltB t x)) := by
  rw [← end_between a t]
  rcases h with ⟨h, rfl⟩ | ⟨h, rfl, rfl⟩ <;> rw [h] <;> simp [aheadO]
theorem next_noneB {s t : List UInt8} {v : Bool} (h : ltB s t = v) : v = true → ltB t (s ++ [0]) = false := fun e => next_none (h.trans e)

end Go.Proofs.Ytmdalbglekjcjaa
