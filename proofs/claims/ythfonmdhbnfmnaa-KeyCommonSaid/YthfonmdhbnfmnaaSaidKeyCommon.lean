/-
  Proved: for every input the law KeyCommon returns true, and each argument reads behind the call as it read before. Conditions: none.
-/
import Derived.Test.YthfonmdhbnfmnaaFrame
import Derived.Test.YthfonmdhbnfmnaaOpen
import Derived.Test.YthfonmdhbnfmnaaLaw06C
namespace Go.Proofs.Ythfonmdhbnfmnaa
open Go.ChangeShapes Go.WideShapes Go.ChangeAt Go.RowKit

theorem keyCommon_told {H : Type} {enc : TypeId × Value → H} {W : World} {base : Nat} {args : Array Value} {ds : List (DataW H)} (h : Told enc Try.f5 W base args ds) :
    ∃ (A_l : Option Addr) (c_l : Nat) (l : List (List UInt8)), args = #[.slice A_l l.length c_l] ∧ RowAt W W.heap.size A_l (strs l) ∧ (∀ y ∈ l, y.length ≤ maxLen) ∧ l.length ≤ c_l ∧ c_l ≤ maxLen := by
  obtain ⟨hval, ⟨p, hA⟩, -⟩ := h
  rw [Try.params5] at hA hval
  obtain ⟨v0, vs0, d0, ds0, p0, q0, hargs, rfl, rfl, h0, r0⟩ := trodAll_cons hA
  obtain ⟨rfl, rfl, rfl⟩ := trodAll_nil r0
  obtain rfl : args = #[v0] := by cases args; simp_all
  obtain ⟨A_l, c_l, l, rfl, l_row, l_all, l_cap, l_max⟩ := in_strs Try.underlying29 Try.underlying9 (by kernel_rfl) (hval 0 29 v0 rfl rfl) h0
  exact ⟨A_l, c_l, l, rfl, l_row, l_all, l_cap, l_max⟩
theorem keyCommon_answers : Answers Rows.keyCommonSpec 1 := ⟨rfl, fun H ds h => by match ds, h with | [_], _ => rfl⟩
set_option maxRecDepth 100000 in
theorem keyCommon_lifted (os : Os) (started : os.Started) (H : Type) (enc : TypeId × Value → H) :
    ReturnsInHanded {} Try.checked os 5 .any (Rows.keyCommonSpec.pre6 enc Try.prog Try.f5 Rows.keyCommonRow.domain false) (Rows.keyCommonSpec.post enc Try.prog Try.f5 false true false false) := by
  refine returnsInHanded_of_change_sized (C := Try.checked) own started (by kernel_rfl) Try.func5
    (ChangeSpec.witness6 (enc := enc) (C := Try.checked) false ⟨#[], #[.slice none 0 0], []⟩ 8 (by kernel_rfl) (by kernel_rfl) (by kernel_rfl) (by kernel_rfl)) ?_
  intro W base args ds gs before hval hW _ hsz _
  refine law_contract 5 Try.f5 Rows.keyCommonSpec keyCommon_answers rfl (by kernel_rfl) base args ds gs before hval hW hsz fun ht => ?_
  obtain ⟨A_l, c_l, l, rfl, l_row, l_all, l_cap, l_max⟩ := keyCommon_told ht
  exact keyCommon_walk A_l c_l _ l rfl l_cap l_max l_all _ l_row
theorem keyCommon_holds : Rows.KeyCommonSaid :=
  OpenClaim.holds_of_wide 5 Try.f5 rfl rfl rfl rfl rfl rfl rfl ⟨rfl, rfl, rfl, rfl, rfl⟩ rfl rfl rfl rfl rfl (by kernel_rfl) Try.func5 (by kernel_rfl)
    (of_decide_eq_true (by kernel_rfl)) (by unfold Func.isWrapper; first | (rw [if_pos (by decide +kernel)]; kernel_rfl) | (rw [if_neg (by decide +kernel)]; exact ⟨rfl, rfl⟩))
    (fun os started H enc _ => keyCommon_lifted os started H enc)

end Go.Proofs.Ythfonmdhbnfmnaa
