/-
  Proved: for every input the law KcodeSets returns true, and each argument reads behind the call as it read before. Conditions: none.
-/
import Derived.Test.YtfklochgciijkaaMg14
namespace Go.Proofs.Ytfklochgciijkaa
open Go.ChangeShapes Go.WideShapes Go.ChangeAt Go.RowKit

set_option maxRecDepth 100000 in
theorem kcodeSets_told {H : Type} {enc : TypeId × Value → H} {W : World} {base : Nat} {args : Array Value} {ds : List (DataW H)} (h : Told enc Try.f3 W base args ds) :
    ∃ (A_s : Option Addr) (c_s : Nat) (s : List Kn), args = #[.slice A_s s.length c_s] ∧ RdK W W.heap.size A_s c_s s := by
  have hval := h.fits
  obtain ⟨p, hA⟩ := h.reads
  clear h
  rw [Try.params3] at hA hval
  obtain ⟨v0, vs0, d0, ds0, p0, q0, hargs, rfl, rfl, h0, r0⟩ := trodAll_cons hA
  obtain ⟨rfl, rfl, rfl⟩ := trodAll_nil r0
  obtain rfl : args = #[v0] := by cases args; simp_all
  obtain ⟨A_s, c_s, s, rfl, s_rd⟩ := in_kns (hval 0 22 v0 rfl rfl) h0
  exact ⟨A_s, c_s, s, rfl, s_rd⟩
theorem kcodeSets_answers : Answers Rows.kcodeSetsSpec 1 := ⟨rfl, fun H ds h => by match ds, h with | [_], _ => rfl⟩
set_option maxRecDepth 100000 in
theorem kcodeSets_lifted (os : Os) (started : os.Started) (H : Type) (enc : TypeId × Value → H) :
    ReturnsInHanded {} Try.checked os 3 .any (Rows.kcodeSetsSpec.pre6 enc Try.prog Try.f3 Rows.kcodeSetsRow.domain false) (Rows.kcodeSetsSpec.post enc Try.prog Try.f3 false true false false) := by
  refine returnsInHanded_of_change_sized (C := Try.checked) own started (by kernel_rfl) Try.func3
    (ChangeSpec.witness6 (enc := enc) (C := Try.checked) false ⟨#[], #[.slice none 0 0], []⟩ 8 (by kernel_rfl) (by kernel_rfl) (by kernel_rfl) (by kernel_rfl)) ?_
  intro W base args ds gs before hval hW _ hsz _
  refine law_contract 3 Try.f3 Rows.kcodeSetsSpec kcodeSets_answers rfl (by kernel_rfl) base args ds gs before hval hW hsz fun ht => ?_
  obtain ⟨A_s, c_s, s, rfl, s_rd⟩ := kcodeSets_told ht
  exact kcodeSets_walk k_kset k_kknow k_kreads A_s c_s _ s rfl _ s_rd
theorem kcodeSets_holds : Rows.KcodeSetsSaid :=
  OpenClaim.holds_of_wide 3 Try.f3 rfl rfl rfl rfl rfl rfl rfl ⟨rfl, rfl, rfl, rfl, rfl⟩ rfl rfl rfl rfl rfl (by kernel_rfl) Try.func3 (by kernel_rfl)
    (of_decide_eq_true (by kernel_rfl)) (by unfold Func.isWrapper; first | (rw [if_pos (by decide +kernel)]; kernel_rfl) | (rw [if_neg (by decide +kernel)]; exact ⟨rfl, rfl⟩))
    (fun os started H enc _ => kcodeSets_lifted os started H enc)

end Go.Proofs.Ytfklochgciijkaa
