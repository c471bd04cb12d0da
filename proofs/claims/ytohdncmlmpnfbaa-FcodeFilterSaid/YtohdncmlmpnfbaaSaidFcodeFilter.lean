/-
  Proved: for every input the law FcodeFilter returns true, and each argument reads behind the call as it read before. Conditions: none.
-/
import Derived.Test.YtohdncmlmpnfbaaMg8
namespace Go.Proofs.Ytohdncmlmpnfbaa
open Go.ChangeShapes Go.WideShapes Go.ChangeAt Go.RowKit

set_option maxRecDepth 100000 in
theorem fcodeFilter_told {H : Type} {enc : TypeId × Value → H} {W : World} {base : Nat} {args : Array Value} {ds : List (DataW H)} (h : Told enc Try.f4 W base args ds) :
    ∃ (A_l : Option Addr) (c_l : Nat) (l : List Nd), args = #[.slice A_l l.length c_l] ∧ kNd.Rd W W.heap.size A_l c_l l := by
  have hval := h.fits
  obtain ⟨p, hA⟩ := h.reads
  clear h
  rw [Try.params4] at hA hval
  obtain ⟨v0, vs0, d0, ds0, p0, q0, hargs, rfl, rfl, h0, r0⟩ := trodAll_cons hA
  obtain ⟨rfl, rfl, rfl⟩ := trodAll_nil r0
  obtain rfl : args = #[v0] := by cases args; simp_all
  obtain ⟨A_l, c_l, l, rfl, l_rd⟩ := in_nds (hval 0 35 v0 rfl rfl) h0
  exact ⟨A_l, c_l, l, rfl, l_rd⟩
theorem fcodeFilter_answers : Answers Rows.fcodeFilterSpec 1 := ⟨rfl, fun H ds h => by match ds, h with | [_], _ => rfl⟩
set_option maxRecDepth 100000 in
theorem fcodeFilter_lifted (os : Os) (started : os.Started) (H : Type) (enc : TypeId × Value → H) :
    ReturnsInHanded {} Try.checked os 4 .any (Rows.fcodeFilterSpec.pre6 enc Try.prog Try.f4 Rows.fcodeFilterRow.domain false) (Rows.fcodeFilterSpec.post enc Try.prog Try.f4 false true false false) := by
  refine returnsInHanded_of_change_sized (C := Try.checked) own started (by kernel_rfl) Try.func4
    (ChangeSpec.witness6 (enc := enc) (C := Try.checked) false ⟨#[], #[.slice none 0 0], []⟩ 8 (by kernel_rfl) (by kernel_rfl) (by kernel_rfl) (by kernel_rfl)) ?_
  intro W base args ds gs before hval hW _ hsz _
  refine law_contract 4 Try.f4 Rows.fcodeFilterSpec fcodeFilter_answers rfl (by kernel_rfl) base args ds gs before hval hW hsz fun ht => ?_
  obtain ⟨A_l, c_l, l, rfl, l_rd⟩ := fcodeFilter_told ht
  exact fcodeFilter_walk k_fput k_nput k_nread A_l c_l _ l rfl _ l_rd
theorem fcodeFilter_holds : Rows.FcodeFilterSaid :=
  OpenClaim.holds_of_wide 4 Try.f4 rfl rfl rfl rfl rfl rfl rfl ⟨rfl, rfl, rfl, rfl, rfl⟩ rfl rfl rfl rfl rfl (by kernel_rfl) Try.func4 (by kernel_rfl)
    (of_decide_eq_true (by kernel_rfl)) (by unfold Func.isWrapper; first | (rw [if_pos (by decide +kernel)]; kernel_rfl) | (rw [if_neg (by decide +kernel)]; exact ⟨rfl, rfl⟩))
    (fun os started H enc _ => fcodeFilter_lifted os started H enc)

end Go.Proofs.Ytohdncmlmpnfbaa
