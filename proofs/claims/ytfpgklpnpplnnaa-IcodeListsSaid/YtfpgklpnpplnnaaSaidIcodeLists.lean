/-
  Proved: for every input the law IcodeLists returns true, and each argument reads behind the call as it read before. Conditions: none.
-/
import Derived.Test.YtfpgklpnpplnnaaMg10
namespace Go.Proofs.Ytfpgklpnpplnnaa
open Go.ChangeShapes Go.WideShapes Go.ChangeAt Go.RowKit

set_option maxRecDepth 100000 in
theorem icodeLists_told {H : Type} {enc : TypeId × Value → H} {W : World} {base : Nat} {args : Array Value} {ds : List (DataW H)} (h : Told enc Try.f4 W base args ds) :
    ∃ (A_l : Option Addr) (c_l : Nat) (l : List Itm), args = #[.slice A_l l.length c_l] ∧ kItm.Rd W W.heap.size A_l c_l l := by
  have hval := h.fits
  obtain ⟨p, hA⟩ := h.reads
  clear h
  rw [Try.params4] at hA hval
  obtain ⟨v0, vs0, d0, ds0, p0, q0, hargs, rfl, rfl, h0, r0⟩ := trodAll_cons hA
  obtain ⟨rfl, rfl, rfl⟩ := trodAll_nil r0
  obtain rfl : args = #[v0] := by cases args; simp_all
  obtain ⟨A_l, c_l, l, rfl, l_rd⟩ := in_itms (hval 0 28 v0 rfl rfl) h0
  exact ⟨A_l, c_l, l, rfl, l_rd⟩
theorem icodeLists_answers : Answers Rows.icodeListsSpec 1 := ⟨rfl, fun H ds h => by match ds, h with | [_], _ => rfl⟩
set_option maxRecDepth 100000 in
theorem icodeLists_lifted (os : Os) (started : os.Started) (H : Type) (enc : TypeId × Value → H) :
    ReturnsInHanded {} Try.checked os 4 .any (Rows.icodeListsSpec.pre6 enc Try.prog Try.f4 Rows.icodeListsRow.domain false) (Rows.icodeListsSpec.post enc Try.prog Try.f4 false true false false) := by
  refine returnsInHanded_of_change_sized (C := Try.checked) own started (by kernel_rfl) Try.func4
    (ChangeSpec.witness6 (enc := enc) (C := Try.checked) false ⟨#[], #[.slice none 0 0], []⟩ 8 (by kernel_rfl) (by kernel_rfl) (by kernel_rfl) (by kernel_rfl)) ?_
  intro W base args ds gs before hval hW _ hsz _
  refine law_contract 4 Try.f4 Rows.icodeListsSpec icodeLists_answers rfl (by kernel_rfl) base args ds gs before hval hW hsz fun ht => ?_
  obtain ⟨A_l, c_l, l, rfl, l_rd⟩ := icodeLists_told ht
  exact icodeLists_walk k_citem k_csize k_citems k_creads A_l c_l _ l rfl _ l_rd
theorem icodeLists_holds : Rows.IcodeListsSaid :=
  OpenClaim.holds_of_wide 4 Try.f4 rfl rfl rfl rfl rfl rfl rfl ⟨rfl, rfl, rfl, rfl, rfl⟩ rfl rfl rfl rfl rfl (by kernel_rfl) Try.func4 (by kernel_rfl)
    (of_decide_eq_true (by kernel_rfl)) (by unfold Func.isWrapper; first | (rw [if_pos (by decide +kernel)]; kernel_rfl) | (rw [if_neg (by decide +kernel)]; exact ⟨rfl, rfl⟩))
    (fun os started H enc _ => icodeLists_lifted os started H enc)

end Go.Proofs.Ytfpgklpnpplnnaa
