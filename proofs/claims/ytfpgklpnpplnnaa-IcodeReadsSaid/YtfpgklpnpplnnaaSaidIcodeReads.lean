/-
  Proved: for every input the law IcodeReads returns true, and each argument reads behind the call as it read before. Conditions: none.
-/
import Derived.Test.YtfpgklpnpplnnaaMg10
namespace Go.Proofs.Ytfpgklpnpplnnaa
open Go.ChangeShapes Go.WideShapes Go.ChangeAt Go.RowKit

set_option maxRecDepth 100000 in
theorem icodeReads_told {H : Type} {enc : TypeId × Value → H} {W : World} {base : Nat} {args : Array Value} {ds : List (DataW H)} (h : Told enc Try.f5 W base args ds) :
    ∃ (A_b : Option Addr) (c_b : Nat) (b : List UInt8), args = #[.slice A_b b.length c_b] ∧ RdB W W.heap.size A_b c_b b := by
  have hval := h.fits
  obtain ⟨p, hA⟩ := h.reads
  clear h
  rw [Try.params5] at hA hval
  obtain ⟨v0, vs0, d0, ds0, p0, q0, hargs, rfl, rfl, h0, r0⟩ := trodAll_cons hA
  obtain ⟨rfl, rfl, rfl⟩ := trodAll_nil r0
  obtain rfl : args = #[v0] := by cases args; simp_all
  obtain ⟨A_b, c_b, b, rfl, b_rd⟩ := in_bytes Try.underlying29 Try.underlying5 (by kernel_rfl) (hval 0 29 v0 rfl rfl) h0
  exact ⟨A_b, c_b, b, rfl, b_rd⟩
theorem icodeReads_answers : Answers Rows.icodeReadsSpec 1 := ⟨rfl, fun H ds h => by match ds, h with | [_], _ => rfl⟩
set_option maxRecDepth 100000 in
theorem icodeReads_lifted (os : Os) (started : os.Started) (H : Type) (enc : TypeId × Value → H) :
    ReturnsInHanded {} Try.checked os 5 .any (Rows.icodeReadsSpec.pre6 enc Try.prog Try.f5 Rows.icodeReadsRow.domain false) (Rows.icodeReadsSpec.post enc Try.prog Try.f5 false true false false) := by
  refine returnsInHanded_of_change_sized (C := Try.checked) own started (by kernel_rfl) Try.func5
    (ChangeSpec.witness6 (enc := enc) (C := Try.checked) false ⟨#[], #[.slice none 0 0], []⟩ 8 (by kernel_rfl) (by kernel_rfl) (by kernel_rfl) (by kernel_rfl)) ?_
  intro W base args ds gs before hval hW _ hsz _
  refine law_contract 5 Try.f5 Rows.icodeReadsSpec icodeReads_answers rfl (by kernel_rfl) base args ds gs before hval hW hsz fun ht => ?_
  obtain ⟨A_b, c_b, b, rfl, b_rd⟩ := icodeReads_told ht
  exact icodeReads_walk k_citem k_csize k_cread k_creads A_b c_b _ b rfl _ b_rd
theorem icodeReads_holds : Rows.IcodeReadsSaid :=
  OpenClaim.holds_of_wide 5 Try.f5 rfl rfl rfl rfl rfl rfl rfl ⟨rfl, rfl, rfl, rfl, rfl⟩ rfl rfl rfl rfl rfl (by kernel_rfl) Try.func5 (by kernel_rfl)
    (of_decide_eq_true (by kernel_rfl)) (by unfold Func.isWrapper; first | (rw [if_pos (by decide +kernel)]; kernel_rfl) | (rw [if_neg (by decide +kernel)]; exact ⟨rfl, rfl⟩))
    (fun os started H enc _ => icodeReads_lifted os started H enc)

end Go.Proofs.Ytfpgklpnpplnnaa
