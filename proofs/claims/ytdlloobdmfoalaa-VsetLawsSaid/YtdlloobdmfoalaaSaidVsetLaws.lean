/-
  Proved: for every input the law VsetLaws returns true, and each argument reads behind the call as it read before. Conditions: none.
-/
import Derived.Test.YtdlloobdmfoalaaMg7
namespace Go.Proofs.Ytdlloobdmfoalaa
open Go.ChangeShapes Go.WideShapes Go.ChangeAt Go.RowKit

set_option maxRecDepth 100000 in
theorem vsetLaws_told {H : Type} {enc : TypeId × Value → H} {W : World} {base : Nat} {args : Array Value} {ds : List (DataW H)} (h : Told enc Try.f7 W base args ds) :
    ∃ (A_a : Option Addr) (c_a : Nat) (a : List Kn) (A_b : Option Addr) (c_b : Nat) (b : List Kn), args = #[.slice A_a a.length c_a, .slice A_b b.length c_b] ∧ RdK W W.heap.size A_a c_a a ∧ RdK W W.heap.size A_b c_b b := by
  have hval := h.fits
  obtain ⟨p, hA⟩ := h.reads
  clear h
  rw [Try.params7] at hA hval
  obtain ⟨v0, vs0, d0, ds0, p0, q0, hargs, rfl, rfl, h0, r0⟩ := trodAll_cons hA
  obtain ⟨v1, vs1, d1, ds1, p1, q1, rfl, rfl, rfl, h1, r1⟩ := trodAll_cons r0
  obtain ⟨rfl, rfl, rfl⟩ := trodAll_nil r1
  obtain rfl : args = #[v0, v1] := by cases args; simp_all
  obtain ⟨A_a, c_a, a, rfl, a_rd⟩ := in_kns (hval 0 22 v0 rfl rfl) h0
  obtain ⟨A_b, c_b, b, rfl, b_rd⟩ := in_kns (hval 1 22 v1 rfl rfl) h1
  exact ⟨A_a, c_a, a, A_b, c_b, b, rfl, a_rd, b_rd⟩
theorem vsetLaws_answers : Answers Rows.vsetLawsSpec 2 := ⟨rfl, fun H ds h => by match ds, h with | [_, _], _ => rfl⟩
set_option maxRecDepth 100000 in
theorem vsetLaws_lifted (os : Os) (started : os.Started) (H : Type) (enc : TypeId × Value → H) :
    ReturnsInHanded {} Try.checked os 7 .any (Rows.vsetLawsSpec.pre6 enc Try.prog Try.f7 Rows.vsetLawsRow.domain false) (Rows.vsetLawsSpec.post enc Try.prog Try.f7 false true false false) := by
  refine returnsInHanded_of_change_sized (C := Try.checked) own started (by kernel_rfl) Try.func7
    (ChangeSpec.witness6 (enc := enc) (C := Try.checked) false ⟨#[], #[.slice none 0 0, .slice none 0 0], []⟩ 8 (by kernel_rfl) (by kernel_rfl) (by kernel_rfl) (by kernel_rfl)) ?_
  intro W base args ds gs before hval hW _ hsz _
  refine law_contract 7 Try.f7 Rows.vsetLawsSpec vsetLaws_answers rfl (by kernel_rfl) base args ds gs before hval hW hsz fun ht => ?_
  obtain ⟨A_a, c_a, a, A_b, c_b, b, rfl, a_rd, b_rd⟩ := vsetLaws_told ht
  exact vsetLaws_walk k_sadd k_svec k_smost k_shas k_sunion k_smeet k_sless k_sof k_swithin A_a A_b c_a c_b _ _ a b rfl rfl _ a_rd b_rd
theorem vsetLaws_holds : Rows.VsetLawsSaid :=
  OpenClaim.holds_of_wide 7 Try.f7 rfl rfl rfl rfl rfl rfl rfl ⟨rfl, rfl, rfl, rfl, rfl⟩ rfl rfl rfl rfl rfl (by kernel_rfl) Try.func7 (by kernel_rfl)
    (of_decide_eq_true (by kernel_rfl)) (by unfold Func.isWrapper; first | (rw [if_pos (by decide +kernel)]; kernel_rfl) | (rw [if_neg (by decide +kernel)]; exact ⟨rfl, rfl⟩))
    (fun os started H enc _ => vsetLaws_lifted os started H enc)

end Go.Proofs.Ytdlloobdmfoalaa
