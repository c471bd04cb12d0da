/-
  Proved: for every input the law KnowSets returns true, and each argument reads behind the call as it read before. Conditions: none.
-/
import Derived.Test.YtaodifpnfejbbaaGreatMg15
namespace Go.Proofs.YtaodifpnfejbbaaGreat
open Go.ChangeShapes Go.WideShapes Go.ChangeAt Go.RowKit

set_option maxRecDepth 100000 in
theorem knowSets_told {H : Type} {enc : TypeId × Value → H} {W : World} {base : Nat} {args : Array Value} {ds : List (DataW H)} (h : Told enc Tryz.f5 W base args ds) :
    ∃ (A_a : Option Addr) (c_a : Nat) (a : List Pc) (A_b : Option Addr) (c_b : Nat) (b : List Pc) (A_l : Option Addr) (c_l : Nat) (l : List Rng), args = #[.slice A_a a.length c_a, .slice A_b b.length c_b, .slice A_l l.length c_l] ∧ RdPc W A_a c_a a ∧ RdPc W A_b c_b b ∧ kRng.Rd W W.heap.size A_l c_l l := by
  have hval := h.fits
  obtain ⟨p, hA⟩ := h.reads
  clear h
  rw [Tryz.params5] at hA hval
  obtain ⟨v0, vs0, d0, ds0, p0, q0, hargs, rfl, rfl, h0, r0⟩ := trodAll_cons hA
  obtain ⟨v1, vs1, d1, ds1, p1, q1, rfl, rfl, rfl, h1, r1⟩ := trodAll_cons r0
  obtain ⟨v2, vs2, d2, ds2, p2, q2, rfl, rfl, rfl, h2, r2⟩ := trodAll_cons r1
  obtain ⟨rfl, rfl, rfl⟩ := trodAll_nil r2
  obtain rfl : args = #[v0, v1, v2] := by cases args; simp_all
  obtain ⟨A_a, c_a, a, rfl, a_rd⟩ := in_pcs (hval 0 22 v0 rfl rfl) h0
  obtain ⟨A_b, c_b, b, rfl, b_rd⟩ := in_pcs (hval 1 22 v1 rfl rfl) h1
  obtain ⟨A_l, c_l, l, rfl, l_rd⟩ := in_rngs (hval 2 36 v2 rfl rfl) h2
  exact ⟨A_a, c_a, a, A_b, c_b, b, A_l, c_l, l, rfl, a_rd, b_rd, l_rd⟩
theorem knowSets_answers : Answers Rows.knowSetsSpec 3 := ⟨rfl, fun H ds h => by match ds, h with | [_, _, _], _ => rfl⟩
set_option maxRecDepth 100000 in
theorem knowSets_lifted (os : Os) (started : os.Started) (H : Type) (enc : TypeId × Value → H) :
    ReturnsInHanded {} Tryz.checked os 5 .any (Rows.knowSetsSpec.pre6 enc Tryz.prog Tryz.f5 Rows.knowSetsRow.domain false) (Rows.knowSetsSpec.post enc Tryz.prog Tryz.f5 false true false false) := by
  refine returnsInHanded_of_change_sized (C := Tryz.checked) own started (by kernel_rfl) Tryz.func5
    (ChangeSpec.witness6 (enc := enc) (C := Tryz.checked) false ⟨#[], #[.slice none 0 0, .slice none 0 0, .slice none 0 0], []⟩ 8 (by kernel_rfl) (by kernel_rfl) (by kernel_rfl) (by kernel_rfl)) ?_
  intro W base args ds gs before hval hW _ hsz _
  refine law_contract 5 Tryz.f5 Rows.knowSetsSpec knowSets_answers rfl (by kernel_rfl) base args ds gs before hval hW hsz fun ht => ?_
  obtain ⟨A_a, c_a, a, A_b, c_b, b, A_l, c_l, l, rfl, a_rd, b_rd, l_rd⟩ := knowSets_told ht
  exact knowSets_walk k_kall k_kadd k_khas k_kright k_kjoin k_kless k_krest A_a A_b A_l c_a c_b c_l _ _ _ a b l rfl rfl rfl _ a_rd b_rd l_rd
theorem knowSets_holds : Rows.KnowSetsSaid :=
  OpenClaim.holds_of_wide 5 Tryz.f5 rfl rfl rfl rfl rfl rfl rfl ⟨rfl, rfl, rfl, rfl, rfl⟩ rfl rfl rfl rfl rfl (by kernel_rfl) Tryz.func5 (by kernel_rfl)
    (of_decide_eq_true (by kernel_rfl)) (by unfold Func.isWrapper; first | (rw [if_pos (by decide +kernel)]; kernel_rfl) | (rw [if_neg (by decide +kernel)]; exact ⟨rfl, rfl⟩))
    (fun os started H enc _ => knowSets_lifted os started H enc)

end Go.Proofs.YtaodifpnfejbbaaGreat
