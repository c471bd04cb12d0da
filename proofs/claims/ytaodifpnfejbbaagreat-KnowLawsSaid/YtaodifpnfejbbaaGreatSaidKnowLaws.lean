/-
  Proved: for every input the law KnowLaws returns true, and each argument reads behind the call as it read before. Conditions: none.
-/
import Derived.Test.YtaodifpnfejbbaaGreatMg15
namespace Go.Proofs.YtaodifpnfejbbaaGreat
open Go.ChangeShapes Go.WideShapes Go.ChangeAt Go.RowKit

set_option maxRecDepth 100000 in
theorem knowLaws_told {H : Type} {enc : TypeId × Value → H} {W : World} {base : Nat} {args : Array Value} {ds : List (DataW H)} (h : Told enc Tryz.f7 W base args ds) :
    ∃ (A_a : Option Addr) (c_a : Nat) (a : List Pc) (A_b : Option Addr) (c_b : Nat) (b : List Pc) (l_A l_B : Option Addr) (l_c l_d : Nat) (l_l l_k : List Rng), args = #[.slice A_a a.length c_a, .slice A_b b.length c_b, .agg #[.slice l_A l_l.length l_c, .slice l_B l_k.length l_d]] ∧ RdPc W A_a c_a a ∧ RdPc W A_b c_b b ∧ kRng.Rd W W.heap.size l_A l_c l_l ∧ kRng.Rd W W.heap.size l_B l_d l_k := by
  have hval := h.fits
  obtain ⟨p, hA⟩ := h.reads
  clear h
  rw [Tryz.params7] at hA hval
  obtain ⟨v0, vs0, d0, ds0, p0, q0, hargs, rfl, rfl, h0, r0⟩ := trodAll_cons hA
  obtain ⟨v1, vs1, d1, ds1, p1, q1, rfl, rfl, rfl, h1, r1⟩ := trodAll_cons r0
  obtain ⟨v2, vs2, d2, ds2, p2, q2, rfl, rfl, rfl, h2, r2⟩ := trodAll_cons r1
  obtain ⟨rfl, rfl, rfl⟩ := trodAll_nil r2
  obtain rfl : args = #[v0, v1, v2] := by cases args; simp_all
  obtain ⟨A_a, c_a, a, rfl, a_rd⟩ := in_pcs (hval 0 22 v0 rfl rfl) h0
  obtain ⟨A_b, c_b, b, rfl, b_rd⟩ := in_pcs (hval 1 22 v1 rfl rfl) h1
  obtain ⟨l_A, l_B, l_c, l_d, l_l, l_k, rfl, l_r1, l_r2⟩ := in_rng2 (hval 2 53 v2 rfl rfl) h2
  exact ⟨A_a, c_a, a, A_b, c_b, b, l_A, l_B, l_c, l_d, l_l, l_k, rfl, a_rd, b_rd, l_r1, l_r2⟩
theorem knowLaws_answers : Answers Rows.knowLawsSpec 3 := ⟨rfl, fun H ds h => by match ds, h with | [_, _, _], _ => rfl⟩
set_option maxRecDepth 100000 in
theorem knowLaws_lifted (os : Os) (started : os.Started) (H : Type) (enc : TypeId × Value → H) :
    ReturnsInHanded {} Tryz.checked os 7 .any (Rows.knowLawsSpec.pre6 enc Tryz.prog Tryz.f7 Rows.knowLawsRow.domain false) (Rows.knowLawsSpec.post enc Tryz.prog Tryz.f7 false true false false) := by
  refine returnsInHanded_of_change_sized (C := Tryz.checked) own started (by kernel_rfl) Tryz.func7
    (ChangeSpec.witness6 (enc := enc) (C := Tryz.checked) false ⟨#[], #[.slice none 0 0, .slice none 0 0, .agg #[.slice none 0 0, .slice none 0 0]], []⟩ 8 (by kernel_rfl) (by kernel_rfl) (by kernel_rfl) (by kernel_rfl)) ?_
  intro W base args ds gs before hval hW _ hsz _
  refine law_contract 7 Tryz.f7 Rows.knowLawsSpec knowLaws_answers rfl (by kernel_rfl) base args ds gs before hval hW hsz fun ht => ?_
  obtain ⟨A_a, c_a, a, A_b, c_b, b, l_A, l_B, l_c, l_d, l_l, l_k, rfl, a_rd, b_rd, l_r1, l_r2⟩ := knowLaws_told ht
  exact knowLaws_walk k_kall k_kadd k_khas k_kright k_kjoin k_kless k_krest k_kof k_meet k_not A_a A_b l_A l_B c_a c_b l_c l_d _ _ _ _ a b l_l l_k rfl rfl rfl rfl _ a_rd b_rd l_r1 l_r2
theorem knowLaws_holds : Rows.KnowLawsSaid :=
  OpenClaim.holds_of_wide 7 Tryz.f7 rfl rfl rfl rfl rfl rfl rfl ⟨rfl, rfl, rfl, rfl, rfl⟩ rfl rfl rfl rfl rfl (by kernel_rfl) Tryz.func7 (by kernel_rfl)
    (of_decide_eq_true (by kernel_rfl)) (by unfold Func.isWrapper; first | (rw [if_pos (by decide +kernel)]; kernel_rfl) | (rw [if_neg (by decide +kernel)]; exact ⟨rfl, rfl⟩))
    (fun os started H enc _ => knowLaws_lifted os started H enc)

end Go.Proofs.YtaodifpnfejbbaaGreat
