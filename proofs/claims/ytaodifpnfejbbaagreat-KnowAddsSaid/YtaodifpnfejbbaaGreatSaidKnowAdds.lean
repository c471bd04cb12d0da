/-
  Proved: for every input the law KnowAdds returns true, and each argument reads behind the call as it read before. Conditions: none.
-/
import Derived.Test.YtaodifpnfejbbaaGreatMg15
namespace Go.Proofs.YtaodifpnfejbbaaGreat
open Go.ChangeShapes Go.WideShapes Go.ChangeAt Go.RowKit

set_option maxRecDepth 100000 in
theorem knowAdds_told {H : Type} {enc : TypeId × Value → H} {W : World} {base : Nat} {args : Array Value} {ds : List (DataW H)} (h : Told enc Tryz.f4 W base args ds) :
    ∃ (A_k : Option Addr) (c_k : Nat) (k : List Pc) (x_s : List UInt8) (x_B x_D x_F : Option Addr) (x_d x_e x_f : Nat) (x_v : List Vr) (x_l : List Rng) (x_k : List Kn), args = #[.slice A_k k.length c_k, .agg #[.string (str x_s), .slice x_B x_v.length x_d, .slice x_D x_l.length x_e, .slice x_F x_k.length x_f]] ∧ RdPc W A_k c_k k ∧ kVr.Rd W W.heap.size x_B x_d x_v ∧ kRng.Rd W W.heap.size x_D x_e x_l ∧ RdK W W.heap.size x_F x_f x_k := by
  have hval := h.fits
  obtain ⟨p, hA⟩ := h.reads
  clear h
  rw [Tryz.params4] at hA hval
  obtain ⟨v0, vs0, d0, ds0, p0, q0, hargs, rfl, rfl, h0, r0⟩ := trodAll_cons hA
  obtain ⟨v1, vs1, d1, ds1, p1, q1, rfl, rfl, rfl, h1, r1⟩ := trodAll_cons r0
  obtain ⟨rfl, rfl, rfl⟩ := trodAll_nil r1
  obtain rfl : args = #[v0, v1] := by cases args; simp_all
  obtain ⟨A_k, c_k, k, rfl, k_rd⟩ := in_pcs (hval 0 22 v0 rfl rfl) h0
  obtain ⟨x_s, x_B, x_D, x_F, x_d, x_e, x_f, x_v, x_l, x_k, rfl, x_r1, x_r2, x_r3⟩ := in_adds (hval 1 38 v1 rfl rfl) h1
  exact ⟨A_k, c_k, k, x_s, x_B, x_D, x_F, x_d, x_e, x_f, x_v, x_l, x_k, rfl, k_rd, x_r1, x_r2, x_r3⟩
theorem knowAdds_answers : Answers Rows.knowAddsSpec 2 := ⟨rfl, fun H ds h => by match ds, h with | [_, _], _ => rfl⟩
set_option maxRecDepth 100000 in
theorem knowAdds_lifted (os : Os) (started : os.Started) (H : Type) (enc : TypeId × Value → H) :
    ReturnsInHanded {} Tryz.checked os 4 .any (Rows.knowAddsSpec.pre6 enc Tryz.prog Tryz.f4 Rows.knowAddsRow.domain false) (Rows.knowAddsSpec.post enc Tryz.prog Tryz.f4 false true false false) := by
  refine returnsInHanded_of_change_sized (C := Tryz.checked) own started (by kernel_rfl) Tryz.func4
    (ChangeSpec.witness6 (enc := enc) (C := Tryz.checked) false ⟨#[], #[.slice none 0 0, .agg #[.string ⟨#[]⟩, .slice none 0 0, .slice none 0 0, .slice none 0 0]], []⟩ 8 (by kernel_rfl) (by kernel_rfl) (by kernel_rfl) (by kernel_rfl)) ?_
  intro W base args ds gs before hval hW _ hsz _
  refine law_contract 4 Tryz.f4 Rows.knowAddsSpec knowAdds_answers rfl (by kernel_rfl) base args ds gs before hval hW hsz fun ht => ?_
  obtain ⟨A_k, c_k, k, x_s, x_B, x_D, x_F, x_d, x_e, x_f, x_v, x_l, x_k, rfl, k_rd, x_r1, x_r2, x_r3⟩ := knowAdds_told ht
  exact knowAdds_walk k_kall k_kadd k_khas k_kright A_k x_B x_D x_F c_k x_d x_e x_f _ _ _ _ k x_s x_v x_l x_k rfl rfl rfl rfl _ k_rd x_r1 x_r2 x_r3
theorem knowAdds_holds : Rows.KnowAddsSaid :=
  OpenClaim.holds_of_wide 4 Tryz.f4 rfl rfl rfl rfl rfl rfl rfl ⟨rfl, rfl, rfl, rfl, rfl⟩ rfl rfl rfl rfl rfl (by kernel_rfl) Tryz.func4 (by kernel_rfl)
    (of_decide_eq_true (by kernel_rfl)) (by unfold Func.isWrapper; first | (rw [if_pos (by decide +kernel)]; kernel_rfl) | (rw [if_neg (by decide +kernel)]; exact ⟨rfl, rfl⟩))
    (fun os started H enc _ => knowAdds_lifted os started H enc)

end Go.Proofs.YtaodifpnfejbbaaGreat
