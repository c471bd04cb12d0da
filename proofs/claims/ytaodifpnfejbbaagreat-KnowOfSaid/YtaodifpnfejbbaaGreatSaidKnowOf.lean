/-
  Proved: for every input the law KnowOf returns true, and each argument reads behind the call as it read before. Conditions: none.
-/
import Derived.Test.YtaodifpnfejbbaaGreatMg15
namespace Go.Proofs.YtaodifpnfejbbaaGreat
open Go.ChangeShapes Go.WideShapes Go.ChangeAt Go.RowKit

set_option maxRecDepth 100000 in
theorem knowOf_told {H : Type} {enc : TypeId × Value → H} {W : World} {base : Nat} {args : Array Value} {ds : List (DataW H)} (h : Told enc Tryz.f3 W base args ds) :
    ∃ (A_k : Option Addr) (c_k : Nat) (k : List Pc) (s : List UInt8) (v : Vr), args = #[.slice A_k k.length c_k, .string (str s), .agg #[.int .i64 v.rep, .int .i64 v.cnt]] ∧ RdPc W A_k c_k k ∧ s.length ≤ maxLen := by
  have hval := h.fits
  obtain ⟨p, hA⟩ := h.reads
  clear h
  rw [Tryz.params3] at hA hval
  obtain ⟨v0, vs0, d0, ds0, p0, q0, hargs, rfl, rfl, h0, r0⟩ := trodAll_cons hA
  obtain ⟨v1, vs1, d1, ds1, p1, q1, rfl, rfl, rfl, h1, r1⟩ := trodAll_cons r0
  obtain ⟨v2, vs2, d2, ds2, p2, q2, rfl, rfl, rfl, h2, r2⟩ := trodAll_cons r1
  obtain ⟨rfl, rfl, rfl⟩ := trodAll_nil r2
  obtain rfl : args = #[v0, v1, v2] := by cases args; simp_all
  obtain ⟨A_k, c_k, k, rfl, k_rd⟩ := in_pcs (hval 0 22 v0 rfl rfl) h0
  obtain ⟨s, rfl, s_len⟩ := in_str Tryz.underlying9 (hval 1 9 v1 rfl rfl) h1
  obtain ⟨v, rfl⟩ := in_vr (hval 2 24 v2 rfl rfl) h2
  exact ⟨A_k, c_k, k, s, v, rfl, k_rd, s_len⟩
theorem knowOf_answers : Answers Rows.knowOfSpec 3 := ⟨rfl, fun H ds h => by match ds, h with | [_, _, _], _ => rfl⟩
set_option maxRecDepth 100000 in
theorem knowOf_lifted (os : Os) (started : os.Started) (H : Type) (enc : TypeId × Value → H) :
    ReturnsInHanded {} Tryz.checked os 3 .any (Rows.knowOfSpec.pre6 enc Tryz.prog Tryz.f3 Rows.knowOfRow.domain false) (Rows.knowOfSpec.post enc Tryz.prog Tryz.f3 false true false false) := by
  refine returnsInHanded_of_change_sized (C := Tryz.checked) own started (by kernel_rfl) Tryz.func3
    (ChangeSpec.witness6 (enc := enc) (C := Tryz.checked) false ⟨#[], #[.slice none 0 0, .string ⟨#[]⟩, .agg #[.int .i64 0, .int .i64 0]], []⟩ 8 (by kernel_rfl) (by kernel_rfl) (by kernel_rfl) (by kernel_rfl)) ?_
  intro W base args ds gs before hval hW _ hsz _
  refine law_contract 3 Tryz.f3 Rows.knowOfSpec knowOf_answers rfl (by kernel_rfl) base args ds gs before hval hW hsz fun ht => ?_
  obtain ⟨A_k, c_k, k, s, v, rfl, k_rd, _⟩ := knowOf_told ht
  exact knowOf_walk k_kall k_kadd k_khas k_kright k_kat k_kof A_k c_k _ k s v _ _ rfl rfl rfl _ k_rd
theorem knowOf_holds : Rows.KnowOfSaid :=
  OpenClaim.holds_of_wide 3 Tryz.f3 rfl rfl rfl rfl rfl rfl rfl ⟨rfl, rfl, rfl, rfl, rfl⟩ rfl rfl rfl rfl rfl (by kernel_rfl) Tryz.func3 (by kernel_rfl)
    (of_decide_eq_true (by kernel_rfl)) (by unfold Func.isWrapper; first | (rw [if_pos (by decide +kernel)]; kernel_rfl) | (rw [if_neg (by decide +kernel)]; exact ⟨rfl, rfl⟩))
    (fun os started H enc _ => knowOf_lifted os started H enc)

end Go.Proofs.YtaodifpnfejbbaaGreat
