/-
  Proved: for every input the law VsetOf returns true, and each argument reads behind the call as it read before. Conditions: none.
-/
import Derived.Test.YtdlloobdmfoalaaMg7
namespace Go.Proofs.Ytdlloobdmfoalaa
open Go.ChangeShapes Go.WideShapes Go.ChangeAt Go.RowKit

set_option maxRecDepth 100000 in
theorem vsetOf_told {H : Type} {enc : TypeId × Value → H} {W : World} {base : Nat} {args : Array Value} {ds : List (DataW H)} (h : Told enc Try.f3 W base args ds) :
    ∃ (A_s : Option Addr) (c_s : Nat) (s : List Kn) (A_l : Option Addr) (c_l : Nat) (l : List Vr) (v : Vr), args = #[.slice A_s s.length c_s, .slice A_l l.length c_l, .agg #[.int .i64 v.rep, .int .i64 v.cnt]] ∧ RdK W W.heap.size A_s c_s s ∧ kVr.Rd W W.heap.size A_l c_l l := by
  have hval := h.fits
  obtain ⟨p, hA⟩ := h.reads
  clear h
  rw [Try.params3] at hA hval
  obtain ⟨v0, vs0, d0, ds0, p0, q0, hargs, rfl, rfl, h0, r0⟩ := trodAll_cons hA
  obtain ⟨v1, vs1, d1, ds1, p1, q1, rfl, rfl, rfl, h1, r1⟩ := trodAll_cons r0
  obtain ⟨v2, vs2, d2, ds2, p2, q2, rfl, rfl, rfl, h2, r2⟩ := trodAll_cons r1
  obtain ⟨rfl, rfl, rfl⟩ := trodAll_nil r2
  obtain rfl : args = #[v0, v1, v2] := by cases args; simp_all
  obtain ⟨A_s, c_s, s, rfl, s_rd⟩ := in_kns (hval 0 22 v0 rfl rfl) h0
  obtain ⟨A_l, c_l, l, rfl, l_rd⟩ := in_vrs (hval 1 23 v1 rfl rfl) h1
  obtain ⟨v, rfl⟩ := in_vr (hval 2 25 v2 rfl rfl) h2
  exact ⟨A_s, c_s, s, A_l, c_l, l, v, rfl, s_rd, l_rd⟩
theorem vsetOf_answers : Answers Rows.vsetOfSpec 3 := ⟨rfl, fun H ds h => by match ds, h with | [_, _, _], _ => rfl⟩
set_option maxRecDepth 100000 in
theorem vsetOf_lifted (os : Os) (started : os.Started) (H : Type) (enc : TypeId × Value → H) :
    ReturnsInHanded {} Try.checked os 3 .any (Rows.vsetOfSpec.pre6 enc Try.prog Try.f3 Rows.vsetOfRow.domain false) (Rows.vsetOfSpec.post enc Try.prog Try.f3 false true false false) := by
  refine returnsInHanded_of_change_sized (C := Try.checked) own started (by kernel_rfl) Try.func3
    (ChangeSpec.witness6 (enc := enc) (C := Try.checked) false ⟨#[], #[.slice none 0 0, .slice none 0 0, .agg #[.int .i64 0, .int .i64 0]], []⟩ 8 (by kernel_rfl) (by kernel_rfl) (by kernel_rfl) (by kernel_rfl)) ?_
  intro W base args ds gs before hval hW _ hsz _
  refine law_contract 3 Try.f3 Rows.vsetOfSpec vsetOf_answers rfl (by kernel_rfl) base args ds gs before hval hW hsz fun ht => ?_
  obtain ⟨A_s, c_s, s, A_l, c_l, l, v, rfl, s_rd, l_rd⟩ := vsetOf_told ht
  exact vsetOf_walk k_sadd k_svec k_smost k_shas k_sright k_sof A_s A_l c_s c_l _ _ s l v _ _ rfl rfl rfl rfl _ s_rd l_rd
theorem vsetOf_holds : Rows.VsetOfSaid :=
  OpenClaim.holds_of_wide 3 Try.f3 rfl rfl rfl rfl rfl rfl rfl ⟨rfl, rfl, rfl, rfl, rfl⟩ rfl rfl rfl rfl rfl (by kernel_rfl) Try.func3 (by kernel_rfl)
    (of_decide_eq_true (by kernel_rfl)) (by unfold Func.isWrapper; first | (rw [if_pos (by decide +kernel)]; kernel_rfl) | (rw [if_neg (by decide +kernel)]; exact ⟨rfl, rfl⟩))
    (fun os started H enc _ => vsetOf_lifted os started H enc)

end Go.Proofs.Ytdlloobdmfoalaa
