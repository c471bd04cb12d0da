/-
  Proved: for every input the law VsetVector returns true, and each argument reads behind the call as it read before. Conditions: none.
-/
import Derived.Test.YtdlloobdmfoalaaMg7
namespace Go.Proofs.Ytdlloobdmfoalaa
open Go.ChangeShapes Go.WideShapes Go.ChangeAt Go.RowKit

set_option maxRecDepth 100000 in
theorem vsetVector_told {H : Type} {enc : TypeId × Value → H} {W : World} {base : Nat} {args : Array Value} {ds : List (DataW H)} (h : Told enc Try.f6 W base args ds) :
    ∃ (A_s : Option Addr) (c_s : Nat) (s : List Kn) (n : Int), args = #[.slice A_s s.length c_s, .int .i64 n] ∧ RdK W W.heap.size A_s c_s s ∧ -9223372036854775808 ≤ n ∧ n ≤ 9223372036854775807 := by
  have hval := h.fits
  obtain ⟨p, hA⟩ := h.reads
  clear h
  rw [Try.params6] at hA hval
  obtain ⟨v0, vs0, d0, ds0, p0, q0, hargs, rfl, rfl, h0, r0⟩ := trodAll_cons hA
  obtain ⟨v1, vs1, d1, ds1, p1, q1, rfl, rfl, rfl, h1, r1⟩ := trodAll_cons r0
  obtain ⟨rfl, rfl, rfl⟩ := trodAll_nil r1
  obtain rfl : args = #[v0, v1] := by cases args; simp_all
  obtain ⟨A_s, c_s, s, rfl, s_rd⟩ := in_kns (hval 0 22 v0 rfl rfl) h0
  obtain ⟨n, rfl, n_lo, n_hi⟩ := in_int Try.underlying3 (hval 1 3 v1 rfl rfl) h1
  exact ⟨A_s, c_s, s, n, rfl, s_rd, n_lo, n_hi⟩
theorem vsetVector_answers : Answers Rows.vsetVectorSpec 2 := ⟨rfl, fun H ds h => by match ds, h with | [_, _], _ => rfl⟩
set_option maxRecDepth 100000 in
theorem vsetVector_lifted (os : Os) (started : os.Started) (H : Type) (enc : TypeId × Value → H) :
    ReturnsInHanded {} Try.checked os 6 .any (Rows.vsetVectorSpec.pre6 enc Try.prog Try.f6 Rows.vsetVectorRow.domain false) (Rows.vsetVectorSpec.post enc Try.prog Try.f6 false true false false) := by
  refine returnsInHanded_of_change_sized (C := Try.checked) own started (by kernel_rfl) Try.func6
    (ChangeSpec.witness6 (enc := enc) (C := Try.checked) false ⟨#[], #[.slice none 0 0, .int .i64 0], []⟩ 8 (by kernel_rfl) (by kernel_rfl) (by kernel_rfl) (by kernel_rfl)) ?_
  intro W base args ds gs before hval hW _ hsz _
  refine law_contract 6 Try.f6 Rows.vsetVectorSpec vsetVector_answers rfl (by kernel_rfl) base args ds gs before hval hW hsz fun ht => ?_
  obtain ⟨A_s, c_s, s, n, rfl, s_rd, _, _⟩ := vsetVector_told ht
  exact vsetVector_walk k_sadd k_svec k_smost k_shas A_s c_s _ s n rfl _ s_rd
theorem vsetVector_holds : Rows.VsetVectorSaid :=
  OpenClaim.holds_of_wide 6 Try.f6 rfl rfl rfl rfl rfl rfl rfl ⟨rfl, rfl, rfl, rfl, rfl⟩ rfl rfl rfl rfl rfl (by kernel_rfl) Try.func6 (by kernel_rfl)
    (of_decide_eq_true (by kernel_rfl)) (by unfold Func.isWrapper; first | (rw [if_pos (by decide +kernel)]; kernel_rfl) | (rw [if_neg (by decide +kernel)]; exact ⟨rfl, rfl⟩))
    (fun os started H enc _ => vsetVector_lifted os started H enc)

end Go.Proofs.Ytdlloobdmfoalaa
