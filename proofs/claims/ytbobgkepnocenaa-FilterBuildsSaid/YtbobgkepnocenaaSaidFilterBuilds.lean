/-
  Proved: for every input the law FilterBuilds returns true, and each argument reads behind the call as it read before. Conditions: none.
-/
import Derived.Test.YtbobgkepnocenaaMg7
namespace Go.Proofs.Ytbobgkepnocenaa
open Go.ChangeShapes Go.WideShapes Go.ChangeAt Go.RowKit

set_option maxRecDepth 100000 in
theorem filterBuilds_told {H : Type} {enc : TypeId × Value → H} {W : World} {base : Nat} {args : Array Value} {ds : List (DataW H)} (h : Told enc Try.f4 W base args ds) :
    ∃ (A_l : Option Addr) (c_l : Nat) (l : List (List Nd)) (lo : List UInt8) (hi : List UInt8), args = #[.slice A_l l.length c_l, .string (str lo), .string (str hi)] ∧ RdLL W W.heap.size A_l c_l l ∧ lo.length ≤ maxLen ∧ hi.length ≤ maxLen := by
  have hval := h.fits
  obtain ⟨p, hA⟩ := h.reads
  clear h
  rw [Try.params4] at hA hval
  obtain ⟨v0, vs0, d0, ds0, p0, q0, hargs, rfl, rfl, h0, r0⟩ := trodAll_cons hA
  obtain ⟨v1, vs1, d1, ds1, p1, q1, rfl, rfl, rfl, h1, r1⟩ := trodAll_cons r0
  obtain ⟨v2, vs2, d2, ds2, p2, q2, rfl, rfl, rfl, h2, r2⟩ := trodAll_cons r1
  obtain ⟨rfl, rfl, rfl⟩ := trodAll_nil r2
  obtain rfl : args = #[v0, v1, v2] := by cases args; simp_all
  obtain ⟨A_l, c_l, l, rfl, l_rd⟩ := in_ndss (hval 0 31 v0 rfl rfl) h0
  obtain ⟨lo, rfl, lo_len⟩ := in_str Try.underlying9 (hval 1 9 v1 rfl rfl) h1
  obtain ⟨hi, rfl, hi_len⟩ := in_str Try.underlying9 (hval 2 9 v2 rfl rfl) h2
  exact ⟨A_l, c_l, l, lo, hi, rfl, l_rd, lo_len, hi_len⟩
theorem filterBuilds_answers : Answers Rows.filterBuildsSpec 3 := ⟨rfl, fun H ds h => by match ds, h with | [_, _, _], _ => rfl⟩
set_option maxRecDepth 100000 in
theorem filterBuilds_lifted (os : Os) (started : os.Started) (H : Type) (enc : TypeId × Value → H) :
    ReturnsInHanded {} Try.checked os 4 .any (Rows.filterBuildsSpec.pre6 enc Try.prog Try.f4 Rows.filterBuildsRow.domain false) (Rows.filterBuildsSpec.post enc Try.prog Try.f4 false true false false) := by
  refine returnsInHanded_of_change_sized (C := Try.checked) own started (by kernel_rfl) Try.func4
    (ChangeSpec.witness6 (enc := enc) (C := Try.checked) false ⟨#[], #[.slice none 0 0, .string ⟨#[]⟩, .string ⟨#[]⟩], []⟩ 8 (by kernel_rfl) (by kernel_rfl) (by kernel_rfl) (by kernel_rfl)) ?_
  intro W base args ds gs before hval hW _ hsz _
  refine law_contract 4 Try.f4 Rows.filterBuildsSpec filterBuilds_answers rfl (by kernel_rfl) base args ds gs before hval hW hsz fun ht => ?_
  obtain ⟨A_l, c_l, l, lo, hi, rfl, l_rd, _, _⟩ := filterBuilds_told ht
  exact filterBuilds_walk k_prefix k_nnot k_and k_or k_nranges k_nright k_nmatch k_all k_none k_between k_from A_l c_l _ l lo hi rfl _ l_rd
theorem filterBuilds_holds : Rows.FilterBuildsSaid :=
  OpenClaim.holds_of_wide 4 Try.f4 rfl rfl rfl rfl rfl rfl rfl ⟨rfl, rfl, rfl, rfl, rfl⟩ rfl rfl rfl rfl rfl (by kernel_rfl) Try.func4 (by kernel_rfl)
    (of_decide_eq_true (by kernel_rfl)) (by unfold Func.isWrapper; first | (rw [if_pos (by decide +kernel)]; kernel_rfl) | (rw [if_neg (by decide +kernel)]; exact ⟨rfl, rfl⟩))
    (fun os started H enc _ => filterBuilds_lifted os started H enc)

end Go.Proofs.Ytbobgkepnocenaa
