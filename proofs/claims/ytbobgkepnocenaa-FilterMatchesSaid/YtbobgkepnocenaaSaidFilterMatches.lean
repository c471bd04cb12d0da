/-
  Proved: for every input the law FilterMatches returns true, and each argument reads behind the call as it read before. Conditions: none.
-/
import Derived.Test.YtbobgkepnocenaaMg7
namespace Go.Proofs.Ytbobgkepnocenaa
open Go.ChangeShapes Go.WideShapes Go.ChangeAt Go.RowKit

set_option maxRecDepth 100000 in
theorem filterMatches_told {H : Type} {enc : TypeId × Value → H} {W : World} {base : Nat} {args : Array Value} {ds : List (DataW H)} (h : Told enc Try.f3 W base args ds) :
    ∃ (A_l : Option Addr) (c_l : Nat) (l : List Nd) (s : List UInt8), args = #[.slice A_l l.length c_l, .string (str s)] ∧ kNd.Rd W W.heap.size A_l c_l l ∧ s.length ≤ maxLen := by
  have hval := h.fits
  obtain ⟨p, hA⟩ := h.reads
  clear h
  rw [Try.params3] at hA hval
  obtain ⟨v0, vs0, d0, ds0, p0, q0, hargs, rfl, rfl, h0, r0⟩ := trodAll_cons hA
  obtain ⟨v1, vs1, d1, ds1, p1, q1, rfl, rfl, rfl, h1, r1⟩ := trodAll_cons r0
  obtain ⟨rfl, rfl, rfl⟩ := trodAll_nil r1
  obtain rfl : args = #[v0, v1] := by cases args; simp_all
  obtain ⟨A_l, c_l, l, rfl, l_rd⟩ := in_nds (hval 0 22 v0 rfl rfl) h0
  obtain ⟨s, rfl, s_len⟩ := in_str Try.underlying9 (hval 1 9 v1 rfl rfl) h1
  exact ⟨A_l, c_l, l, s, rfl, l_rd, s_len⟩
theorem filterMatches_answers : Answers Rows.filterMatchesSpec 2 := ⟨rfl, fun H ds h => by match ds, h with | [_, _], _ => rfl⟩
set_option maxRecDepth 100000 in
theorem filterMatches_lifted (os : Os) (started : os.Started) (H : Type) (enc : TypeId × Value → H) :
    ReturnsInHanded {} Try.checked os 3 .any (Rows.filterMatchesSpec.pre6 enc Try.prog Try.f3 Rows.filterMatchesRow.domain false) (Rows.filterMatchesSpec.post enc Try.prog Try.f3 false true false false) := by
  refine returnsInHanded_of_change_sized (C := Try.checked) own started (by kernel_rfl) Try.func3
    (ChangeSpec.witness6 (enc := enc) (C := Try.checked) false ⟨#[], #[.slice none 0 0, .string ⟨#[]⟩], []⟩ 8 (by kernel_rfl) (by kernel_rfl) (by kernel_rfl) (by kernel_rfl)) ?_
  intro W base args ds gs before hval hW _ hsz _
  refine law_contract 3 Try.f3 Rows.filterMatchesSpec filterMatches_answers rfl (by kernel_rfl) base args ds gs before hval hW hsz fun ht => ?_
  obtain ⟨A_l, c_l, l, s, rfl, l_rd, _⟩ := filterMatches_told ht
  exact filterMatches_walk k_prefix k_nnot k_and k_nranges k_nright k_nmatch A_l c_l _ l s rfl _ l_rd
theorem filterMatches_holds : Rows.FilterMatchesSaid :=
  OpenClaim.holds_of_wide 3 Try.f3 rfl rfl rfl rfl rfl rfl rfl ⟨rfl, rfl, rfl, rfl, rfl⟩ rfl rfl rfl rfl rfl (by kernel_rfl) Try.func3 (by kernel_rfl)
    (of_decide_eq_true (by kernel_rfl)) (by unfold Func.isWrapper; first | (rw [if_pos (by decide +kernel)]; kernel_rfl) | (rw [if_neg (by decide +kernel)]; exact ⟨rfl, rfl⟩))
    (fun os started H enc _ => filterMatches_lifted os started H enc)

end Go.Proofs.Ytbobgkepnocenaa
