/-
  Proved: for every input the law CountsOf returns true, and each argument reads behind the call as it read before. Conditions: none.
-/
import Derived.Test.YtnfhkmlggajhaaaFrame
import Derived.Test.YtnfhkmlggajhaaaOpen
import Derived.Test.YtnfhkmlggajhaaaOpenCnt
import Derived.Test.YtnfhkmlggajhaaaLaw13H
namespace Go.Proofs.Ytnfhkmlggajhaaa
open Go.ChangeShapes Go.WideShapes Go.ChangeAt Go.RowKit

set_option maxRecDepth 100000 in
theorem countsOf_told {H : Type} {enc : TypeId × Value → H} {W : World} {base : Nat} {args : Array Value} {ds : List (DataW H)} (h : Told enc Try.f3 W base args ds) :
    ∃ (A_l : Option Addr) (c_l : Nat) (l : List Rn) (A_more : Option Addr) (c_more : Nat) (more : List Int) (n : Int), args = #[.slice A_l l.length c_l, .slice A_more more.length c_more, .int .i64 n] ∧ kRn.Rd W W.heap.size A_l c_l l ∧ kIt.Rd W W.heap.size A_more c_more more ∧ -9223372036854775808 ≤ n ∧ n ≤ 9223372036854775807 := by
  have hval := h.fits
  obtain ⟨p, hA⟩ := h.reads
  clear h
  rw [Try.params3] at hA hval
  obtain ⟨v0, vs0, d0, ds0, p0, q0, hargs, rfl, rfl, h0, r0⟩ := trodAll_cons hA
  obtain ⟨v1, vs1, d1, ds1, p1, q1, rfl, rfl, rfl, h1, r1⟩ := trodAll_cons r0
  obtain ⟨v2, vs2, d2, ds2, p2, q2, rfl, rfl, rfl, h2, r2⟩ := trodAll_cons r1
  obtain ⟨rfl, rfl, rfl⟩ := trodAll_nil r2
  obtain rfl : args = #[v0, v1, v2] := by cases args; simp_all
  obtain ⟨A_l, c_l, l, rfl, l_rd⟩ := in_rns (hval 0 22 v0 rfl rfl) h0
  obtain ⟨A_more, c_more, more, rfl, more_rd⟩ := in_its (hval 1 23 v1 rfl rfl) h1
  obtain ⟨n, rfl, n_lo, n_hi⟩ := in_int Try.underlying3 (hval 2 3 v2 rfl rfl) h2
  exact ⟨A_l, c_l, l, A_more, c_more, more, n, rfl, l_rd, more_rd, n_lo, n_hi⟩
theorem countsOf_answers : Answers Rows.countsOfSpec 3 := ⟨rfl, fun H ds h => by match ds, h with | [_, _, _], _ => rfl⟩
set_option maxRecDepth 100000 in
theorem countsOf_lifted (os : Os) (started : os.Started) (H : Type) (enc : TypeId × Value → H) :
    ReturnsInHanded {} Try.checked os 3 .any (Rows.countsOfSpec.pre6 enc Try.prog Try.f3 Rows.countsOfRow.domain false) (Rows.countsOfSpec.post enc Try.prog Try.f3 false true false false) := by
  refine returnsInHanded_of_change_sized (C := Try.checked) own started (by kernel_rfl) Try.func3
    (ChangeSpec.witness6 (enc := enc) (C := Try.checked) false ⟨#[], #[.slice none 0 0, .slice none 0 0, .int .i64 0], []⟩ 8 (by kernel_rfl) (by kernel_rfl) (by kernel_rfl) (by kernel_rfl)) ?_
  intro W base args ds gs before hval hW _ hsz _
  refine law_contract 3 Try.f3 Rows.countsOfSpec countsOf_answers rfl (by kernel_rfl) base args ds gs before hval hW hsz fun ht => ?_
  obtain ⟨A_l, c_l, l, A_more, c_more, more, n, rfl, l_rd, more_rd, _, _⟩ := countsOf_told ht
  exact countsOf_walk k_cright k_chas k_cof k_cadd k_cbase k_cmost k_cmany A_l A_more c_l c_more _ _ l more n rfl rfl _ l_rd more_rd
theorem countsOf_holds : Rows.CountsOfSaid :=
  OpenClaim.holds_of_wide 3 Try.f3 rfl rfl rfl rfl rfl rfl rfl ⟨rfl, rfl, rfl, rfl, rfl⟩ rfl rfl rfl rfl rfl (by kernel_rfl) Try.func3 (by kernel_rfl)
    (of_decide_eq_true (by kernel_rfl)) (by unfold Func.isWrapper; first | (rw [if_pos (by decide +kernel)]; kernel_rfl) | (rw [if_neg (by decide +kernel)]; exact ⟨rfl, rfl⟩))
    (fun os started H enc _ => countsOf_lifted os started H enc)

end Go.Proofs.Ytnfhkmlggajhaaa
