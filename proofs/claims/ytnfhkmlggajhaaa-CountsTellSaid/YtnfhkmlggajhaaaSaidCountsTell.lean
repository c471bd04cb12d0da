/-
  Proved: for every input the law CountsTell returns true, and each argument reads behind the call as it read before. Conditions: none.
-/
import Derived.Test.YtnfhkmlggajhaaaFrame
import Derived.Test.YtnfhkmlggajhaaaOpen
import Derived.Test.YtnfhkmlggajhaaaOpenCnt
import Derived.Test.YtnfhkmlggajhaaaLaw13H
namespace Go.Proofs.Ytnfhkmlggajhaaa
open Go.ChangeShapes Go.WideShapes Go.ChangeAt Go.RowKit

set_option maxRecDepth 100000 in
theorem countsTell_told {H : Type} {enc : TypeId × Value → H} {W : World} {base : Nat} {args : Array Value} {ds : List (DataW H)} (h : Told enc Try.f5 W base args ds) :
    ∃ (A_l : Option Addr) (c_l : Nat) (l : List Rn) (n : Int), args = #[.slice A_l l.length c_l, .int .i64 n] ∧ kRn.Rd W W.heap.size A_l c_l l ∧ -9223372036854775808 ≤ n ∧ n ≤ 9223372036854775807 := by
  have hval := h.fits
  obtain ⟨p, hA⟩ := h.reads
  clear h
  rw [Try.params5] at hA hval
  obtain ⟨v0, vs0, d0, ds0, p0, q0, hargs, rfl, rfl, h0, r0⟩ := trodAll_cons hA
  obtain ⟨v1, vs1, d1, ds1, p1, q1, rfl, rfl, rfl, h1, r1⟩ := trodAll_cons r0
  obtain ⟨rfl, rfl, rfl⟩ := trodAll_nil r1
  obtain rfl : args = #[v0, v1] := by cases args; simp_all
  obtain ⟨A_l, c_l, l, rfl, l_rd⟩ := in_rns (hval 0 22 v0 rfl rfl) h0
  obtain ⟨n, rfl, n_lo, n_hi⟩ := in_int Try.underlying3 (hval 1 3 v1 rfl rfl) h1
  exact ⟨A_l, c_l, l, n, rfl, l_rd, n_lo, n_hi⟩
theorem countsTell_answers : Answers Rows.countsTellSpec 2 := ⟨rfl, fun H ds h => by match ds, h with | [_, _], _ => rfl⟩
set_option maxRecDepth 100000 in
theorem countsTell_lifted (os : Os) (started : os.Started) (H : Type) (enc : TypeId × Value → H) :
    ReturnsInHanded {} Try.checked os 5 .any (Rows.countsTellSpec.pre6 enc Try.prog Try.f5 Rows.countsTellRow.domain false) (Rows.countsTellSpec.post enc Try.prog Try.f5 false true false false) := by
  refine returnsInHanded_of_change_sized (C := Try.checked) own started (by kernel_rfl) Try.func5
    (ChangeSpec.witness6 (enc := enc) (C := Try.checked) false ⟨#[], #[.slice none 0 0, .int .i64 0], []⟩ 8 (by kernel_rfl) (by kernel_rfl) (by kernel_rfl) (by kernel_rfl)) ?_
  intro W base args ds gs before hval hW _ hsz _
  refine law_contract 5 Try.f5 Rows.countsTellSpec countsTell_answers rfl (by kernel_rfl) base args ds gs before hval hW hsz fun ht => ?_
  obtain ⟨A_l, c_l, l, n, rfl, l_rd, _, _⟩ := countsTell_told ht
  exact countsTell_walk k_cadd k_cbase k_cmost k_cmany A_l c_l _ l n rfl _ l_rd
theorem countsTell_holds : Rows.CountsTellSaid :=
  OpenClaim.holds_of_wide 5 Try.f5 rfl rfl rfl rfl rfl rfl rfl ⟨rfl, rfl, rfl, rfl, rfl⟩ rfl rfl rfl rfl rfl (by kernel_rfl) Try.func5 (by kernel_rfl)
    (of_decide_eq_true (by kernel_rfl)) (by unfold Func.isWrapper; first | (rw [if_pos (by decide +kernel)]; kernel_rfl) | (rw [if_neg (by decide +kernel)]; exact ⟨rfl, rfl⟩))
    (fun os started H enc _ => countsTell_lifted os started H enc)

end Go.Proofs.Ytnfhkmlggajhaaa
