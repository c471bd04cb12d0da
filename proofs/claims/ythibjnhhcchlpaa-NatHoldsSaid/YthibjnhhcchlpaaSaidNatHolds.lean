/-
  Proved: for every input the law NatHolds returns true, and each argument reads behind the call as it read before. Conditions: none.
-/
import Derived.Test.YthibjnhhcchlpaaLaw01
import Derived.Test.YthibjnhhcchlpaaFrame
namespace Go.Proofs.Ythibjnhhcchlpaa
open Go.ChangeShapes Go.WideShapes Go.ChangeAt Go.RowKit

theorem natHolds_told {H : Type} {enc : TypeId × Value → H} {W : World} {base : Nat} {args : Array Value} {ds : List (DataW H)} (h : Told enc Try.f3 W base args ds) :
    ∃ (n : Int) (b0 b1 : Int) (A_l : Option Addr) (c_l : Nat) (l : List Int), args = #[.int .i64 n, .agg #[.int .i64 b0, .int .i64 b1], .slice A_l l.length c_l] ∧ -9223372036854775808 ≤ n ∧ n ≤ 9223372036854775807 ∧ -9223372036854775808 ≤ b0 ∧ b0 ≤ 9223372036854775807 ∧ -9223372036854775808 ≤ b1 ∧ b1 ≤ 9223372036854775807 ∧ RowAt W W.heap.size A_l (ints l) ∧ AllI64 l ∧ l.length ≤ c_l ∧ c_l ≤ maxLen := by
  obtain ⟨hval, ⟨p, hA⟩, -⟩ := h
  rw [Try.params3] at hA hval
  obtain ⟨v0, vs0, d0, ds0, p0, q0, hargs, rfl, rfl, h0, r0⟩ := trodAll_cons hA
  obtain ⟨v1, vs1, d1, ds1, p1, q1, rfl, rfl, rfl, h1, r1⟩ := trodAll_cons r0
  obtain ⟨v2, vs2, d2, ds2, p2, q2, rfl, rfl, rfl, h2, r2⟩ := trodAll_cons r1
  obtain ⟨rfl, rfl, rfl⟩ := trodAll_nil r2
  obtain rfl : args = #[v0, v1, v2] := by cases args; simp_all
  obtain ⟨n, rfl, n_lo, n_hi⟩ := in_int Try.underlying3 (hval 0 3 v0 rfl rfl) h0
  obtain ⟨b0, b1, rfl, b0_lo, b0_hi, b1_lo, b1_hi⟩ := in_arr2 Try.underlying22 Try.underlying3 (by kernel_rfl) (by kernel_rfl) (hval 1 22 v1 rfl rfl) h1
  obtain ⟨A_l, c_l, l, rfl, l_row, l_all, l_cap, l_max⟩ := in_ints Try.underlying23 Try.underlying3 (by kernel_rfl) (hval 2 23 v2 rfl rfl) h2
  exact ⟨n, b0, b1, A_l, c_l, l, rfl, n_lo, n_hi, b0_lo, b0_hi, b1_lo, b1_hi, l_row, l_all, l_cap, l_max⟩
theorem natHolds_answers : Answers Rows.natHoldsSpec 3 := ⟨rfl, fun H ds h => by match ds, h with | [_, _, _], _ => rfl⟩
set_option maxRecDepth 100000 in
theorem natHolds_lifted (os : Os) (started : os.Started) (H : Type) (enc : TypeId × Value → H) :
    ReturnsInHanded {} Try.checked os 3 .any (Rows.natHoldsSpec.pre6 enc Try.prog Try.f3 Rows.natHoldsRow.domain false) (Rows.natHoldsSpec.post enc Try.prog Try.f3 false true false false) := by
  refine returnsInHanded_of_change_sized (C := Try.checked) own started (by kernel_rfl) Try.func3
    (ChangeSpec.witness6 (enc := enc) (C := Try.checked) false ⟨#[], #[.int .i64 0, .agg #[.int .i64 0, .int .i64 0], .slice none 0 0], []⟩ 8 (by kernel_rfl) (by kernel_rfl) (by kernel_rfl) (by kernel_rfl)) ?_
  intro W base args ds gs before hval hW _ hsz _
  refine law_contract 3 Try.f3 Rows.natHoldsSpec natHolds_answers rfl (by kernel_rfl) base args ds gs before hval hW hsz fun ht => ?_
  obtain ⟨n, b0, b1, A_l, c_l, l, rfl, _, _, _, _, _, _, l_row, l_all, l_cap, l_max⟩ := natHolds_told ht
  exact natHolds_walk n b0 b1 A_l c_l l W l_row l_all (Nat.le_trans l_cap l_max) l_cap
theorem natHolds_holds : Rows.NatHoldsSaid :=
  OpenClaim.holds_of_wide 3 Try.f3 rfl rfl rfl rfl rfl rfl rfl ⟨rfl, rfl, rfl, rfl, rfl⟩ rfl rfl rfl rfl rfl (by kernel_rfl) Try.func3 (by kernel_rfl)
    (of_decide_eq_true (by kernel_rfl)) (by unfold Func.isWrapper; first | (rw [if_pos (by decide +kernel)]; kernel_rfl) | (rw [if_neg (by decide +kernel)]; exact ⟨rfl, rfl⟩))
    (fun os started H enc _ => natHolds_lifted os started H enc)

end Go.Proofs.Ythibjnhhcchlpaa
