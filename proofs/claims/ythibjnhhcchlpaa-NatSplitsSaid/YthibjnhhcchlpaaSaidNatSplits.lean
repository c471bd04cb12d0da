/-
  Proved: for every input the law NatSplits returns true, and each argument reads behind the call as it read before. Conditions: none.
-/
import Derived.Test.YthibjnhhcchlpaaLaw01B
import Derived.Test.YthibjnhhcchlpaaFrame
namespace Go.Proofs.Ythibjnhhcchlpaa
open Go.ChangeShapes Go.WideShapes Go.ChangeAt Go.RowKit

theorem natSplits_told {H : Type} {enc : TypeId × Value → H} {W : World} {base : Nat} {args : Array Value} {ds : List (DataW H)} (h : Told enc Try.f7 W base args ds) :
    ∃ (most : Int) (A_a : Option Addr) (c_a : Nat) (a : List Int) (A_b : Option Addr) (c_b : Nat) (b : List Int), args = #[.int .i64 most, .slice A_a a.length c_a, .slice A_b b.length c_b] ∧ -9223372036854775808 ≤ most ∧ most ≤ 9223372036854775807 ∧ RowAt W W.heap.size A_a (ints a) ∧ AllI64 a ∧ a.length ≤ c_a ∧ c_a ≤ maxLen ∧ RowAt W W.heap.size A_b (ints b) ∧ AllI64 b ∧ b.length ≤ c_b ∧ c_b ≤ maxLen := by
  obtain ⟨hval, ⟨p, hA⟩, -⟩ := h
  rw [Try.params7] at hA hval
  obtain ⟨v0, vs0, d0, ds0, p0, q0, hargs, rfl, rfl, h0, r0⟩ := trodAll_cons hA
  obtain ⟨v1, vs1, d1, ds1, p1, q1, rfl, rfl, rfl, h1, r1⟩ := trodAll_cons r0
  obtain ⟨v2, vs2, d2, ds2, p2, q2, rfl, rfl, rfl, h2, r2⟩ := trodAll_cons r1
  obtain ⟨rfl, rfl, rfl⟩ := trodAll_nil r2
  obtain rfl : args = #[v0, v1, v2] := by cases args; simp_all
  obtain ⟨most, rfl, most_lo, most_hi⟩ := in_int Try.underlying3 (hval 0 3 v0 rfl rfl) h0
  obtain ⟨A_a, c_a, a, rfl, a_row, a_all, a_cap, a_max⟩ := in_ints Try.underlying23 Try.underlying3 (by kernel_rfl) (hval 1 23 v1 rfl rfl) h1
  obtain ⟨A_b, c_b, b, rfl, b_row, b_all, b_cap, b_max⟩ := in_ints Try.underlying23 Try.underlying3 (by kernel_rfl) (hval 2 23 v2 rfl rfl) h2
  exact ⟨most, A_a, c_a, a, A_b, c_b, b, rfl, most_lo, most_hi, a_row, a_all, a_cap, a_max, b_row, b_all, b_cap, b_max⟩
theorem natSplits_answers : Answers Rows.natSplitsSpec 3 := ⟨rfl, fun H ds h => by match ds, h with | [_, _, _], _ => rfl⟩
set_option maxRecDepth 100000 in
theorem natSplits_lifted (os : Os) (started : os.Started) (H : Type) (enc : TypeId × Value → H) :
    ReturnsInHanded {} Try.checked os 7 .any (Rows.natSplitsSpec.pre6 enc Try.prog Try.f7 Rows.natSplitsRow.domain false) (Rows.natSplitsSpec.post enc Try.prog Try.f7 false true false false) := by
  refine returnsInHanded_of_change_sized (C := Try.checked) own started (by kernel_rfl) Try.func7
    (ChangeSpec.witness6 (enc := enc) (C := Try.checked) false ⟨#[], #[.int .i64 0, .slice none 0 0, .slice none 0 0], []⟩ 8 (by kernel_rfl) (by kernel_rfl) (by kernel_rfl) (by kernel_rfl)) ?_
  intro W base args ds gs before hval hW _ hsz _
  refine law_contract 7 Try.f7 Rows.natSplitsSpec natSplits_answers rfl (by kernel_rfl) base args ds gs before hval hW hsz fun ht => ?_
  obtain ⟨most, A_a, c_a, a, A_b, c_b, b, rfl, _, most_hi, a_row, a_all, a_cap, a_max, b_row, b_all, b_cap, b_max⟩ := natSplits_told ht
  exact natSplits_walk most most_hi A_a A_b c_a c_b a b W a_row a_all (Nat.le_trans a_cap a_max) b_row b_all (Nat.le_trans b_cap b_max)
theorem natSplits_holds : Rows.NatSplitsSaid :=
  OpenClaim.holds_of_wide 7 Try.f7 rfl rfl rfl rfl rfl rfl rfl ⟨rfl, rfl, rfl, rfl, rfl⟩ rfl rfl rfl rfl rfl (by kernel_rfl) Try.func7 (by kernel_rfl)
    (of_decide_eq_true (by kernel_rfl)) (by unfold Func.isWrapper; first | (rw [if_pos (by decide +kernel)]; kernel_rfl) | (rw [if_neg (by decide +kernel)]; exact ⟨rfl, rfl⟩))
    (fun os started H enc _ => natSplits_lifted os started H enc)

end Go.Proofs.Ythibjnhhcchlpaa
