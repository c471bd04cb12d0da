/-
  Proved: for every input the law NatSums returns true, and each argument reads behind the call as it read before. Conditions: none.
-/
import Derived.Test.YthibjnhhcchlpaaLaw01
import Derived.Test.YthibjnhhcchlpaaFrame
namespace Go.Proofs.Ythibjnhhcchlpaa
open Go.ChangeShapes Go.WideShapes Go.ChangeAt Go.RowKit

theorem natSums_told {H : Type} {enc : TypeId × Value → H} {W : World} {base : Nat} {args : Array Value} {ds : List (DataW H)} (h : Told enc Try.f4 W base args ds) :
    ∃ (most : Int) (A_l : Option Addr) (c_l : Nat) (l : List Int), args = #[.int .i64 most, .slice A_l l.length c_l] ∧ -9223372036854775808 ≤ most ∧ most ≤ 9223372036854775807 ∧ RowAt W W.heap.size A_l (ints l) ∧ AllI64 l ∧ l.length ≤ c_l ∧ c_l ≤ maxLen := by
  obtain ⟨hval, ⟨p, hA⟩, -⟩ := h
  rw [Try.params4] at hA hval
  obtain ⟨v0, vs0, d0, ds0, p0, q0, hargs, rfl, rfl, h0, r0⟩ := trodAll_cons hA
  obtain ⟨v1, vs1, d1, ds1, p1, q1, rfl, rfl, rfl, h1, r1⟩ := trodAll_cons r0
  obtain ⟨rfl, rfl, rfl⟩ := trodAll_nil r1
  obtain rfl : args = #[v0, v1] := by cases args; simp_all
  obtain ⟨most, rfl, most_lo, most_hi⟩ := in_int Try.underlying3 (hval 0 3 v0 rfl rfl) h0
  obtain ⟨A_l, c_l, l, rfl, l_row, l_all, l_cap, l_max⟩ := in_ints Try.underlying23 Try.underlying3 (by kernel_rfl) (hval 1 23 v1 rfl rfl) h1
  exact ⟨most, A_l, c_l, l, rfl, most_lo, most_hi, l_row, l_all, l_cap, l_max⟩
theorem natSums_answers : Answers Rows.natSumsSpec 2 := ⟨rfl, fun H ds h => by match ds, h with | [_, _], _ => rfl⟩
set_option maxRecDepth 100000 in
theorem natSums_lifted (os : Os) (started : os.Started) (H : Type) (enc : TypeId × Value → H) :
    ReturnsInHanded {} Try.checked os 4 .any (Rows.natSumsSpec.pre6 enc Try.prog Try.f4 Rows.natSumsRow.domain false) (Rows.natSumsSpec.post enc Try.prog Try.f4 false true false false) := by
  refine returnsInHanded_of_change_sized (C := Try.checked) own started (by kernel_rfl) Try.func4
    (ChangeSpec.witness6 (enc := enc) (C := Try.checked) false ⟨#[], #[.int .i64 0, .slice none 0 0], []⟩ 8 (by kernel_rfl) (by kernel_rfl) (by kernel_rfl) (by kernel_rfl)) ?_
  intro W base args ds gs before hval hW _ hsz _
  refine law_contract 4 Try.f4 Rows.natSumsSpec natSums_answers rfl (by kernel_rfl) base args ds gs before hval hW hsz fun ht => ?_
  obtain ⟨most, A_l, c_l, l, rfl, most_lo, most_hi, l_row, l_all, l_cap, l_max⟩ := natSums_told ht
  exact natSums_walk most most_lo most_hi A_l c_l l W l_row l_all (Nat.le_trans l_cap l_max)
theorem natSums_holds : Rows.NatSumsSaid :=
  OpenClaim.holds_of_wide 4 Try.f4 rfl rfl rfl rfl rfl rfl rfl ⟨rfl, rfl, rfl, rfl, rfl⟩ rfl rfl rfl rfl rfl (by kernel_rfl) Try.func4 (by kernel_rfl)
    (of_decide_eq_true (by kernel_rfl)) (by unfold Func.isWrapper; first | (rw [if_pos (by decide +kernel)]; kernel_rfl) | (rw [if_neg (by decide +kernel)]; exact ⟨rfl, rfl⟩))
    (fun os started H enc _ => natSums_lifted os started H enc)

end Go.Proofs.Ythibjnhhcchlpaa
