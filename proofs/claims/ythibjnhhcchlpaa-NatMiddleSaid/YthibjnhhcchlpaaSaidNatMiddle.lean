/-
  Proved: for every input the law NatMiddle returns true, and each argument reads behind the call as it read before. Conditions: none.
-/
import Derived.Test.YthibjnhhcchlpaaLaw01
import Derived.Test.YthibjnhhcchlpaaFrame
namespace Go.Proofs.Ythibjnhhcchlpaa
open Go.ChangeShapes Go.WideShapes Go.ChangeAt Go.RowKit

theorem natMiddle_told {H : Type} {enc : TypeId × Value → H} {W : World} {base : Nat} {args : Array Value} {ds : List (DataW H)} (h : Told enc Try.f6 W base args ds) :
    ∃ (lo : Int) (hi : Int), args = #[.int .i64 lo, .int .i64 hi] ∧ -9223372036854775808 ≤ lo ∧ lo ≤ 9223372036854775807 ∧ -9223372036854775808 ≤ hi ∧ hi ≤ 9223372036854775807 := by
  obtain ⟨hval, ⟨p, hA⟩, -⟩ := h
  rw [Try.params6] at hA hval
  obtain ⟨v0, vs0, d0, ds0, p0, q0, hargs, rfl, rfl, h0, r0⟩ := trodAll_cons hA
  obtain ⟨v1, vs1, d1, ds1, p1, q1, rfl, rfl, rfl, h1, r1⟩ := trodAll_cons r0
  obtain ⟨rfl, rfl, rfl⟩ := trodAll_nil r1
  obtain rfl : args = #[v0, v1] := by cases args; simp_all
  obtain ⟨lo, rfl, lo_lo, lo_hi⟩ := in_int Try.underlying3 (hval 0 3 v0 rfl rfl) h0
  obtain ⟨hi, rfl, hi_lo, hi_hi⟩ := in_int Try.underlying3 (hval 1 3 v1 rfl rfl) h1
  exact ⟨lo, hi, rfl, lo_lo, lo_hi, hi_lo, hi_hi⟩
theorem natMiddle_answers : Answers Rows.natMiddleSpec 2 := ⟨rfl, fun H ds h => by match ds, h with | [_, _], _ => rfl⟩
set_option maxRecDepth 100000 in
theorem natMiddle_lifted (os : Os) (started : os.Started) (H : Type) (enc : TypeId × Value → H) :
    ReturnsInHanded {} Try.checked os 6 .any (Rows.natMiddleSpec.pre6 enc Try.prog Try.f6 Rows.natMiddleRow.domain false) (Rows.natMiddleSpec.post enc Try.prog Try.f6 false true false false) := by
  refine returnsInHanded_of_change_sized (C := Try.checked) own started (by kernel_rfl) Try.func6
    (ChangeSpec.witness6 (enc := enc) (C := Try.checked) false ⟨#[], #[.int .i64 0, .int .i64 0], []⟩ 8 (by kernel_rfl) (by kernel_rfl) (by kernel_rfl) (by kernel_rfl)) ?_
  intro W base args ds gs before hval hW _ hsz _
  refine law_contract 6 Try.f6 Rows.natMiddleSpec natMiddle_answers rfl (by kernel_rfl) base args ds gs before hval hW hsz fun ht => ?_
  obtain ⟨lo, hi, rfl, lo_lo, lo_hi, hi_lo, hi_hi⟩ := natMiddle_told ht
  exact natMiddle_walk lo hi lo_lo lo_hi hi_lo hi_hi W
theorem natMiddle_holds : Rows.NatMiddleSaid :=
  OpenClaim.holds_of_wide 6 Try.f6 rfl rfl rfl rfl rfl rfl rfl ⟨rfl, rfl, rfl, rfl, rfl⟩ rfl rfl rfl rfl rfl (by kernel_rfl) Try.func6 (by kernel_rfl)
    (of_decide_eq_true (by kernel_rfl)) (by unfold Func.isWrapper; first | (rw [if_pos (by decide +kernel)]; kernel_rfl) | (rw [if_neg (by decide +kernel)]; exact ⟨rfl, rfl⟩))
    (fun os started H enc _ => natMiddle_lifted os started H enc)

end Go.Proofs.Ythibjnhhcchlpaa
