/-
  Proved: for every input the law SpanEnds returns true, and each argument reads behind the call as it read before. Conditions: none.
-/
import Derived.Test.YtmdalbglekjcjaaFrame
import Derived.Test.YtmdalbglekjcjaaOpen
import Derived.Test.YtmdalbglekjcjaaOpenRng
import Derived.Test.YtmdalbglekjcjaaLaw07B
namespace Go.Proofs.Ytmdalbglekjcjaa
open Go.ChangeShapes Go.WideShapes Go.ChangeAt Go.RowKit

theorem spanEnds_told {H : Type} {enc : TypeId × Value → H} {W : World} {base : Nat} {args : Array Value} {ds : List (DataW H)} (h : Told enc Try.f5 W base args ds) :
    ∃ (a : Rng) (b : Rng), args = #[.agg #[.string (str a.lo), .string (str a.hi), .bool a.op], .agg #[.string (str b.lo), .string (str b.hi), .bool b.op]] ∧ a.lo.length ≤ maxLen ∧ a.hi.length ≤ maxLen ∧ b.lo.length ≤ maxLen ∧ b.hi.length ≤ maxLen := by
  obtain ⟨hval, ⟨p, hA⟩, -⟩ := h
  rw [Try.params5] at hA hval
  obtain ⟨v0, vs0, d0, ds0, p0, q0, hargs, rfl, rfl, h0, r0⟩ := trodAll_cons hA
  obtain ⟨v1, vs1, d1, ds1, p1, q1, rfl, rfl, rfl, h1, r1⟩ := trodAll_cons r0
  obtain ⟨rfl, rfl, rfl⟩ := trodAll_nil r1
  obtain rfl : args = #[v0, v1] := by cases args; simp_all
  obtain ⟨a, rfl, a_lo, a_hi⟩ := in_rng (hval 0 23 v0 rfl rfl) h0
  obtain ⟨b, rfl, b_lo, b_hi⟩ := in_rng (hval 1 23 v1 rfl rfl) h1
  exact ⟨a, b, rfl, a_lo, a_hi, b_lo, b_hi⟩
theorem spanEnds_answers : Answers Rows.spanEndsSpec 2 := ⟨rfl, fun H ds h => by match ds, h with | [_, _], _ => rfl⟩
set_option maxRecDepth 100000 in
theorem spanEnds_lifted (os : Os) (started : os.Started) (H : Type) (enc : TypeId × Value → H) :
    ReturnsInHanded {} Try.checked os 5 .any (Rows.spanEndsSpec.pre6 enc Try.prog Try.f5 Rows.spanEndsRow.domain false) (Rows.spanEndsSpec.post enc Try.prog Try.f5 false true false false) := by
  refine returnsInHanded_of_change_sized (C := Try.checked) own started (by kernel_rfl) Try.func5
    (ChangeSpec.witness6 (enc := enc) (C := Try.checked) false ⟨#[], #[.agg #[.string ⟨#[]⟩, .string ⟨#[]⟩, .bool false], .agg #[.string ⟨#[]⟩, .string ⟨#[]⟩, .bool false]], []⟩ 8 (by kernel_rfl) (by kernel_rfl) (by kernel_rfl) (by kernel_rfl)) ?_
  intro W base args ds gs before hval hW _ hsz _
  refine law_contract 5 Try.f5 Rows.spanEndsSpec spanEnds_answers rfl (by kernel_rfl) base args ds gs before hval hW hsz fun ht => ?_
  obtain ⟨a, b, rfl, _, _, _, _⟩ := spanEnds_told ht
  exact spanEnds_walk a b _
theorem spanEnds_holds : Rows.SpanEndsSaid :=
  OpenClaim.holds_of_wide 5 Try.f5 rfl rfl rfl rfl rfl rfl rfl ⟨rfl, rfl, rfl, rfl, rfl⟩ rfl rfl rfl rfl rfl (by kernel_rfl) Try.func5 (by kernel_rfl)
    (of_decide_eq_true (by kernel_rfl)) (by unfold Func.isWrapper; first | (rw [if_pos (by decide +kernel)]; kernel_rfl) | (rw [if_neg (by decide +kernel)]; exact ⟨rfl, rfl⟩))
    (fun os started H enc _ => spanEnds_lifted os started H enc)

end Go.Proofs.Ytmdalbglekjcjaa
