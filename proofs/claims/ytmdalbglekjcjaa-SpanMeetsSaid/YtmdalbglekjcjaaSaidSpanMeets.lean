/-
  Proved: for every input the law SpanMeets returns true, and each argument reads behind the call as it read before. Conditions: none.
-/
import Derived.Test.YtmdalbglekjcjaaFrame
import Derived.Test.YtmdalbglekjcjaaOpen
import Derived.Test.YtmdalbglekjcjaaOpenRng
import Derived.Test.YtmdalbglekjcjaaLaw07G
namespace Go.Proofs.Ytmdalbglekjcjaa
open Go.ChangeShapes Go.WideShapes Go.ChangeAt Go.RowKit

theorem spanMeets_told {H : Type} {enc : TypeId × Value → H} {W : World} {base : Nat} {args : Array Value} {ds : List (DataW H)} (h : Told enc Try.f4 W base args ds) :
    ∃ (a : Rng) (b : Rng) (s : List UInt8), args = #[.agg #[.string (str a.lo), .string (str a.hi), .bool a.op], .agg #[.string (str b.lo), .string (str b.hi), .bool b.op], .string (str s)] ∧ a.lo.length ≤ maxLen ∧ a.hi.length ≤ maxLen ∧ b.lo.length ≤ maxLen ∧ b.hi.length ≤ maxLen ∧ s.length ≤ maxLen := by
  obtain ⟨hval, ⟨p, hA⟩, -⟩ := h
  rw [Try.params4] at hA hval
  obtain ⟨v0, vs0, d0, ds0, p0, q0, hargs, rfl, rfl, h0, r0⟩ := trodAll_cons hA
  obtain ⟨v1, vs1, d1, ds1, p1, q1, rfl, rfl, rfl, h1, r1⟩ := trodAll_cons r0
  obtain ⟨v2, vs2, d2, ds2, p2, q2, rfl, rfl, rfl, h2, r2⟩ := trodAll_cons r1
  obtain ⟨rfl, rfl, rfl⟩ := trodAll_nil r2
  obtain rfl : args = #[v0, v1, v2] := by cases args; simp_all
  obtain ⟨a, rfl, a_lo, a_hi⟩ := in_rng (hval 0 23 v0 rfl rfl) h0
  obtain ⟨b, rfl, b_lo, b_hi⟩ := in_rng (hval 1 23 v1 rfl rfl) h1
  obtain ⟨s, rfl, s_len⟩ := in_str Try.underlying9 (hval 2 9 v2 rfl rfl) h2
  exact ⟨a, b, s, rfl, a_lo, a_hi, b_lo, b_hi, s_len⟩
theorem spanMeets_answers : Answers Rows.spanMeetsSpec 3 := ⟨rfl, fun H ds h => by match ds, h with | [_, _, _], _ => rfl⟩
set_option maxRecDepth 100000 in
theorem spanMeets_lifted (os : Os) (started : os.Started) (H : Type) (enc : TypeId × Value → H) :
    ReturnsInHanded {} Try.checked os 4 .any (Rows.spanMeetsSpec.pre6 enc Try.prog Try.f4 Rows.spanMeetsRow.domain false) (Rows.spanMeetsSpec.post enc Try.prog Try.f4 false true false false) := by
  refine returnsInHanded_of_change_sized (C := Try.checked) own started (by kernel_rfl) Try.func4
    (ChangeSpec.witness6 (enc := enc) (C := Try.checked) false ⟨#[], #[.agg #[.string ⟨#[]⟩, .string ⟨#[]⟩, .bool false], .agg #[.string ⟨#[]⟩, .string ⟨#[]⟩, .bool false], .string ⟨#[]⟩], []⟩ 8 (by kernel_rfl) (by kernel_rfl) (by kernel_rfl) (by kernel_rfl)) ?_
  intro W base args ds gs before hval hW _ hsz _
  refine law_contract 4 Try.f4 Rows.spanMeetsSpec spanMeets_answers rfl (by kernel_rfl) base args ds gs before hval hW hsz fun ht => ?_
  obtain ⟨a, b, s, rfl, _, _, _, _, _⟩ := spanMeets_told ht
  exact spanMeets_walk a b s _
theorem spanMeets_holds : Rows.SpanMeetsSaid :=
  OpenClaim.holds_of_wide 4 Try.f4 rfl rfl rfl rfl rfl rfl rfl ⟨rfl, rfl, rfl, rfl, rfl⟩ rfl rfl rfl rfl rfl (by kernel_rfl) Try.func4 (by kernel_rfl)
    (of_decide_eq_true (by kernel_rfl)) (by unfold Func.isWrapper; first | (rw [if_pos (by decide +kernel)]; kernel_rfl) | (rw [if_neg (by decide +kernel)]; exact ⟨rfl, rfl⟩))
    (fun os started H enc _ => spanMeets_lifted os started H enc)

end Go.Proofs.Ytmdalbglekjcjaa
