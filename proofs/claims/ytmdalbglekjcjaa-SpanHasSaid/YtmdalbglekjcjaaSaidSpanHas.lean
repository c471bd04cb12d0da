/-
  Proved: for every input the law SpanHas returns true, and each argument reads behind the call as it read before. Conditions: none.
-/
import Derived.Test.YtmdalbglekjcjaaFrame
import Derived.Test.YtmdalbglekjcjaaOpen
import Derived.Test.YtmdalbglekjcjaaOpenRng
import Derived.Test.YtmdalbglekjcjaaLaw07C
namespace Go.Proofs.Ytmdalbglekjcjaa
open Go.ChangeShapes Go.WideShapes Go.ChangeAt Go.RowKit

theorem spanHas_told {H : Type} {enc : TypeId × Value → H} {W : World} {base : Nat} {args : Array Value} {ds : List (DataW H)} (h : Told enc Try.f3 W base args ds) :
    ∃ (r : Rng) (s : List UInt8) (t : List UInt8), args = #[.agg #[.string (str r.lo), .string (str r.hi), .bool r.op], .string (str s), .string (str t)] ∧ r.lo.length ≤ maxLen ∧ r.hi.length ≤ maxLen ∧ s.length ≤ maxLen ∧ t.length ≤ maxLen := by
  obtain ⟨hval, ⟨p, hA⟩, -⟩ := h
  rw [Try.params3] at hA hval
  obtain ⟨v0, vs0, d0, ds0, p0, q0, hargs, rfl, rfl, h0, r0⟩ := trodAll_cons hA
  obtain ⟨v1, vs1, d1, ds1, p1, q1, rfl, rfl, rfl, h1, r1⟩ := trodAll_cons r0
  obtain ⟨v2, vs2, d2, ds2, p2, q2, rfl, rfl, rfl, h2, r2⟩ := trodAll_cons r1
  obtain ⟨rfl, rfl, rfl⟩ := trodAll_nil r2
  obtain rfl : args = #[v0, v1, v2] := by cases args; simp_all
  obtain ⟨r, rfl, r_lo, r_hi⟩ := in_rng (hval 0 23 v0 rfl rfl) h0
  obtain ⟨s, rfl, s_len⟩ := in_str Try.underlying9 (hval 1 9 v1 rfl rfl) h1
  obtain ⟨t, rfl, t_len⟩ := in_str Try.underlying9 (hval 2 9 v2 rfl rfl) h2
  exact ⟨r, s, t, rfl, r_lo, r_hi, s_len, t_len⟩
theorem spanHas_answers : Answers Rows.spanHasSpec 3 := ⟨rfl, fun H ds h => by match ds, h with | [_, _, _], _ => rfl⟩
set_option maxRecDepth 100000 in
theorem spanHas_lifted (os : Os) (started : os.Started) (H : Type) (enc : TypeId × Value → H) :
    ReturnsInHanded {} Try.checked os 3 .any (Rows.spanHasSpec.pre6 enc Try.prog Try.f3 Rows.spanHasRow.domain false) (Rows.spanHasSpec.post enc Try.prog Try.f3 false true false false) := by
  refine returnsInHanded_of_change_sized (C := Try.checked) own started (by kernel_rfl) Try.func3
    (ChangeSpec.witness6 (enc := enc) (C := Try.checked) false ⟨#[], #[.agg #[.string ⟨#[]⟩, .string ⟨#[]⟩, .bool false], .string ⟨#[]⟩, .string ⟨#[]⟩], []⟩ 8 (by kernel_rfl) (by kernel_rfl) (by kernel_rfl) (by kernel_rfl)) ?_
  intro W base args ds gs before hval hW _ hsz _
  refine law_contract 3 Try.f3 Rows.spanHasSpec spanHas_answers rfl (by kernel_rfl) base args ds gs before hval hW hsz fun ht => ?_
  obtain ⟨r, s, t, rfl, _, _, _, _⟩ := spanHas_told ht
  exact spanHas_walk r s t _
theorem spanHas_holds : Rows.SpanHasSaid :=
  OpenClaim.holds_of_wide 3 Try.f3 rfl rfl rfl rfl rfl rfl rfl ⟨rfl, rfl, rfl, rfl, rfl⟩ rfl rfl rfl rfl rfl (by kernel_rfl) Try.func3 (by kernel_rfl)
    (of_decide_eq_true (by kernel_rfl)) (by unfold Func.isWrapper; first | (rw [if_pos (by decide +kernel)]; kernel_rfl) | (rw [if_neg (by decide +kernel)]; exact ⟨rfl, rfl⟩))
    (fun os started H enc _ => spanHas_lifted os started H enc)

end Go.Proofs.Ytmdalbglekjcjaa
