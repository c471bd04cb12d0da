/-
  Proved: for every input the law KeyNext returns true, and each argument reads behind the call as it read before. Conditions: none.
-/
import Derived.Test.YthfonmdhbnfmnaaFrame
import Derived.Test.YthfonmdhbnfmnaaOpen
import Derived.Test.YthfonmdhbnfmnaaLaw06B
namespace Go.Proofs.Ythfonmdhbnfmnaa
open Go.ChangeShapes Go.WideShapes Go.ChangeAt Go.RowKit

theorem keyNext_told {H : Type} {enc : TypeId × Value → H} {W : World} {base : Nat} {args : Array Value} {ds : List (DataW H)} (h : Told enc Try.f4 W base args ds) :
    ∃ (s : List UInt8) (t : List UInt8), args = #[.string (str s), .string (str t)] ∧ s.length ≤ maxLen ∧ t.length ≤ maxLen := by
  obtain ⟨hval, ⟨p, hA⟩, -⟩ := h
  rw [Try.params4] at hA hval
  obtain ⟨v0, vs0, d0, ds0, p0, q0, hargs, rfl, rfl, h0, r0⟩ := trodAll_cons hA
  obtain ⟨v1, vs1, d1, ds1, p1, q1, rfl, rfl, rfl, h1, r1⟩ := trodAll_cons r0
  obtain ⟨rfl, rfl, rfl⟩ := trodAll_nil r1
  obtain rfl : args = #[v0, v1] := by cases args; simp_all
  obtain ⟨s, rfl, s_len⟩ := in_str Try.underlying9 (hval 0 9 v0 rfl rfl) h0
  obtain ⟨t, rfl, t_len⟩ := in_str Try.underlying9 (hval 1 9 v1 rfl rfl) h1
  exact ⟨s, t, rfl, s_len, t_len⟩
theorem keyNext_answers : Answers Rows.keyNextSpec 2 := ⟨rfl, fun H ds h => by match ds, h with | [_, _], _ => rfl⟩
set_option maxRecDepth 100000 in
theorem keyNext_lifted (os : Os) (started : os.Started) (H : Type) (enc : TypeId × Value → H) :
    ReturnsInHanded {} Try.checked os 4 .any (Rows.keyNextSpec.pre6 enc Try.prog Try.f4 Rows.keyNextRow.domain false) (Rows.keyNextSpec.post enc Try.prog Try.f4 false true false false) := by
  refine returnsInHanded_of_change_sized (C := Try.checked) own started (by kernel_rfl) Try.func4
    (ChangeSpec.witness6 (enc := enc) (C := Try.checked) false ⟨#[], #[.string ⟨#[]⟩, .string ⟨#[]⟩], []⟩ 8 (by kernel_rfl) (by kernel_rfl) (by kernel_rfl) (by kernel_rfl)) ?_
  intro W base args ds gs before hval hW _ hsz _
  refine law_contract 4 Try.f4 Rows.keyNextSpec keyNext_answers rfl (by kernel_rfl) base args ds gs before hval hW hsz fun ht => ?_
  obtain ⟨s, t, rfl, _, _⟩ := keyNext_told ht
  exact keyNext_walk s t _
theorem keyNext_holds : Rows.KeyNextSaid :=
  OpenClaim.holds_of_wide 4 Try.f4 rfl rfl rfl rfl rfl rfl rfl ⟨rfl, rfl, rfl, rfl, rfl⟩ rfl rfl rfl rfl rfl (by kernel_rfl) Try.func4 (by kernel_rfl)
    (of_decide_eq_true (by kernel_rfl)) (by unfold Func.isWrapper; first | (rw [if_pos (by decide +kernel)]; kernel_rfl) | (rw [if_neg (by decide +kernel)]; exact ⟨rfl, rfl⟩))
    (fun os started H enc _ => keyNext_lifted os started H enc)

end Go.Proofs.Ythfonmdhbnfmnaa
