/-
  Proved: for every input the law KeyTotal returns true, and each argument reads behind the call as it read before. Conditions: none.
-/
import Derived.Test.YthfonmdhbnfmnaaFrame
import Derived.Test.YthfonmdhbnfmnaaOpen
import Derived.Test.YthfonmdhbnfmnaaLaw06A
namespace Go.Proofs.Ythfonmdhbnfmnaa
open Go.ChangeShapes Go.WideShapes Go.ChangeAt Go.RowKit

theorem keyTotal_told {H : Type} {enc : TypeId × Value → H} {W : World} {base : Nat} {args : Array Value} {ds : List (DataW H)} (h : Told enc Try.f6 W base args ds) :
    ∃ (a : List UInt8) (b : List UInt8) (c : List UInt8), args = #[.string (str a), .string (str b), .string (str c)] ∧ a.length ≤ maxLen ∧ b.length ≤ maxLen ∧ c.length ≤ maxLen := by
  obtain ⟨hval, ⟨p, hA⟩, -⟩ := h
  rw [Try.params6] at hA hval
  obtain ⟨v0, vs0, d0, ds0, p0, q0, hargs, rfl, rfl, h0, r0⟩ := trodAll_cons hA
  obtain ⟨v1, vs1, d1, ds1, p1, q1, rfl, rfl, rfl, h1, r1⟩ := trodAll_cons r0
  obtain ⟨v2, vs2, d2, ds2, p2, q2, rfl, rfl, rfl, h2, r2⟩ := trodAll_cons r1
  obtain ⟨rfl, rfl, rfl⟩ := trodAll_nil r2
  obtain rfl : args = #[v0, v1, v2] := by cases args; simp_all
  obtain ⟨a, rfl, a_len⟩ := in_str Try.underlying9 (hval 0 9 v0 rfl rfl) h0
  obtain ⟨b, rfl, b_len⟩ := in_str Try.underlying9 (hval 1 9 v1 rfl rfl) h1
  obtain ⟨c, rfl, c_len⟩ := in_str Try.underlying9 (hval 2 9 v2 rfl rfl) h2
  exact ⟨a, b, c, rfl, a_len, b_len, c_len⟩
theorem keyTotal_answers : Answers Rows.keyTotalSpec 3 := ⟨rfl, fun H ds h => by match ds, h with | [_, _, _], _ => rfl⟩
set_option maxRecDepth 100000 in
theorem keyTotal_lifted (os : Os) (started : os.Started) (H : Type) (enc : TypeId × Value → H) :
    ReturnsInHanded {} Try.checked os 6 .any (Rows.keyTotalSpec.pre6 enc Try.prog Try.f6 Rows.keyTotalRow.domain false) (Rows.keyTotalSpec.post enc Try.prog Try.f6 false true false false) := by
  refine returnsInHanded_of_change_sized (C := Try.checked) own started (by kernel_rfl) Try.func6
    (ChangeSpec.witness6 (enc := enc) (C := Try.checked) false ⟨#[], #[.string ⟨#[]⟩, .string ⟨#[]⟩, .string ⟨#[]⟩], []⟩ 8 (by kernel_rfl) (by kernel_rfl) (by kernel_rfl) (by kernel_rfl)) ?_
  intro W base args ds gs before hval hW _ hsz _
  refine law_contract 6 Try.f6 Rows.keyTotalSpec keyTotal_answers rfl (by kernel_rfl) base args ds gs before hval hW hsz fun ht => ?_
  obtain ⟨a, b, c, rfl, _, _, _⟩ := keyTotal_told ht
  exact keyTotal_walk a b c _
theorem keyTotal_holds : Rows.KeyTotalSaid :=
  OpenClaim.holds_of_wide 6 Try.f6 rfl rfl rfl rfl rfl rfl rfl ⟨rfl, rfl, rfl, rfl, rfl⟩ rfl rfl rfl rfl rfl (by kernel_rfl) Try.func6 (by kernel_rfl)
    (of_decide_eq_true (by kernel_rfl)) (by unfold Func.isWrapper; first | (rw [if_pos (by decide +kernel)]; kernel_rfl) | (rw [if_neg (by decide +kernel)]; exact ⟨rfl, rfl⟩))
    (fun os started H enc _ => keyTotal_lifted os started H enc)

end Go.Proofs.Ythfonmdhbnfmnaa
