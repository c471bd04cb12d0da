/-
  Proved: for every input the law KeyOrder returns true, and each argument reads behind the call as it read before. Conditions: none.
-/
import Derived.Test.YthfonmdhbnfmnaaFrame
import Derived.Test.YthfonmdhbnfmnaaOpen
import Derived.Test.YthfonmdhbnfmnaaLaw06A
namespace Go.Proofs.Ythfonmdhbnfmnaa
open Go.ChangeShapes Go.WideShapes Go.ChangeAt Go.RowKit

theorem keyOrder_told {H : Type} {enc : TypeId × Value → H} {W : World} {base : Nat} {args : Array Value} {ds : List (DataW H)} (h : Told enc Try.f3 W base args ds) :
    ∃ (a : List UInt8) (b : List UInt8), args = #[.string (str a), .string (str b)] ∧ a.length ≤ maxLen ∧ b.length ≤ maxLen := by
  obtain ⟨hval, ⟨p, hA⟩, -⟩ := h
  rw [Try.params3] at hA hval
  obtain ⟨v0, vs0, d0, ds0, p0, q0, hargs, rfl, rfl, h0, r0⟩ := trodAll_cons hA
  obtain ⟨v1, vs1, d1, ds1, p1, q1, rfl, rfl, rfl, h1, r1⟩ := trodAll_cons r0
  obtain ⟨rfl, rfl, rfl⟩ := trodAll_nil r1
  obtain rfl : args = #[v0, v1] := by cases args; simp_all
  obtain ⟨a, rfl, a_len⟩ := in_str Try.underlying9 (hval 0 9 v0 rfl rfl) h0
  obtain ⟨b, rfl, b_len⟩ := in_str Try.underlying9 (hval 1 9 v1 rfl rfl) h1
  exact ⟨a, b, rfl, a_len, b_len⟩
theorem keyOrder_answers : Answers Rows.keyOrderSpec 2 := ⟨rfl, fun H ds h => by match ds, h with | [_, _], _ => rfl⟩
set_option maxRecDepth 100000 in
theorem keyOrder_lifted (os : Os) (started : os.Started) (H : Type) (enc : TypeId × Value → H) :
    ReturnsInHanded {} Try.checked os 3 .any (Rows.keyOrderSpec.pre6 enc Try.prog Try.f3 Rows.keyOrderRow.domain false) (Rows.keyOrderSpec.post enc Try.prog Try.f3 false true false false) := by
  refine returnsInHanded_of_change_sized (C := Try.checked) own started (by kernel_rfl) Try.func3
    (ChangeSpec.witness6 (enc := enc) (C := Try.checked) false ⟨#[], #[.string ⟨#[]⟩, .string ⟨#[]⟩], []⟩ 8 (by kernel_rfl) (by kernel_rfl) (by kernel_rfl) (by kernel_rfl)) ?_
  intro W base args ds gs before hval hW _ hsz _
  refine law_contract 3 Try.f3 Rows.keyOrderSpec keyOrder_answers rfl (by kernel_rfl) base args ds gs before hval hW hsz fun ht => ?_
  obtain ⟨a, b, rfl, _, _⟩ := keyOrder_told ht
  exact keyOrder_walk a b _
theorem keyOrder_holds : Rows.KeyOrderSaid :=
  OpenClaim.holds_of_wide 3 Try.f3 rfl rfl rfl rfl rfl rfl rfl ⟨rfl, rfl, rfl, rfl, rfl⟩ rfl rfl rfl rfl rfl (by kernel_rfl) Try.func3 (by kernel_rfl)
    (of_decide_eq_true (by kernel_rfl)) (by unfold Func.isWrapper; first | (rw [if_pos (by decide +kernel)]; kernel_rfl) | (rw [if_neg (by decide +kernel)]; exact ⟨rfl, rfl⟩))
    (fun os started H enc _ => keyOrder_lifted os started H enc)

end Go.Proofs.Ythfonmdhbnfmnaa
