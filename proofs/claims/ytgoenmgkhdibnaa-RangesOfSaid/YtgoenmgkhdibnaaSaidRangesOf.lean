/-
  Proved: for every input the law RangesOf returns true, and each argument reads behind the call as it read before. Conditions: none.
-/
import Derived.Test.YtgoenmgkhdibnaaFrame
import Derived.Test.YtgoenmgkhdibnaaOpen
import Derived.Test.YtgoenmgkhdibnaaOpenRngs
import Derived.Test.YtgoenmgkhdibnaaLaw08H
namespace Go.Proofs.Ytgoenmgkhdibnaa
open Go.ChangeShapes Go.WideShapes Go.ChangeAt Go.RowKit

theorem rangesOf_told {H : Type} {enc : TypeId × Value → H} {W : World} {base : Nat} {args : Array Value} {ds : List (DataW H)} (h : Told enc Try.f3 W base args ds) :
    ∃ (A_l : Option Addr) (c_l : Nat) (l : List Rng) (s : List UInt8), args = #[.slice A_l l.length c_l, .string (str s)] ∧ kRng.Rd W W.heap.size A_l c_l l ∧ s.length ≤ maxLen := by
  obtain ⟨hval, ⟨p, hA⟩, -⟩ := h
  rw [Try.params3] at hA hval
  obtain ⟨v0, vs0, d0, ds0, p0, q0, hargs, rfl, rfl, h0, r0⟩ := trodAll_cons hA
  obtain ⟨v1, vs1, d1, ds1, p1, q1, rfl, rfl, rfl, h1, r1⟩ := trodAll_cons r0
  obtain ⟨rfl, rfl, rfl⟩ := trodAll_nil r1
  obtain rfl : args = #[v0, v1] := by cases args; simp_all
  obtain ⟨A_l, c_l, l, rfl, l_rd⟩ := in_rngs (hval 0 22 v0 rfl rfl) h0
  obtain ⟨s, rfl, s_len⟩ := in_str Try.underlying9 (hval 1 9 v1 rfl rfl) h1
  exact ⟨A_l, c_l, l, s, rfl, l_rd, s_len⟩
theorem rangesOf_answers : Answers Rows.rangesOfSpec 2 := ⟨rfl, fun H ds h => by match ds, h with | [_, _], _ => rfl⟩
set_option maxRecDepth 100000 in
theorem rangesOf_lifted (os : Os) (started : os.Started) (H : Type) (enc : TypeId × Value → H) :
    ReturnsInHanded {} Try.checked os 3 .any (Rows.rangesOfSpec.pre6 enc Try.prog Try.f3 Rows.rangesOfRow.domain false) (Rows.rangesOfSpec.post enc Try.prog Try.f3 false true false false) := by
  refine returnsInHanded_of_change_sized (C := Try.checked) own started (by kernel_rfl) Try.func3
    (ChangeSpec.witness6 (enc := enc) (C := Try.checked) false ⟨#[], #[.slice none 0 0, .string ⟨#[]⟩], []⟩ 8 (by kernel_rfl) (by kernel_rfl) (by kernel_rfl) (by kernel_rfl)) ?_
  intro W base args ds gs before hval hW _ hsz _
  refine law_contract 3 Try.f3 Rows.rangesOfSpec rangesOf_answers rfl (by kernel_rfl) base args ds gs before hval hW hsz fun ht => ?_
  obtain ⟨A_l, c_l, l, s, rfl, l_rd, _⟩ := rangesOf_told ht
  exact rangesOf_walk k_of k_not k_right k_has A_l c_l _ l s rfl _ l_rd
theorem rangesOf_holds : Rows.RangesOfSaid :=
  OpenClaim.holds_of_wide 3 Try.f3 rfl rfl rfl rfl rfl rfl rfl ⟨rfl, rfl, rfl, rfl, rfl⟩ rfl rfl rfl rfl rfl (by kernel_rfl) Try.func3 (by kernel_rfl)
    (of_decide_eq_true (by kernel_rfl)) (by unfold Func.isWrapper; first | (rw [if_pos (by decide +kernel)]; kernel_rfl) | (rw [if_neg (by decide +kernel)]; exact ⟨rfl, rfl⟩))
    (fun os started H enc _ => rangesOf_lifted os started H enc)

end Go.Proofs.Ytgoenmgkhdibnaa
