/-
  Proved: for every input the law RangesOf returns true, and each argument reads behind the call as it read before. Conditions: none.
-/
import Derived.Test.YtgoenmgkhdibnaaFrame
import Derived.Test.YtgoenmgkhdibnaaOpen
import Derived.Test.YtgoenmgkhdibnaaOpenRngs
import Derived.Test.YtgoenmgkhdibnaaLaw08H
namespace Go.Proofs.Ytgoenmgkhdibnaa
open Go.ChangeShapes Go.WideShapes Go.ChangeAt Go.RowKit

theorem rangesOf_told {H : Type} {enc : TypeId × Value → H} {W : World} {base : Nat} {args : Array Value} {ds : List (DataW H)} (h : Told enc Try.f3 W base args ds) :
    ∃ (A_l : Option Addr) (c_l : Nat) (l : List Rng) (s : List UInt8), args = #[.slice A_l l.length c_l, .string (str s)] ∧ kRng.Rd W W.heap.size A_l c_l l ∧ s.length ≤ maxLen := by
  obtain ⟨hval, ⟨p, hA⟩, -⟩ := h
  rw [Try.params3] at hA hval
  obtain ⟨v0, vs0, d0, ds0, p0, q0, hargs, rfl, rfl, h0, r0⟩ := trodAll_cons hA
  obtain ⟨v1, vs1, d1, ds1, p1, q1, rfl, rfl, rfl, h1, r1⟩ := trodAll_cons r0
  obtain ⟨rfl, rfl, rfl⟩ := trodAll_nil r1
  obtain rfl : args = #[v0, v1] := by cases args; simp_all
  obtain ⟨A_l, c_l, l, rfl, l_rd⟩ := in_rngs (hval 0 22 v0 rfl rfl) h0
  obtain ⟨s, rfl, s_len⟩ := in_str Try.underlying9 (hval 1 9 v1 rfl rfl) h1
  exact ⟨A_l, c_l, l, s, rfl, l_rd, s_len⟩
theorem rangesOf_answers : Answers Rows.rangesOfSpec 2 := ⟨rfl, fun H ds h => by match ds, h with | [_, _], _ => rfl⟩
end Go.Proofs.Ytgoenmgkhdibnaa
