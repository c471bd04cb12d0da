/-
  Proved: for every input the law VarintPuts returns true, and each argument reads behind the call as it read before. Conditions: none.
-/
import Derived.Test.YtmpiklhgflnglaaFrame
import Derived.Test.YtmpiklhgflnglaaOpen
import Derived.Test.YtmpiklhgflnglaaLaw02C
namespace Go.Proofs.Ytmpiklhgflnglaa
open Go.ChangeShapes Go.WideShapes Go.ChangeAt Go.RowKit

theorem varintPuts_told {H : Type} {enc : TypeId × Value → H} {W : World} {base : Nat} {args : Array Value} {ds : List (DataW H)} (h : Told enc Try.f3 W base args ds) :
    ∃ (A_b : Option Addr) (c_b : Nat) (b : List UInt8) (A_l : Option Addr) (c_l : Nat) (l : List Int) (A_s : Option Addr) (c_s : Nat) (s : List (List UInt8)), args = #[.slice A_b b.length c_b, .slice A_l l.length c_l, .slice A_s s.length c_s] ∧ RdB W W.heap.size A_b c_b b ∧ RowAt W W.heap.size A_l (ints l) ∧ AllI64 l ∧ l.length ≤ c_l ∧ c_l ≤ maxLen ∧ RowAt W W.heap.size A_s (strs s) ∧ (∀ y ∈ s, y.length ≤ maxLen) ∧ s.length ≤ c_s ∧ c_s ≤ maxLen := by
  obtain ⟨hval, ⟨p, hA⟩, -⟩ := h
  rw [Try.params3] at hA hval
  obtain ⟨v0, vs0, d0, ds0, p0, q0, hargs, rfl, rfl, h0, r0⟩ := trodAll_cons hA
  obtain ⟨v1, vs1, d1, ds1, p1, q1, rfl, rfl, rfl, h1, r1⟩ := trodAll_cons r0
  obtain ⟨v2, vs2, d2, ds2, p2, q2, rfl, rfl, rfl, h2, r2⟩ := trodAll_cons r1
  obtain ⟨rfl, rfl, rfl⟩ := trodAll_nil r2
  obtain rfl : args = #[v0, v1, v2] := by cases args; simp_all
  obtain ⟨A_b, c_b, b, rfl, b_rd⟩ := in_bytes Try.underlying22 Try.underlying5 (by kernel_rfl) (hval 0 22 v0 rfl rfl) h0
  obtain ⟨A_l, c_l, l, rfl, l_row, l_all, l_cap, l_max⟩ := in_ints Try.underlying23 Try.underlying3 (by kernel_rfl) (hval 1 23 v1 rfl rfl) h1
  obtain ⟨A_s, c_s, s, rfl, s_row, s_all, s_cap, s_max⟩ := in_strs Try.underlying24 Try.underlying9 (by kernel_rfl) (hval 2 24 v2 rfl rfl) h2
  exact ⟨A_b, c_b, b, A_l, c_l, l, A_s, c_s, s, rfl, b_rd, l_row, l_all, l_cap, l_max, s_row, s_all, s_cap, s_max⟩
theorem varintPuts_answers : Answers Rows.varintPutsSpec 3 := ⟨rfl, fun H ds h => by match ds, h with | [_, _, _], _ => rfl⟩
set_option maxRecDepth 100000 in
theorem varintPuts_lifted (os : Os) (started : os.Started) (H : Type) (enc : TypeId × Value → H) :
    ReturnsInHanded {} Try.checked os 3 .any (Rows.varintPutsSpec.pre6 enc Try.prog Try.f3 Rows.varintPutsRow.domain false) (Rows.varintPutsSpec.post enc Try.prog Try.f3 false true false false) := by
  refine returnsInHanded_of_change_sized (C := Try.checked) own started (by kernel_rfl) Try.func3
    (ChangeSpec.witness6 (enc := enc) (C := Try.checked) false ⟨#[], #[.slice none 0 0, .slice none 0 0, .slice none 0 0], []⟩ 8 (by kernel_rfl) (by kernel_rfl) (by kernel_rfl) (by kernel_rfl)) ?_
  intro W base args ds gs before hval hW _ hsz _
  refine law_contract 3 Try.f3 Rows.varintPutsSpec varintPuts_answers rfl (by kernel_rfl) base args ds gs before hval hW hsz fun ht => ?_
  obtain ⟨A_b, c_b, b, A_l, c_l, l, A_s, c_s, s, rfl, b_rd, l_row, l_all, l_cap, l_max, s_row, s_all, s_cap, s_max⟩ := varintPuts_told ht
  exact varintPuts_walk A_b A_l A_s c_b c_l c_s b l s _ b_rd l_row l_all (Nat.le_trans l_cap l_max) s_row s_all (Nat.le_trans s_cap s_max)
theorem varintPuts_holds : Rows.VarintPutsSaid :=
  OpenClaim.holds_of_wide 3 Try.f3 rfl rfl rfl rfl rfl rfl rfl ⟨rfl, rfl, rfl, rfl, rfl⟩ rfl rfl rfl rfl rfl (by kernel_rfl) Try.func3 (by kernel_rfl)
    (of_decide_eq_true (by kernel_rfl)) (by unfold Func.isWrapper; first | (rw [if_pos (by decide +kernel)]; kernel_rfl) | (rw [if_neg (by decide +kernel)]; exact ⟨rfl, rfl⟩))
    (fun os started H enc _ => varintPuts_lifted os started H enc)

end Go.Proofs.Ytmpiklhgflnglaa
