/-
  Proved: for every input the law VarintReads returns true, and each argument reads behind the call as it read before. Conditions: none.
-/
import Derived.Test.YtmpiklhgflnglaaFrame
import Derived.Test.YtmpiklhgflnglaaOpen02
namespace Go.Proofs.Ytmpiklhgflnglaa
open Go.ChangeShapes Go.WideShapes Go.ChangeAt Go.RowKit

theorem varintReads_told {H : Type} {enc : TypeId × Value → H} {W : World} {base : Nat} {args : Array Value} {ds : List (DataW H)} (h : Told enc Try.f4 W base args ds) :
    ∃ (A_b : Option Addr) (c_b : Nat) (b : List UInt8) (A_l : Option Addr) (c_l : Nat) (l : List (Int × Int × Int)), args = #[.slice A_b b.length c_b, .slice A_l l.length c_l] ∧ RdB W W.heap.size A_b c_b b ∧ RowAt W W.heap.size A_l (dos l) ∧ (∀ d ∈ l, DoOk d) ∧ l.length ≤ c_l ∧ c_l ≤ maxLen := by
  obtain ⟨hval, ⟨p, hA⟩, -⟩ := h
  rw [Try.params4] at hA hval
  obtain ⟨v0, vs0, d0, ds0, p0, q0, hargs, rfl, rfl, h0, r0⟩ := trodAll_cons hA
  obtain ⟨v1, vs1, d1, ds1, p1, q1, rfl, rfl, rfl, h1, r1⟩ := trodAll_cons r0
  obtain ⟨rfl, rfl, rfl⟩ := trodAll_nil r1
  obtain rfl : args = #[v0, v1] := by cases args; simp_all
  obtain ⟨A_b, c_b, b, rfl, b_rd⟩ := in_bytes Try.underlying22 Try.underlying5 (by kernel_rfl) (hval 0 22 v0 rfl rfl) h0
  obtain ⟨A_l, c_l, l, rfl, l_row, l_all, l_cap, l_max⟩ := in_dos (hval 1 39 v1 rfl rfl) h1
  exact ⟨A_b, c_b, b, A_l, c_l, l, rfl, b_rd, l_row, l_all, l_cap, l_max⟩
theorem varintReads_answers : Answers Rows.varintReadsSpec 2 := ⟨rfl, fun H ds h => by match ds, h with | [_, _], _ => rfl⟩
set_option maxRecDepth 100000 in
theorem varintReads_lifted (os : Os) (started : os.Started) (H : Type) (enc : TypeId × Value → H) :
    ReturnsInHanded {} Try.checked os 4 .any (Rows.varintReadsSpec.pre6 enc Try.prog Try.f4 Rows.varintReadsRow.domain false) (Rows.varintReadsSpec.post enc Try.prog Try.f4 false true false false) := by
  refine returnsInHanded_of_change_sized (C := Try.checked) own started (by kernel_rfl) Try.func4
    (ChangeSpec.witness6 (enc := enc) (C := Try.checked) false ⟨#[], #[.slice none 0 0, .slice none 0 0], []⟩ 8 (by kernel_rfl) (by kernel_rfl) (by kernel_rfl) (by kernel_rfl)) ?_
  intro W base args ds gs before hval hW _ hsz _
  refine law_contract 4 Try.f4 Rows.varintReadsSpec varintReads_answers rfl (by kernel_rfl) base args ds gs before hval hW hsz fun ht => ?_
  obtain ⟨A_b, c_b, b, A_l, c_l, l, rfl, b_rd, l_row, l_all, l_cap, l_max⟩ := varintReads_told ht
  exact varintReads_walk A_b A_l c_b c_l b l _ b_rd l_row l_all (Nat.le_trans l_cap l_max)
theorem varintReads_holds : Rows.VarintReadsSaid :=
  OpenClaim.holds_of_wide 4 Try.f4 rfl rfl rfl rfl rfl rfl rfl ⟨rfl, rfl, rfl, rfl, rfl⟩ rfl rfl rfl rfl rfl (by kernel_rfl) Try.func4 (by kernel_rfl)
    (of_decide_eq_true (by kernel_rfl)) (by unfold Func.isWrapper; first | (rw [if_pos (by decide +kernel)]; kernel_rfl) | (rw [if_neg (by decide +kernel)]; exact ⟨rfl, rfl⟩))
    (fun os started H enc _ => varintReads_lifted os started H enc)

end Go.Proofs.Ytmpiklhgflnglaa
