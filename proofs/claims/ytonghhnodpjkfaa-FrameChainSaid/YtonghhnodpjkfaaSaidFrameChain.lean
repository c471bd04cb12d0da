/-
  Proved: for every input the law FrameChain returns true, and each argument reads behind the call as it read before. Conditions: none.
-/
import Derived.Test.YtonghhnodpjkfaaFrame
import Derived.Test.YtonghhnodpjkfaaOpenMore
import Derived.Test.YtonghhnodpjkfaaLaw04E
namespace Go.Proofs.Ytonghhnodpjkfaa
open Go.ChangeShapes Go.WideShapes Go.ChangeAt Go.RowKit

theorem frameChain_told {H : Type} {enc : TypeId × Value → H} {W : World} {base : Nat} {args : Array Value} {ds : List (DataW H)} (h : Told enc Try.f6 W base args ds) :
    ∃ (A_l : Option Addr) (c_l : Nat) (l : List Piece), args = #[.slice A_l l.length c_l] ∧ RdP W W.heap.size W.heap.size A_l l ∧ l.length ≤ c_l ∧ c_l ≤ maxLen := by
  obtain ⟨hval, ⟨p, hA⟩, -⟩ := h
  rw [Try.params6] at hA hval
  obtain ⟨v0, vs0, d0, ds0, p0, q0, hargs, rfl, rfl, h0, r0⟩ := trodAll_cons hA
  obtain ⟨rfl, rfl, rfl⟩ := trodAll_nil r0
  obtain rfl : args = #[v0] := by cases args; simp_all
  obtain ⟨A_l, c_l, l, rfl, l_rd, l_cap, l_max⟩ := in_pieces Try.underlying22 Try.underlying25 Try.underlying5 (by kernel_rfl) (by kernel_rfl) (hval 0 22 v0 rfl rfl) h0
  exact ⟨A_l, c_l, l, rfl, l_rd, l_cap, l_max⟩
theorem frameChain_answers : Answers Rows.frameChainSpec 1 := ⟨rfl, fun H ds h => by match ds, h with | [_], _ => rfl⟩
set_option maxRecDepth 100000 in
theorem frameChain_lifted (os : Os) (started : os.Started) (H : Type) (enc : TypeId × Value → H) :
    ReturnsInHanded {} Try.checked os 6 .any (Rows.frameChainSpec.pre6 enc Try.prog Try.f6 Rows.frameChainRow.domain false) (Rows.frameChainSpec.post enc Try.prog Try.f6 false true false false) := by
  refine returnsInHanded_of_change_sized (C := Try.checked) own started (by kernel_rfl) Try.func6
    (ChangeSpec.witness6 (enc := enc) (C := Try.checked) false ⟨#[], #[.slice none 0 0], []⟩ 8 (by kernel_rfl) (by kernel_rfl) (by kernel_rfl) (by kernel_rfl)) ?_
  intro W base args ds gs before hval hW _ hsz _
  refine law_contract 6 Try.f6 Rows.frameChainSpec frameChain_answers rfl (by kernel_rfl) base args ds gs before hval hW hsz fun ht => ?_
  obtain ⟨A_l, c_l, l, rfl, l_rd, l_cap, l_max⟩ := frameChain_told ht
  exact frameChain_walk A_l c_l l _ l_rd (Nat.le_trans l_cap l_max)
theorem frameChain_holds : Rows.FrameChainSaid :=
  OpenClaim.holds_of_wide 6 Try.f6 rfl rfl rfl rfl rfl rfl rfl ⟨rfl, rfl, rfl, rfl, rfl⟩ rfl rfl rfl rfl rfl (by kernel_rfl) Try.func6 (by kernel_rfl)
    (of_decide_eq_true (by kernel_rfl)) (by unfold Func.isWrapper; first | (rw [if_pos (by decide +kernel)]; kernel_rfl) | (rw [if_neg (by decide +kernel)]; exact ⟨rfl, rfl⟩))
    (fun os started H enc _ => frameChain_lifted os started H enc)

end Go.Proofs.Ytonghhnodpjkfaa
