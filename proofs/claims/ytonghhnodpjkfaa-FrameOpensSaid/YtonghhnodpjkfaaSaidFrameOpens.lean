/-
  Proved: for every input the law FrameOpens returns true, and each argument reads behind the call as it read before. Conditions: none.
-/
import Derived.Test.YtonghhnodpjkfaaFrame
import Derived.Test.YtonghhnodpjkfaaOpenMore
import Derived.Test.YtonghhnodpjkfaaLaw04B
namespace Go.Proofs.Ytonghhnodpjkfaa
open Go.ChangeShapes Go.WideShapes Go.ChangeAt Go.RowKit

theorem frameOpens_told {H : Type} {enc : TypeId × Value → H} {W : World} {base : Nat} {args : Array Value} {ds : List (DataW H)} (h : Told enc Try.f4 W base args ds) :
    ∃ (A_b : Option Addr) (c_b : Nat) (b : List UInt8), args = #[.slice A_b b.length c_b] ∧ RdB W W.heap.size A_b c_b b := by
  obtain ⟨hval, ⟨p, hA⟩, -⟩ := h
  rw [Try.params4] at hA hval
  obtain ⟨v0, vs0, d0, ds0, p0, q0, hargs, rfl, rfl, h0, r0⟩ := trodAll_cons hA
  obtain ⟨rfl, rfl, rfl⟩ := trodAll_nil r0
  obtain rfl : args = #[v0] := by cases args; simp_all
  obtain ⟨A_b, c_b, b, rfl, b_rd⟩ := in_bytes Try.underlying25 Try.underlying5 (by kernel_rfl) (hval 0 25 v0 rfl rfl) h0
  exact ⟨A_b, c_b, b, rfl, b_rd⟩
theorem frameOpens_answers : Answers Rows.frameOpensSpec 1 := ⟨rfl, fun H ds h => by match ds, h with | [_], _ => rfl⟩
set_option maxRecDepth 100000 in
theorem frameOpens_lifted (os : Os) (started : os.Started) (H : Type) (enc : TypeId × Value → H) :
    ReturnsInHanded {} Try.checked os 4 .any (Rows.frameOpensSpec.pre6 enc Try.prog Try.f4 Rows.frameOpensRow.domain false) (Rows.frameOpensSpec.post enc Try.prog Try.f4 false true false false) := by
  refine returnsInHanded_of_change_sized (C := Try.checked) own started (by kernel_rfl) Try.func4
    (ChangeSpec.witness6 (enc := enc) (C := Try.checked) false ⟨#[], #[.slice none 0 0], []⟩ 8 (by kernel_rfl) (by kernel_rfl) (by kernel_rfl) (by kernel_rfl)) ?_
  intro W base args ds gs before hval hW _ hsz _
  refine law_contract 4 Try.f4 Rows.frameOpensSpec frameOpens_answers rfl (by kernel_rfl) base args ds gs before hval hW hsz fun ht => ?_
  obtain ⟨A_b, c_b, b, rfl, b_rd⟩ := frameOpens_told ht
  exact frameOpens_walk A_b c_b b _ b_rd
theorem frameOpens_holds : Rows.FrameOpensSaid :=
  OpenClaim.holds_of_wide 4 Try.f4 rfl rfl rfl rfl rfl rfl rfl ⟨rfl, rfl, rfl, rfl, rfl⟩ rfl rfl rfl rfl rfl (by kernel_rfl) Try.func4 (by kernel_rfl)
    (of_decide_eq_true (by kernel_rfl)) (by unfold Func.isWrapper; first | (rw [if_pos (by decide +kernel)]; kernel_rfl) | (rw [if_neg (by decide +kernel)]; exact ⟨rfl, rfl⟩))
    (fun os started H enc _ => frameOpens_lifted os started H enc)

end Go.Proofs.Ytonghhnodpjkfaa
