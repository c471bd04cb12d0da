/-
  Proved: for every input the law FrameTurned returns true, and each argument reads behind the call as it read before. Conditions: none.
-/
import Derived.Test.YtonghhnodpjkfaaFrame
import Derived.Test.YtonghhnodpjkfaaOpenMore
import Derived.Test.YtonghhnodpjkfaaLaw04D
namespace Go.Proofs.Ytonghhnodpjkfaa
open Go.ChangeShapes Go.WideShapes Go.ChangeAt Go.RowKit

theorem frameTurned_told {H : Type} {enc : TypeId × Value → H} {W : World} {base : Nat} {args : Array Value} {ds : List (DataW H)} (h : Told enc Try.f5 W base args ds) :
    ∃ (A_x : Option Addr) (c_x : Nat) (x : List UInt8) (at' : Nat) (turn : Nat), args = #[.slice A_x x.length c_x, .int .u16 (at' : Int), .int .u32 (turn : Int)] ∧ RdB W W.heap.size A_x c_x x ∧ at' < 65536 ∧ turn < 4294967296 := by
  obtain ⟨hval, ⟨p, hA⟩, -⟩ := h
  rw [Try.params5] at hA hval
  obtain ⟨v0, vs0, d0, ds0, p0, q0, hargs, rfl, rfl, h0, r0⟩ := trodAll_cons hA
  obtain ⟨v1, vs1, d1, ds1, p1, q1, rfl, rfl, rfl, h1, r1⟩ := trodAll_cons r0
  obtain ⟨v2, vs2, d2, ds2, p2, q2, rfl, rfl, rfl, h2, r2⟩ := trodAll_cons r1
  obtain ⟨rfl, rfl, rfl⟩ := trodAll_nil r2
  obtain rfl : args = #[v0, v1, v2] := by cases args; simp_all
  obtain ⟨A_x, c_x, x, rfl, x_rd⟩ := in_bytes Try.underlying25 Try.underlying5 (by kernel_rfl) (hval 0 25 v0 rfl rfl) h0
  obtain ⟨at', rfl, at'_lt⟩ := in_u16 Try.underlying23 (hval 1 23 v1 rfl rfl) h1
  obtain ⟨turn, rfl, turn_lt⟩ := in_u32 Try.underlying40 (hval 2 40 v2 rfl rfl) h2
  exact ⟨A_x, c_x, x, at', turn, rfl, x_rd, at'_lt, turn_lt⟩
theorem frameTurned_answers : Answers Rows.frameTurnedSpec 3 := ⟨rfl, fun H ds h => by match ds, h with | [_, _, _], _ => rfl⟩
set_option maxRecDepth 100000 in
theorem frameTurned_lifted (os : Os) (started : os.Started) (H : Type) (enc : TypeId × Value → H) :
    ReturnsInHanded {} Try.checked os 5 .any (Rows.frameTurnedSpec.pre6 enc Try.prog Try.f5 Rows.frameTurnedRow.domain false) (Rows.frameTurnedSpec.post enc Try.prog Try.f5 false true false false) := by
  refine returnsInHanded_of_change_sized (C := Try.checked) own started (by kernel_rfl) Try.func5
    (ChangeSpec.witness6 (enc := enc) (C := Try.checked) false ⟨#[], #[.slice none 0 0, .int .u16 0, .int .u32 0], []⟩ 8 (by kernel_rfl) (by kernel_rfl) (by kernel_rfl) (by kernel_rfl)) ?_
  intro W base args ds gs before hval hW _ hsz _
  refine law_contract 5 Try.f5 Rows.frameTurnedSpec frameTurned_answers rfl (by kernel_rfl) base args ds gs before hval hW hsz fun ht => ?_
  obtain ⟨A_x, c_x, x, at', turn, rfl, x_rd, at'_lt, turn_lt⟩ := frameTurned_told ht
  exact frameTurned_walk A_x c_x x at' turn _ x_rd at'_lt turn_lt
theorem frameTurned_holds : Rows.FrameTurnedSaid :=
  OpenClaim.holds_of_wide 5 Try.f5 rfl rfl rfl rfl rfl rfl rfl ⟨rfl, rfl, rfl, rfl, rfl⟩ rfl rfl rfl rfl rfl (by kernel_rfl) Try.func5 (by kernel_rfl)
    (of_decide_eq_true (by kernel_rfl)) (by unfold Func.isWrapper; first | (rw [if_pos (by decide +kernel)]; kernel_rfl) | (rw [if_neg (by decide +kernel)]; exact ⟨rfl, rfl⟩))
    (fun os started H enc _ => frameTurned_lifted os started H enc)

end Go.Proofs.Ytonghhnodpjkfaa
