/-
  Proved: for every input the law NatLogs returns true, and each argument reads behind the call as it read before. Conditions: none.
-/
import Derived.Test.YthibjnhhcchlpaaLaw01
import Derived.Test.YthibjnhhcchlpaaFrame
namespace Go.Proofs.Ythibjnhhcchlpaa
open Go.ChangeShapes Go.WideShapes Go.ChangeAt Go.RowKit

theorem natLogs_told {H : Type} {enc : TypeId × Value → H} {W : World} {base : Nat} {args : Array Value} {ds : List (DataW H)} (h : Told enc Try.f5 W base args ds) :
    ∃ (n : Int), args = #[.int .i64 n] ∧ -9223372036854775808 ≤ n ∧ n ≤ 9223372036854775807 := by
  obtain ⟨hval, ⟨p, hA⟩, -⟩ := h
  rw [Try.params5] at hA hval
  obtain ⟨v0, vs0, d0, ds0, p0, q0, hargs, rfl, rfl, h0, r0⟩ := trodAll_cons hA
  obtain ⟨rfl, rfl, rfl⟩ := trodAll_nil r0
  obtain rfl : args = #[v0] := by cases args; simp_all
  obtain ⟨n, rfl, n_lo, n_hi⟩ := in_int Try.underlying3 (hval 0 3 v0 rfl rfl) h0
  exact ⟨n, rfl, n_lo, n_hi⟩
theorem natLogs_answers : Answers Rows.natLogsSpec 1 := ⟨rfl, fun H ds h => by match ds, h with | [_], _ => rfl⟩
set_option maxRecDepth 100000 in
theorem natLogs_lifted (os : Os) (started : os.Started) (H : Type) (enc : TypeId × Value → H) :
    ReturnsInHanded {} Try.checked os 5 .any (Rows.natLogsSpec.pre6 enc Try.prog Try.f5 Rows.natLogsRow.domain false) (Rows.natLogsSpec.post enc Try.prog Try.f5 false true false false) := by
  refine returnsInHanded_of_change_sized (C := Try.checked) own started (by kernel_rfl) Try.func5
    (ChangeSpec.witness6 (enc := enc) (C := Try.checked) false ⟨#[], #[.int .i64 0], []⟩ 8 (by kernel_rfl) (by kernel_rfl) (by kernel_rfl) (by kernel_rfl)) ?_
  intro W base args ds gs before hval hW _ hsz _
  refine law_contract 5 Try.f5 Rows.natLogsSpec natLogs_answers rfl (by kernel_rfl) base args ds gs before hval hW hsz fun ht => ?_
  obtain ⟨n, rfl, n_lo, n_hi⟩ := natLogs_told ht
  exact natLogs_walk n n_lo n_hi W
theorem natLogs_holds : Rows.NatLogsSaid :=
  OpenClaim.holds_of_wide 5 Try.f5 rfl rfl rfl rfl rfl rfl rfl ⟨rfl, rfl, rfl, rfl, rfl⟩ rfl rfl rfl rfl rfl (by kernel_rfl) Try.func5 (by kernel_rfl)
    (of_decide_eq_true (by kernel_rfl)) (by unfold Func.isWrapper; first | (rw [if_pos (by decide +kernel)]; kernel_rfl) | (rw [if_neg (by decide +kernel)]; exact ⟨rfl, rfl⟩))
    (fun os started H enc _ => natLogs_lifted os started H enc)

end Go.Proofs.Ythibjnhhcchlpaa
