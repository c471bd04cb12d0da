/-
  Proved: for every input the law IcodeItems returns true, and each argument reads behind the call as it read before. Conditions: none.
-/
import Derived.Test.YtfpgklpnpplnnaaMg10
namespace Go.Proofs.Ytfpgklpnpplnnaa
open Go.ChangeShapes Go.WideShapes Go.ChangeAt Go.RowKit

set_option maxRecDepth 100000 in
theorem icodeItems_told {H : Type} {enc : TypeId × Value → H} {W : World} {base : Nat} {args : Array Value} {ds : List (DataW H)} (h : Told enc Try.f3 W base args ds) :
    ∃ (x : Itm), args = #[.agg #[.string (str x.key), .int .i64 x.ver.rep, .int .i64 x.ver.cnt, .int .i64 x.rank, .int .i64 x.prio, .bool x.dead, .string (str x.body)]] ∧ True := by
  have hval := h.fits
  obtain ⟨p, hA⟩ := h.reads
  clear h
  rw [Try.params3] at hA hval
  obtain ⟨v0, vs0, d0, ds0, p0, q0, hargs, rfl, rfl, h0, r0⟩ := trodAll_cons hA
  obtain ⟨rfl, rfl, rfl⟩ := trodAll_nil r0
  obtain rfl : args = #[v0] := by cases args; simp_all
  obtain ⟨x, rfl⟩ := in_itm (hval 0 25 v0 rfl rfl) h0
  exact ⟨x, rfl, trivial⟩
theorem icodeItems_answers : Answers Rows.icodeItemsSpec 1 := ⟨rfl, fun H ds h => by match ds, h with | [_], _ => rfl⟩
set_option maxRecDepth 100000 in
theorem icodeItems_lifted (os : Os) (started : os.Started) (H : Type) (enc : TypeId × Value → H) :
    ReturnsInHanded {} Try.checked os 3 .any (Rows.icodeItemsSpec.pre6 enc Try.prog Try.f3 Rows.icodeItemsRow.domain false) (Rows.icodeItemsSpec.post enc Try.prog Try.f3 false true false false) := by
  refine returnsInHanded_of_change_sized (C := Try.checked) own started (by kernel_rfl) Try.func3
    (ChangeSpec.witness6 (enc := enc) (C := Try.checked) false ⟨#[], #[.agg #[.string ⟨#[]⟩, .int .i64 0, .int .i64 0, .int .i64 0, .int .i64 0, .bool false, .string ⟨#[]⟩]], []⟩ 8 (by kernel_rfl) (by kernel_rfl) (by kernel_rfl) (by kernel_rfl)) ?_
  intro W base args ds gs before hval hW _ hsz _
  refine law_contract 3 Try.f3 Rows.icodeItemsSpec icodeItems_answers rfl (by kernel_rfl) base args ds gs before hval hW hsz fun ht => ?_
  obtain ⟨x, rfl, _⟩ := icodeItems_told ht
  exact icodeItems_walk k_citem k_csize k_cread x _ _ _ _ _ _ _ (IsI.mk' x) _
theorem icodeItems_holds : Rows.IcodeItemsSaid :=
  OpenClaim.holds_of_wide 3 Try.f3 rfl rfl rfl rfl rfl rfl rfl ⟨rfl, rfl, rfl, rfl, rfl⟩ rfl rfl rfl rfl rfl (by kernel_rfl) Try.func3 (by kernel_rfl)
    (of_decide_eq_true (by kernel_rfl)) (by unfold Func.isWrapper; first | (rw [if_pos (by decide +kernel)]; kernel_rfl) | (rw [if_neg (by decide +kernel)]; exact ⟨rfl, rfl⟩))
    (fun os started H enc _ => icodeItems_lifted os started H enc)

end Go.Proofs.Ytfpgklpnpplnnaa
