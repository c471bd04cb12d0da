/-
  Proved: for every input the law VersionSorted returns true, and each argument reads behind the call as it read before. Conditions: none.
-/
import Derived.Test.YtddamcmbgbefpaaDoorTied
import Derived.Test.YtddamcmbgbefpaaDoorOpen
import Derived.Test.YtddamcmbgbefpaaDoorOpenVr
import Derived.Test.YtddamcmbgbefpaaDoorSysLaid
import Derived.Test.YtddamcmbgbefpaaDoorLaw12H
namespace Go.Proofs.YtddamcmbgbefpaaDoor
open Go.ChangeShapes Go.WideShapes Go.ChangeAt Go.RowKit

set_option maxRecDepth 100000 in
theorem versionSorted_told {H : Type} {enc : TypeId × Value → H} {W : World} {base : Nat} {args : Array Value} {ds : List (DataW H)} (h : Told enc Tryd.f5 W base args ds) :
    ∃ (A_l : Option Addr) (c_l : Nat) (l : List Vr), args = #[.slice A_l l.length c_l] ∧ kVr.Rd W W.heap.size A_l c_l l := by
  have hval := h.fits
  obtain ⟨p, hA⟩ := h.reads
  clear h
  rw [Tryd.params5] at hA hval
  obtain ⟨v0, vs0, d0, ds0, p0, q0, hargs, rfl, rfl, h0, r0⟩ := trodAll_cons hA
  obtain ⟨rfl, rfl, rfl⟩ := trodAll_nil r0
  obtain rfl : args = #[v0] := by cases args; simp_all
  obtain ⟨A_l, c_l, l, rfl, l_rd⟩ := in_vrs (hval 0 35 v0 rfl rfl) h0
  exact ⟨A_l, c_l, l, rfl, l_rd⟩
theorem versionSorted_answers : Answers Rows.versionSortedSpec 1 := ⟨rfl, fun H ds h => by match ds, h with | [_], _ => rfl⟩
set_option maxRecDepth 100000 in
theorem versionSorted_lifted (os : Os) (started : os.Started) (H : Type) (enc : TypeId × Value → H) :
    ReturnsInHanded {} Tryd.checked os 5 .any (fun w args => (Rows.versionSortedSpec.pre enc Tryd.prog Tryd.f5 Rows.versionSortedRow.domain false w args ∧ laidMetH Tryd.prog Rows.versionSortedRow.laid w) ∧ sizedMet enc Tryd.prog Tryd.f5 (OpenSpec.ofChange Rows.versionSortedSpec) false w args) (Rows.versionSortedSpec.post enc Tryd.prog Tryd.f5 false true false false) := by
  refine returns_laid_and (C := Tryd.checked) (X := fun w _ => laidMetH Tryd.prog Rows.versionSortedRow.laid w) (fun _ _ _ hh h => laidMetH.of_heap hh h) own started (by kernel_rfl) Tryd.func5
    (ChangeSpec.witness_shaped (enc := enc) (C := Tryd.checked) (os := os) (X := fun w _ => laidMetH Tryd.prog Rows.versionSortedRow.laid w) false (World.laidAll Tryd.prog os Rows.versionSortedRow.laid) #[.slice none 0 0] 8 (World.laidAll_os _ _ _)
      (World.shaped_of_ZipB (by kernel_rfl) (by kernel_rfl)) (by kernel_rfl) (by kernel_rfl) (by kernel_rfl)
      (by rw [MakeChecks.laidMetH_plain _ _ _ (by kernel_rfl)]; exact laidMet_laidAll _ (by kernel_rfl) (by kernel_rfl))) ?_
  intro W base args ds gs before hval hW hsz hsh hld
  refine law_contract 5 Tryd.f5 Rows.versionSortedSpec versionSorted_answers rfl (by kernel_rfl) base args ds gs before hval hW hsz fun ht => ?_
  obtain ⟨A_l, c_l, l, rfl, l_rd⟩ := versionSorted_told ht
  exact versionSorted_walk k_vtext k_vparse k_vsort A_l c_l _ l rfl _ (sysAt_laid (r := []) hsh hld (by kernel_rfl)) l_rd
theorem versionSorted_holds : Rows.VersionSortedSaid :=
  OpenClaim.holds_of_wide 5 Tryd.f5 rfl rfl rfl rfl rfl rfl rfl ⟨rfl, rfl, rfl, rfl, rfl⟩ rfl rfl rfl rfl rfl (by kernel_rfl) Tryd.func5 (by kernel_rfl)
    (of_decide_eq_true (by kernel_rfl)) (by unfold Func.isWrapper; first | (rw [if_pos (by decide +kernel)]; kernel_rfl) | (rw [if_neg (by decide +kernel)]; exact ⟨rfl, rfl⟩))
    (fun os started H enc _ => versionSorted_lifted os started H enc)

theorem versionSorted_card : Rows.VersionSortedCardSaid :=
  Claim7.holds_tied_plain_at .later [] Rows.versionSortedCard.laidKinds true Rows.versionSortedCard.stood.harness Rows.versionSortedCard.stood.looks versionSorted_holds (fun _ h => by cases h) (by kernel_rfl) (fun _ h => by cases h) versionSorted_row_tie rfl ⟨rfl, rfl⟩ (by kernel_rfl) rfl
    (fun f fn hf hfn => by
      obtain rfl : f = 5 := Option.some.inj ((show Tryd.prog.funcNamed Rows.versionSortedRow.func = some 5 by kernel_rfl).symm.trans hf) |>.symm
      obtain rfl : fn = Tryd.f5 := (Option.some.inj (Tryd.func5.symm.trans hfn)).symm
      exact ⟨by kernel_rfl, fun j t ht => by
        have hm : t ∈ Tryd.f5.params.toList := by simpa using Array.mem_of_getElem? ht
        have hall : (Tryd.f5.params.toList.all fun u => !Tryd.prog.wantsStandIn u) = true := by kernel_rfl
        exact (show Tryd.prog.wantsStandIn t = false by simpa using List.all_eq_true.1 hall t hm)⟩)
    (by kernel_rfl)

end Go.Proofs.YtddamcmbgbefpaaDoor
