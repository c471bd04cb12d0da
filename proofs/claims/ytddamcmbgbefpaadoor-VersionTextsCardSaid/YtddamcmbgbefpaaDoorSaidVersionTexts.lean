/-
  Proved: for every input the law VersionTexts returns true, and each argument reads behind the call as it read before. Conditions: none.
-/
import Derived.Test.YtddamcmbgbefpaaDoorTied
import Derived.Test.YtddamcmbgbefpaaDoorOpen
import Derived.Test.YtddamcmbgbefpaaDoorOpenVr
import Derived.Test.YtddamcmbgbefpaaDoorSysLaid
import Derived.Test.YtddamcmbgbefpaaDoorLaw12H
namespace Go.Proofs.YtddamcmbgbefpaaDoor
open Go.ChangeShapes Go.WideShapes Go.ChangeAt Go.RowKit

set_option maxRecDepth 100000 in
theorem versionTexts_told {H : Type} {enc : TypeId × Value → H} {W : World} {base : Nat} {args : Array Value} {ds : List (DataW H)} (h : Told enc Tryd.f4 W base args ds) :
    ∃ (v : Vr) (s : List UInt8), args = #[.agg #[.int .i64 v.rep, .int .i64 v.cnt], .string (str s)] ∧ s.length ≤ maxLen := by
  have hval := h.fits
  obtain ⟨p, hA⟩ := h.reads
  clear h
  rw [Tryd.params4] at hA hval
  obtain ⟨v0, vs0, d0, ds0, p0, q0, hargs, rfl, rfl, h0, r0⟩ := trodAll_cons hA
  obtain ⟨v1, vs1, d1, ds1, p1, q1, rfl, rfl, rfl, h1, r1⟩ := trodAll_cons r0
  obtain ⟨rfl, rfl, rfl⟩ := trodAll_nil r1
  obtain rfl : args = #[v0, v1] := by cases args; simp_all
  obtain ⟨v, rfl⟩ := in_vr (hval 0 23 v0 rfl rfl) h0
  obtain ⟨s, rfl, s_len⟩ := in_str Tryd.underlying9 (hval 1 9 v1 rfl rfl) h1
  exact ⟨v, s, rfl, s_len⟩
theorem versionTexts_answers : Answers Rows.versionTextsSpec 2 := ⟨rfl, fun H ds h => by match ds, h with | [_, _], _ => rfl⟩
set_option maxRecDepth 100000 in
theorem versionTexts_lifted (os : Os) (started : os.Started) (H : Type) (enc : TypeId × Value → H) :
    ReturnsInHanded {} Tryd.checked os 4 .any (fun w args => (Rows.versionTextsSpec.pre enc Tryd.prog Tryd.f4 Rows.versionTextsRow.domain false w args ∧ laidMetH Tryd.prog Rows.versionTextsRow.laid w) ∧ sizedMet enc Tryd.prog Tryd.f4 (OpenSpec.ofChange Rows.versionTextsSpec) false w args) (Rows.versionTextsSpec.post enc Tryd.prog Tryd.f4 false true false false) := by
  refine returns_laid_and (C := Tryd.checked) (X := fun w _ => laidMetH Tryd.prog Rows.versionTextsRow.laid w) (fun _ _ _ hh h => laidMetH.of_heap hh h) own started (by kernel_rfl) Tryd.func4
    (ChangeSpec.witness_shaped (enc := enc) (C := Tryd.checked) (os := os) (X := fun w _ => laidMetH Tryd.prog Rows.versionTextsRow.laid w) false (World.laidAll Tryd.prog os Rows.versionTextsRow.laid) #[.agg #[.int .i64 0, .int .i64 0], .string ⟨#[]⟩] 8 (World.laidAll_os _ _ _)
      (World.shaped_of_ZipB (by kernel_rfl) (by kernel_rfl)) (by kernel_rfl) (by kernel_rfl) (by kernel_rfl)
      (by rw [MakeChecks.laidMetH_plain _ _ _ (by kernel_rfl)]; exact laidMet_laidAll _ (by kernel_rfl) (by kernel_rfl))) ?_
  intro W base args ds gs before hval hW hsz hsh hld
  refine law_contract 4 Tryd.f4 Rows.versionTextsSpec versionTexts_answers rfl (by kernel_rfl) base args ds gs before hval hW hsz fun ht => ?_
  obtain ⟨v, s, rfl, _⟩ := versionTexts_told ht
  exact versionTexts_walk k_vtext k_vparse k_vsort v _ _ rfl rfl s _ (sysAt_laid (r := []) hsh hld (by kernel_rfl))
theorem versionTexts_holds : Rows.VersionTextsSaid :=
  OpenClaim.holds_of_wide 4 Tryd.f4 rfl rfl rfl rfl rfl rfl rfl ⟨rfl, rfl, rfl, rfl, rfl⟩ rfl rfl rfl rfl rfl (by kernel_rfl) Tryd.func4 (by kernel_rfl)
    (of_decide_eq_true (by kernel_rfl)) (by unfold Func.isWrapper; first | (rw [if_pos (by decide +kernel)]; kernel_rfl) | (rw [if_neg (by decide +kernel)]; exact ⟨rfl, rfl⟩))
    (fun os started H enc _ => versionTexts_lifted os started H enc)

theorem versionTexts_card : Rows.VersionTextsCardSaid :=
  Claim7.holds_tied_plain_at .later [] Rows.versionTextsCard.laidKinds true Rows.versionTextsCard.stood.harness Rows.versionTextsCard.stood.looks versionTexts_holds (fun _ h => by cases h) (by kernel_rfl) (fun _ h => by cases h) versionTexts_row_tie rfl ⟨rfl, rfl⟩ (by kernel_rfl) rfl
    (fun f fn hf hfn => by
      obtain rfl : f = 4 := Option.some.inj ((show Tryd.prog.funcNamed Rows.versionTextsRow.func = some 4 by kernel_rfl).symm.trans hf) |>.symm
      obtain rfl : fn = Tryd.f4 := (Option.some.inj (Tryd.func4.symm.trans hfn)).symm
      exact ⟨by kernel_rfl, fun j t ht => by
        have hm : t ∈ Tryd.f4.params.toList := by simpa using Array.mem_of_getElem? ht
        have hall : (Tryd.f4.params.toList.all fun u => !Tryd.prog.wantsStandIn u) = true := by kernel_rfl
        exact (show Tryd.prog.wantsStandIn t = false by simpa using List.all_eq_true.1 hall t hm)⟩)
    (by kernel_rfl)

end Go.Proofs.YtddamcmbgbefpaaDoor
