/-
  Proved: for every input the law VersionTotal returns true, and each argument reads behind the call as it read before. Conditions: none.
-/
import Derived.Test.YtddamcmbgbefpaaDoorTied
import Derived.Test.YtddamcmbgbefpaaDoorOpen
import Derived.Test.YtddamcmbgbefpaaDoorOpenVr
import Derived.Test.YtddamcmbgbefpaaDoorSysLaid
import Derived.Test.YtddamcmbgbefpaaDoorLaw12H
namespace Go.Proofs.YtddamcmbgbefpaaDoor
open Go.ChangeShapes Go.WideShapes Go.ChangeAt Go.RowKit

set_option maxRecDepth 100000 in
theorem versionTotal_told {H : Type} {enc : TypeId × Value → H} {W : World} {base : Nat} {args : Array Value} {ds : List (DataW H)} (h : Told enc Tryd.f6 W base args ds) :
    ∃ (a : Vr) (b : Vr) (c : Vr), args = #[.agg #[.int .i64 a.rep, .int .i64 a.cnt], .agg #[.int .i64 b.rep, .int .i64 b.cnt], .agg #[.int .i64 c.rep, .int .i64 c.cnt]] ∧ True := by
  have hval := h.fits
  obtain ⟨p, hA⟩ := h.reads
  clear h
  rw [Tryd.params6] at hA hval
  obtain ⟨v0, vs0, d0, ds0, p0, q0, hargs, rfl, rfl, h0, r0⟩ := trodAll_cons hA
  obtain ⟨v1, vs1, d1, ds1, p1, q1, rfl, rfl, rfl, h1, r1⟩ := trodAll_cons r0
  obtain ⟨v2, vs2, d2, ds2, p2, q2, rfl, rfl, rfl, h2, r2⟩ := trodAll_cons r1
  obtain ⟨rfl, rfl, rfl⟩ := trodAll_nil r2
  obtain rfl : args = #[v0, v1, v2] := by cases args; simp_all
  obtain ⟨a, rfl⟩ := in_vr (hval 0 23 v0 rfl rfl) h0
  obtain ⟨b, rfl⟩ := in_vr (hval 1 23 v1 rfl rfl) h1
  obtain ⟨c, rfl⟩ := in_vr (hval 2 23 v2 rfl rfl) h2
  exact ⟨a, b, c, rfl, trivial⟩
theorem versionTotal_answers : Answers Rows.versionTotalSpec 3 := ⟨rfl, fun H ds h => by match ds, h with | [_, _, _], _ => rfl⟩
set_option maxRecDepth 100000 in
theorem versionTotal_lifted (os : Os) (started : os.Started) (H : Type) (enc : TypeId × Value → H) :
    ReturnsInHanded {} Tryd.checked os 6 .any (fun w args => (Rows.versionTotalSpec.pre enc Tryd.prog Tryd.f6 Rows.versionTotalRow.domain false w args ∧ laidMetH Tryd.prog Rows.versionTotalRow.laid w) ∧ sizedMet enc Tryd.prog Tryd.f6 (OpenSpec.ofChange Rows.versionTotalSpec) false w args) (Rows.versionTotalSpec.post enc Tryd.prog Tryd.f6 false true false false) := by
  refine returns_laid_and (C := Tryd.checked) (X := fun w _ => laidMetH Tryd.prog Rows.versionTotalRow.laid w) (fun _ _ _ hh h => laidMetH.of_heap hh h) own started (by kernel_rfl) Tryd.func6
    (ChangeSpec.witness_shaped (enc := enc) (C := Tryd.checked) (os := os) (X := fun w _ => laidMetH Tryd.prog Rows.versionTotalRow.laid w) false (World.laidAll Tryd.prog os Rows.versionTotalRow.laid) #[.agg #[.int .i64 0, .int .i64 0], .agg #[.int .i64 0, .int .i64 0], .agg #[.int .i64 0, .int .i64 0]] 8 (World.laidAll_os _ _ _)
      (World.shaped_of_ZipB (by kernel_rfl) (by kernel_rfl)) (by kernel_rfl) (by kernel_rfl) (by kernel_rfl)
      (by rw [MakeChecks.laidMetH_plain _ _ _ (by kernel_rfl)]; exact laidMet_laidAll _ (by kernel_rfl) (by kernel_rfl))) ?_
  intro W base args ds gs before hval hW hsz hsh hld
  refine law_contract 6 Tryd.f6 Rows.versionTotalSpec versionTotal_answers rfl (by kernel_rfl) base args ds gs before hval hW hsz fun ht => ?_
  obtain ⟨a, b, c, rfl, _⟩ := versionTotal_told ht
  exact versionTotal_walk k_vcmp k_vtext k_vparse k_vsort a b c _ _ _ _ _ _ rfl rfl rfl rfl rfl rfl _ (sysAt_laid (r := []) hsh hld (by kernel_rfl))
theorem versionTotal_holds : Rows.VersionTotalSaid :=
  OpenClaim.holds_of_wide 6 Tryd.f6 rfl rfl rfl rfl rfl rfl rfl ⟨rfl, rfl, rfl, rfl, rfl⟩ rfl rfl rfl rfl rfl (by kernel_rfl) Tryd.func6 (by kernel_rfl)
    (of_decide_eq_true (by kernel_rfl)) (by unfold Func.isWrapper; first | (rw [if_pos (by decide +kernel)]; kernel_rfl) | (rw [if_neg (by decide +kernel)]; exact ⟨rfl, rfl⟩))
    (fun os started H enc _ => versionTotal_lifted os started H enc)

theorem versionTotal_card : Rows.VersionTotalCardSaid :=
  Claim7.holds_tied_plain_at .later [] Rows.versionTotalCard.laidKinds true Rows.versionTotalCard.stood.harness Rows.versionTotalCard.stood.looks versionTotal_holds (fun _ h => by cases h) (by kernel_rfl) (fun _ h => by cases h) versionTotal_row_tie rfl ⟨rfl, rfl⟩ (by kernel_rfl) rfl
    (fun f fn hf hfn => by
      obtain rfl : f = 6 := Option.some.inj ((show Tryd.prog.funcNamed Rows.versionTotalRow.func = some 6 by kernel_rfl).symm.trans hf) |>.symm
      obtain rfl : fn = Tryd.f6 := (Option.some.inj (Tryd.func6.symm.trans hfn)).symm
      exact ⟨by kernel_rfl, fun j t ht => by
        have hm : t ∈ Tryd.f6.params.toList := by simpa using Array.mem_of_getElem? ht
        have hall : (Tryd.f6.params.toList.all fun u => !Tryd.prog.wantsStandIn u) = true := by kernel_rfl
        exact (show Tryd.prog.wantsStandIn t = false by simpa using List.all_eq_true.1 hall t hm)⟩)
    (by kernel_rfl)

end Go.Proofs.YtddamcmbgbefpaaDoor
