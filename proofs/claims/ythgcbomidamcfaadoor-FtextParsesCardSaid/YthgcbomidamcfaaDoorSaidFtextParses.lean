/-
  Proved: for every input the law FtextParses returns true, and each argument reads behind the call as it read before. Conditions: none.
-/
import Derived.Test.YthgcbomidamcfaaDoorMg8
namespace Go.Proofs.YthgcbomidamcfaaDoor
open Go.ChangeShapes Go.WideShapes Go.ChangeAt Go.RowKit

set_option maxRecDepth 100000 in
theorem ftextParses_told {H : Type} {enc : TypeId × Value → H} {W : World} {base : Nat} {args : Array Value} {ds : List (DataW H)} (h : Told enc Tryd.f4 W base args ds) :
    ∃ (s : List UInt8), args = #[.string (str s)] ∧ s.length ≤ maxLen := by
  have hval := h.fits
  obtain ⟨p, hA⟩ := h.reads
  clear h
  rw [Tryd.params4] at hA hval
  obtain ⟨v0, vs0, d0, ds0, p0, q0, hargs, rfl, rfl, h0, r0⟩ := trodAll_cons hA
  obtain ⟨rfl, rfl, rfl⟩ := trodAll_nil r0
  obtain rfl : args = #[v0] := by cases args; simp_all
  obtain ⟨s, rfl, s_len⟩ := in_str Tryd.underlying9 (hval 0 9 v0 rfl rfl) h0
  exact ⟨s, rfl, s_len⟩
theorem ftextParses_answers : Answers Rows.ftextParsesSpec 1 := ⟨rfl, fun H ds h => by match ds, h with | [_], _ => rfl⟩
set_option maxRecDepth 100000 in
theorem ftextParses_lifted (os : Os) (started : os.Started) (H : Type) (enc : TypeId × Value → H) :
    ReturnsInHanded {} Tryd.checked os 4 .any (fun w args => (Rows.ftextParsesSpec.pre enc Tryd.prog Tryd.f4 Rows.ftextParsesRow.domain false w args ∧ laidMetH Tryd.prog Rows.ftextParsesRow.laid w) ∧ sizedMet enc Tryd.prog Tryd.f4 (OpenSpec.ofChange Rows.ftextParsesSpec) false w args) (Rows.ftextParsesSpec.post enc Tryd.prog Tryd.f4 false true false false) := by
  refine returns_laid_and (C := Tryd.checked) (X := fun w _ => laidMetH Tryd.prog Rows.ftextParsesRow.laid w) (fun _ _ _ hh h => laidMetH.of_heap hh h) own started (by kernel_rfl) Tryd.func4
    (ChangeSpec.witness_shaped (enc := enc) (C := Tryd.checked) (os := os) (X := fun w _ => laidMetH Tryd.prog Rows.ftextParsesRow.laid w) false (World.laidAll Tryd.prog os Rows.ftextParsesRow.laid) #[.string ⟨#[]⟩] 8 (World.laidAll_os _ _ _)
      (World.shaped_of_ZipB (by kernel_rfl) (by kernel_rfl)) (by kernel_rfl) (by kernel_rfl) (by kernel_rfl)
      (by rw [MakeChecks.laidMetH_plain _ _ _ (by kernel_rfl)]; exact laidMet_laidAll _ (by kernel_rfl) (by kernel_rfl))) ?_
  intro W base args ds gs before hval hW hsz hsh hld
  refine law_contract 4 Tryd.f4 Rows.ftextParsesSpec ftextParses_answers rfl (by kernel_rfl) base args ds gs before hval hW hsz fun ht => ?_
  obtain ⟨s, rfl, _⟩ := ftextParses_told ht
  exact ftextParses_walk k_ftext k_fparse s _ (nmsAt_laid (rest := []) hld (by kernel_rfl))
theorem ftextParses_holds : Rows.FtextParsesSaid :=
  OpenClaim.holds_of_wide 4 Tryd.f4 rfl rfl rfl rfl rfl rfl rfl ⟨rfl, rfl, rfl, rfl, rfl⟩ rfl rfl rfl rfl rfl (by kernel_rfl) Tryd.func4 (by kernel_rfl)
    (of_decide_eq_true (by kernel_rfl)) (by unfold Func.isWrapper; first | (rw [if_pos (by decide +kernel)]; kernel_rfl) | (rw [if_neg (by decide +kernel)]; exact ⟨rfl, rfl⟩))
    (fun os started H enc _ => ftextParses_lifted os started H enc)

theorem ftextParses_card : Rows.FtextParsesCardSaid :=
  Claim7.holds_tied_plain_at .later [] Rows.ftextParsesCard.laidKinds true Rows.ftextParsesCard.stood.harness false ftextParses_holds (fun _ h => by cases h) (by kernel_rfl) (fun _ h => by cases h) ftextParses_row_tie rfl ⟨rfl, rfl⟩ (by kernel_rfl) rfl
    (fun f fn hf hfn => by
      obtain rfl : f = 4 := Option.some.inj ((show Tryd.prog.funcNamed Rows.ftextParsesRow.func = some 4 by kernel_rfl).symm.trans hf) |>.symm
      obtain rfl : fn = Tryd.f4 := (Option.some.inj (Tryd.func4.symm.trans hfn)).symm
      exact ⟨by kernel_rfl, fun j t ht => by
        have hm : t ∈ Tryd.f4.params.toList := by simpa using Array.mem_of_getElem? ht
        have hall : (Tryd.f4.params.toList.all fun u => !Tryd.prog.wantsStandIn u) = true := by kernel_rfl
        exact (show Tryd.prog.wantsStandIn t = false by simpa using List.all_eq_true.1 hall t hm)⟩)
    (by kernel_rfl)

end Go.Proofs.YthgcbomidamcfaaDoor
