/-
  Proved: for every input the law FtextTells returns true, and each argument reads behind the call as it read before. Conditions: none.
-/
import Derived.Test.YthgcbomidamcfaaDoorMg8
namespace Go.Proofs.YthgcbomidamcfaaDoor
open Go.ChangeShapes Go.WideShapes Go.ChangeAt Go.RowKit

set_option maxRecDepth 100000 in
theorem ftextTells_told {H : Type} {enc : TypeId × Value → H} {W : World} {base : Nat} {args : Array Value} {ds : List (DataW H)} (h : Told enc Tryd.f3 W base args ds) :
    ∃ (A_l : Option Addr) (c_l : Nat) (l : List Nd), args = #[.slice A_l l.length c_l] ∧ kNd.Rd W W.heap.size A_l c_l l := by
  have hval := h.fits
  obtain ⟨p, hA⟩ := h.reads
  clear h
  rw [Tryd.params3] at hA hval
  obtain ⟨v0, vs0, d0, ds0, p0, q0, hargs, rfl, rfl, h0, r0⟩ := trodAll_cons hA
  obtain ⟨rfl, rfl, rfl⟩ := trodAll_nil r0
  obtain rfl : args = #[v0] := by cases args; simp_all
  obtain ⟨A_l, c_l, l, rfl, l_rd⟩ := in_nds (hval 0 22 v0 rfl rfl) h0
  exact ⟨A_l, c_l, l, rfl, l_rd⟩
theorem ftextTells_answers : Answers Rows.ftextTellsSpec 1 := ⟨rfl, fun H ds h => by match ds, h with | [_], _ => rfl⟩
set_option maxRecDepth 100000 in
theorem ftextTells_lifted (os : Os) (started : os.Started) (H : Type) (enc : TypeId × Value → H) :
    ReturnsInHanded {} Tryd.checked os 3 .any (fun w args => (Rows.ftextTellsSpec.pre enc Tryd.prog Tryd.f3 Rows.ftextTellsRow.domain false w args ∧ laidMetH Tryd.prog Rows.ftextTellsRow.laid w) ∧ sizedMet enc Tryd.prog Tryd.f3 (OpenSpec.ofChange Rows.ftextTellsSpec) false w args) (Rows.ftextTellsSpec.post enc Tryd.prog Tryd.f3 false true false false) := by
  refine returns_laid_and (C := Tryd.checked) (X := fun w _ => laidMetH Tryd.prog Rows.ftextTellsRow.laid w) (fun _ _ _ hh h => laidMetH.of_heap hh h) own started (by kernel_rfl) Tryd.func3
    (ChangeSpec.witness_shaped (enc := enc) (C := Tryd.checked) (os := os) (X := fun w _ => laidMetH Tryd.prog Rows.ftextTellsRow.laid w) false (World.laidAll Tryd.prog os Rows.ftextTellsRow.laid) #[.slice none 0 0] 8 (World.laidAll_os _ _ _)
      (World.shaped_of_ZipB (by kernel_rfl) (by kernel_rfl)) (by kernel_rfl) (by kernel_rfl) (by kernel_rfl)
      (by rw [MakeChecks.laidMetH_plain _ _ _ (by kernel_rfl)]; exact laidMet_laidAll _ (by kernel_rfl) (by kernel_rfl))) ?_
  intro W base args ds gs before hval hW hsz hsh hld
  refine law_contract 3 Tryd.f3 Rows.ftextTellsSpec ftextTells_answers rfl (by kernel_rfl) base args ds gs before hval hW hsz fun ht => ?_
  obtain ⟨A_l, c_l, l, rfl, l_rd⟩ := ftextTells_told ht
  exact ftextTells_walk k_ftext k_fparse A_l c_l _ l rfl _ (nmsAt_laid (rest := []) hld (by kernel_rfl)) l_rd
theorem ftextTells_holds : Rows.FtextTellsSaid :=
  OpenClaim.holds_of_wide 3 Tryd.f3 rfl rfl rfl rfl rfl rfl rfl ⟨rfl, rfl, rfl, rfl, rfl⟩ rfl rfl rfl rfl rfl (by kernel_rfl) Tryd.func3 (by kernel_rfl)
    (of_decide_eq_true (by kernel_rfl)) (by unfold Func.isWrapper; first | (rw [if_pos (by decide +kernel)]; kernel_rfl) | (rw [if_neg (by decide +kernel)]; exact ⟨rfl, rfl⟩))
    (fun os started H enc _ => ftextTells_lifted os started H enc)

theorem ftextTells_card : Rows.FtextTellsCardSaid :=
  Claim7.holds_tied_plain_at .later [] Rows.ftextTellsCard.laidKinds true Rows.ftextTellsCard.stood.harness false ftextTells_holds (fun _ h => by cases h) (by kernel_rfl) (fun _ h => by cases h) ftextTells_row_tie rfl ⟨rfl, rfl⟩ (by kernel_rfl) rfl
    (fun f fn hf hfn => by
      obtain rfl : f = 3 := Option.some.inj ((show Tryd.prog.funcNamed Rows.ftextTellsRow.func = some 3 by kernel_rfl).symm.trans hf) |>.symm
      obtain rfl : fn = Tryd.f3 := (Option.some.inj (Tryd.func3.symm.trans hfn)).symm
      exact ⟨by kernel_rfl, fun j t ht => by
        have hm : t ∈ Tryd.f3.params.toList := by simpa using Array.mem_of_getElem? ht
        have hall : (Tryd.f3.params.toList.all fun u => !Tryd.prog.wantsStandIn u) = true := by kernel_rfl
        exact (show Tryd.prog.wantsStandIn t = false by simpa using List.all_eq_true.1 hall t hm)⟩)
    (by kernel_rfl)

end Go.Proofs.YthgcbomidamcfaaDoor
