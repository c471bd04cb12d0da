/-
  Proved: for every input the law WordLines returns true, and each argument reads behind the call as it read before. Conditions: none.
-/
import Derived.Test.YtkdepcfnipihhaaDoorTied
import Derived.Test.YtkdepcfnipihhaaDoorOpen
import Derived.Test.YtkdepcfnipihhaaDoorLaw05B
namespace Go.Proofs.YtkdepcfnipihhaaDoor
open Go.ChangeShapes Go.WideShapes Go.ChangeAt Go.RowKit

theorem wordLines_told {H : Type} {enc : TypeId × Value → H} {W : World} {base : Nat} {args : Array Value} {ds : List (DataW H)} (h : Told enc Tryd.f4 W base args ds) :
    ∃ (A_l : Option Addr) (c_l : Nat) (l : List (List UInt8)) (line : List UInt8), args = #[.slice A_l l.length c_l, .string (str line)] ∧ RowAt W W.heap.size A_l (strs l) ∧ (∀ y ∈ l, y.length ≤ maxLen) ∧ l.length ≤ c_l ∧ c_l ≤ maxLen ∧ line.length ≤ maxLen := by
  obtain ⟨hval, ⟨p, hA⟩, -⟩ := h
  rw [Tryd.params4] at hA hval
  obtain ⟨v0, vs0, d0, ds0, p0, q0, hargs, rfl, rfl, h0, r0⟩ := trodAll_cons hA
  obtain ⟨v1, vs1, d1, ds1, p1, q1, rfl, rfl, rfl, h1, r1⟩ := trodAll_cons r0
  obtain ⟨rfl, rfl, rfl⟩ := trodAll_nil r1
  obtain rfl : args = #[v0, v1] := by cases args; simp_all
  obtain ⟨A_l, c_l, l, rfl, l_row, l_all, l_cap, l_max⟩ := in_strs Tryd.underlying27 Tryd.underlying9 (by kernel_rfl) (hval 0 27 v0 rfl rfl) h0
  obtain ⟨line, rfl, line_len⟩ := in_str Tryd.underlying9 (hval 1 9 v1 rfl rfl) h1
  exact ⟨A_l, c_l, l, line, rfl, l_row, l_all, l_cap, l_max, line_len⟩
theorem wordLines_answers : Answers Rows.wordLinesSpec 2 := ⟨rfl, fun H ds h => by match ds, h with | [_, _], _ => rfl⟩
set_option maxRecDepth 100000 in
theorem wordLines_lifted (os : Os) (started : os.Started) (H : Type) (enc : TypeId × Value → H) :
    ReturnsInHanded {} Tryd.checked os 4 .any (fun w args => (Rows.wordLinesSpec.pre enc Tryd.prog Tryd.f4 Rows.wordLinesRow.domain false w args ∧ laidMetH Tryd.prog Rows.wordLinesRow.laid w) ∧ sizedMet enc Tryd.prog Tryd.f4 (OpenSpec.ofChange Rows.wordLinesSpec) false w args) (Rows.wordLinesSpec.post enc Tryd.prog Tryd.f4 false true false false) := by
  refine returns_shaped_and (C := Tryd.checked) (X := fun w _ => laidMetH Tryd.prog Rows.wordLinesRow.laid w) own started (by kernel_rfl) Tryd.func4
    (ChangeSpec.witness_shaped (enc := enc) (C := Tryd.checked) (os := os) (X := fun w _ => laidMetH Tryd.prog Rows.wordLinesRow.laid w) false (World.laidAll Tryd.prog os Rows.wordLinesRow.laid) #[.slice none 0 0, .string ⟨#[]⟩] 8 (World.laidAll_os _ _ _)
      (World.shaped_of_ZipB (by kernel_rfl) (by kernel_rfl)) (by kernel_rfl) (by kernel_rfl) (by kernel_rfl)
      (by rw [MakeChecks.laidMetH_plain _ _ _ (by kernel_rfl)]; exact laidMet_laidAll _ (by kernel_rfl) (by kernel_rfl))) ?_
  intro W base args ds gs before hval hW hsz hsh
  refine law_contract 4 Tryd.f4 Rows.wordLinesSpec wordLines_answers rfl (by kernel_rfl) base args ds gs before hval hW hsz fun ht => ?_
  obtain ⟨A_l, c_l, l, line, rfl, l_row, l_all, l_cap, _, _⟩ := wordLines_told ht
  exact wordLines_walk A_l c_l _ l line rfl l_cap l_all _ l_row (Tryd.laysM144.s1_3 W hsh)
theorem wordLines_holds : Rows.WordLinesSaid :=
  OpenClaim.holds_of_wide 4 Tryd.f4 rfl rfl rfl rfl rfl rfl rfl ⟨rfl, rfl, rfl, rfl, rfl⟩ rfl rfl rfl rfl rfl (by kernel_rfl) Tryd.func4 (by kernel_rfl)
    (of_decide_eq_true (by kernel_rfl)) (by unfold Func.isWrapper; first | (rw [if_pos (by decide +kernel)]; kernel_rfl) | (rw [if_neg (by decide +kernel)]; exact ⟨rfl, rfl⟩))
    (fun os started H enc _ => wordLines_lifted os started H enc)

theorem wordLines_card : Rows.WordLinesCardSaid :=
  Claim7.holds_tied_plain_at .later [] Rows.wordLinesCard.laidKinds true Rows.wordLinesCard.stood.harness false wordLines_holds (fun _ h => by cases h) (by kernel_rfl) (fun _ h => by cases h) wordLines_row_tie rfl ⟨rfl, rfl⟩ (by kernel_rfl) rfl
    (fun f fn hf hfn => by
      obtain rfl : f = 4 := Option.some.inj ((show Tryd.prog.funcNamed Rows.wordLinesRow.func = some 4 by kernel_rfl).symm.trans hf) |>.symm
      obtain rfl : fn = Tryd.f4 := (Option.some.inj (Tryd.func4.symm.trans hfn)).symm
      exact ⟨by kernel_rfl, fun j t ht => by
        have hm : t ∈ Tryd.f4.params.toList := by simpa using Array.mem_of_getElem? ht
        have hall : (Tryd.f4.params.toList.all fun u => !Tryd.prog.wantsStandIn u) = true := by kernel_rfl
        exact (show Tryd.prog.wantsStandIn t = false by simpa using List.all_eq_true.1 hall t hm)⟩)
    (by kernel_rfl)

end Go.Proofs.YtkdepcfnipihhaaDoor
