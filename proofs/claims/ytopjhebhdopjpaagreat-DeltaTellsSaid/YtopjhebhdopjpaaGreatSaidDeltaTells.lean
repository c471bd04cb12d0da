/-
  Proved: for every input the law DeltaTells returns true, and each argument reads behind the call as it read before. Conditions: none.
-/
import Derived.Test.YtopjhebhdopjpaaGreatMg18
namespace Go.Proofs.YtopjhebhdopjpaaGreat
open Go.ChangeShapes Go.WideShapes Go.ChangeAt Go.RowKit

set_option maxRecDepth 100000 in
theorem deltaTells_told {H : Type} {enc : TypeId × Value → H} {W : World} {base : Nat} {args : Array Value} {ds : List (DataW H)} (h : Told enc Tryz.f3 W base args ds) :
    ∃ (A_a : Option Addr) (c_a : Nat) (a : List Pc) (A_b : Option Addr) (c_b : Nat) (b : List Pc), args = #[.slice A_a a.length c_a, .slice A_b b.length c_b] ∧ RdPc W A_a c_a a ∧ RdPc W A_b c_b b := by
  have hval := h.fits
  obtain ⟨p, hA⟩ := h.reads
  clear h
  rw [Tryz.params3] at hA hval
  obtain ⟨v0, vs0, d0, ds0, p0, q0, hargs, rfl, rfl, h0, r0⟩ := trodAll_cons hA
  obtain ⟨v1, vs1, d1, ds1, p1, q1, rfl, rfl, rfl, h1, r1⟩ := trodAll_cons r0
  obtain ⟨rfl, rfl, rfl⟩ := trodAll_nil r1
  obtain rfl : args = #[v0, v1] := by cases args; simp_all
  obtain ⟨A_a, c_a, a, rfl, a_rd⟩ := in_pcs (hval 0 22 v0 rfl rfl) h0
  obtain ⟨A_b, c_b, b, rfl, b_rd⟩ := in_pcs (hval 1 22 v1 rfl rfl) h1
  exact ⟨A_a, c_a, a, A_b, c_b, b, rfl, a_rd, b_rd⟩
theorem deltaTells_answers : Answers Rows.deltaTellsSpec 2 := ⟨rfl, fun H ds h => by match ds, h with | [_, _], _ => rfl⟩
set_option maxRecDepth 100000 in
theorem deltaTells_lifted (os : Os) (started : os.Started) (H : Type) (enc : TypeId × Value → H) :
    ReturnsInHanded {} Tryz.checked os 3 .any (Rows.deltaTellsSpec.pre6 enc Tryz.prog Tryz.f3 Rows.deltaTellsRow.domain false) (Rows.deltaTellsSpec.post enc Tryz.prog Tryz.f3 false true false false) := by
  refine returnsInHanded_of_change_sized (C := Tryz.checked) own started (by kernel_rfl) Tryz.func3
    (ChangeSpec.witness6 (enc := enc) (C := Tryz.checked) false ⟨#[], #[.slice none 0 0, .slice none 0 0], []⟩ 8 (by kernel_rfl) (by kernel_rfl) (by kernel_rfl) (by kernel_rfl)) ?_
  intro W base args ds gs before hval hW _ hsz _
  refine law_contract 3 Tryz.f3 Rows.deltaTellsSpec deltaTells_answers rfl (by kernel_rfl) base args ds gs before hval hW hsz fun ht => ?_
  obtain ⟨A_a, c_a, a, A_b, c_b, b, rfl, a_rd, b_rd⟩ := deltaTells_told ht
  exact deltaTells_walk k_ddelta k_dapply A_a A_b c_a c_b _ _ a b rfl rfl _ a_rd b_rd
theorem deltaTells_holds : Rows.DeltaTellsSaid :=
  OpenClaim.holds_of_wide 3 Tryz.f3 rfl rfl rfl rfl rfl rfl rfl ⟨rfl, rfl, rfl, rfl, rfl⟩ rfl rfl rfl rfl rfl (by kernel_rfl) Tryz.func3 (by kernel_rfl)
    (of_decide_eq_true (by kernel_rfl)) (by unfold Func.isWrapper; first | (rw [if_pos (by decide +kernel)]; kernel_rfl) | (rw [if_neg (by decide +kernel)]; exact ⟨rfl, rfl⟩))
    (fun os started H enc _ => deltaTells_lifted os started H enc)

end Go.Proofs.YtopjhebhdopjpaaGreat
