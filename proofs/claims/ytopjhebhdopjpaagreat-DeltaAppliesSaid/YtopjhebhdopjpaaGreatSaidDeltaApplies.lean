/-
  Proved: for every input the law DeltaApplies returns true, and each argument reads behind the call as it read before. Conditions: none.
-/
import Derived.Test.YtopjhebhdopjpaaGreatMg18
namespace Go.Proofs.YtopjhebhdopjpaaGreat
open Go.ChangeShapes Go.WideShapes Go.ChangeAt Go.RowKit

set_option maxRecDepth 100000 in
theorem deltaApplies_told {H : Type} {enc : TypeId × Value → H} {W : World} {base : Nat} {args : Array Value} {ds : List (DataW H)} (h : Told enc Tryz.f4 W base args ds) :
    ∃ (A_a : Option Addr) (c_a : Nat) (a : List Pc) (A_d : Option Addr) (c_d : Nat) (d : List UInt8), args = #[.slice A_a a.length c_a, .slice A_d d.length c_d] ∧ RdPc W A_a c_a a ∧ RdB W W.heap.size A_d c_d d := by
  have hval := h.fits
  obtain ⟨p, hA⟩ := h.reads
  clear h
  rw [Tryz.params4] at hA hval
  obtain ⟨v0, vs0, d0, ds0, p0, q0, hargs, rfl, rfl, h0, r0⟩ := trodAll_cons hA
  obtain ⟨v1, vs1, d1, ds1, p1, q1, rfl, rfl, rfl, h1, r1⟩ := trodAll_cons r0
  obtain ⟨rfl, rfl, rfl⟩ := trodAll_nil r1
  obtain rfl : args = #[v0, v1] := by cases args; simp_all
  obtain ⟨A_a, c_a, a, rfl, a_rd⟩ := in_pcs (hval 0 22 v0 rfl rfl) h0
  obtain ⟨A_d, c_d, d, rfl, d_rd⟩ := in_bytes Tryz.underlying25 Tryz.underlying5 (by kernel_rfl) (hval 1 25 v1 rfl rfl) h1
  exact ⟨A_a, c_a, a, A_d, c_d, d, rfl, a_rd, d_rd⟩
theorem deltaApplies_answers : Answers Rows.deltaAppliesSpec 2 := ⟨rfl, fun H ds h => by match ds, h with | [_, _], _ => rfl⟩
set_option maxRecDepth 100000 in
theorem deltaApplies_lifted (os : Os) (started : os.Started) (H : Type) (enc : TypeId × Value → H) :
    ReturnsInHanded {} Tryz.checked os 4 .any (Rows.deltaAppliesSpec.pre6 enc Tryz.prog Tryz.f4 Rows.deltaAppliesRow.domain false) (Rows.deltaAppliesSpec.post enc Tryz.prog Tryz.f4 false true false false) := by
  refine returnsInHanded_of_change_sized (C := Tryz.checked) own started (by kernel_rfl) Tryz.func4
    (ChangeSpec.witness6 (enc := enc) (C := Tryz.checked) false ⟨#[], #[.slice none 0 0, .slice none 0 0], []⟩ 8 (by kernel_rfl) (by kernel_rfl) (by kernel_rfl) (by kernel_rfl)) ?_
  intro W base args ds gs before hval hW _ hsz _
  refine law_contract 4 Tryz.f4 Rows.deltaAppliesSpec deltaApplies_answers rfl (by kernel_rfl) base args ds gs before hval hW hsz fun ht => ?_
  obtain ⟨A_a, c_a, a, A_d, c_d, d, rfl, a_rd, d_rd⟩ := deltaApplies_told ht
  exact deltaApplies_walk k_ddelta k_dapply A_a A_d c_a c_d _ _ a d rfl rfl _ a_rd d_rd
theorem deltaApplies_holds : Rows.DeltaAppliesSaid :=
  OpenClaim.holds_of_wide 4 Tryz.f4 rfl rfl rfl rfl rfl rfl rfl ⟨rfl, rfl, rfl, rfl, rfl⟩ rfl rfl rfl rfl rfl (by kernel_rfl) Tryz.func4 (by kernel_rfl)
    (of_decide_eq_true (by kernel_rfl)) (by unfold Func.isWrapper; first | (rw [if_pos (by decide +kernel)]; kernel_rfl) | (rw [if_neg (by decide +kernel)]; exact ⟨rfl, rfl⟩))
    (fun os started H enc _ => deltaApplies_lifted os started H enc)

end Go.Proofs.YtopjhebhdopjpaaGreat
