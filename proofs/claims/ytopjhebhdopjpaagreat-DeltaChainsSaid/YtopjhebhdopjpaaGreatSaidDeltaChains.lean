/-
  Proved: for every input the law DeltaChains returns true, and each argument reads behind the call as it read before. Conditions: none.
-/
import Derived.Test.YtopjhebhdopjpaaGreatMg18
namespace Go.Proofs.YtopjhebhdopjpaaGreat
open Go.ChangeShapes Go.WideShapes Go.ChangeAt Go.RowKit

set_option maxRecDepth 100000 in
theorem deltaChains_told {H : Type} {enc : TypeId × Value → H} {W : World} {base : Nat} {args : Array Value} {ds : List (DataW H)} (h : Told enc Tryz.f5 W base args ds) :
    ∃ (A_l : Option Addr) (c_l : Nat) (l : List (List Pc)) (A_d : Option Addr) (c_d : Nat) (d : List (List UInt8)), args = #[.slice A_l l.length c_l, .slice A_d d.length c_d] ∧ RdPP W A_l c_l l ∧ RdBB W A_d c_d d := by
  have hval := h.fits
  obtain ⟨p, hA⟩ := h.reads
  clear h
  rw [Tryz.params5] at hA hval
  obtain ⟨v0, vs0, d0, ds0, p0, q0, hargs, rfl, rfl, h0, r0⟩ := trodAll_cons hA
  obtain ⟨v1, vs1, d1, ds1, p1, q1, rfl, rfl, rfl, h1, r1⟩ := trodAll_cons r0
  obtain ⟨rfl, rfl, rfl⟩ := trodAll_nil r1
  obtain rfl : args = #[v0, v1] := by cases args; simp_all
  obtain ⟨A_l, c_l, l, rfl, l_rd⟩ := in_pcss (hval 0 39 v0 rfl rfl) h0
  obtain ⟨A_d, c_d, d, rfl, d_rd⟩ := in_bss (hval 1 40 v1 rfl rfl) h1
  exact ⟨A_l, c_l, l, A_d, c_d, d, rfl, l_rd, d_rd⟩
theorem deltaChains_answers : Answers Rows.deltaChainsSpec 2 := ⟨rfl, fun H ds h => by match ds, h with | [_, _], _ => rfl⟩
set_option maxRecDepth 100000 in
theorem deltaChains_lifted (os : Os) (started : os.Started) (H : Type) (enc : TypeId × Value → H) :
    ReturnsInHanded {} Tryz.checked os 5 .any (Rows.deltaChainsSpec.pre6 enc Tryz.prog Tryz.f5 Rows.deltaChainsRow.domain false) (Rows.deltaChainsSpec.post enc Tryz.prog Tryz.f5 false true false false) := by
  refine returnsInHanded_of_change_sized (C := Tryz.checked) own started (by kernel_rfl) Tryz.func5
    (ChangeSpec.witness6 (enc := enc) (C := Tryz.checked) false ⟨#[], #[.slice none 0 0, .slice none 0 0], []⟩ 8 (by kernel_rfl) (by kernel_rfl) (by kernel_rfl) (by kernel_rfl)) ?_
  intro W base args ds gs before hval hW _ hsz _
  refine law_contract 5 Tryz.f5 Rows.deltaChainsSpec deltaChains_answers rfl (by kernel_rfl) base args ds gs before hval hW hsz fun ht => ?_
  obtain ⟨A_l, c_l, l, A_d, c_d, d, rfl, l_rd, d_rd⟩ := deltaChains_told ht
  exact deltaChains_walk k_ddelta k_dapply k_dchain A_l A_d c_l c_d _ _ l d rfl rfl _ l_rd d_rd
theorem deltaChains_holds : Rows.DeltaChainsSaid :=
  OpenClaim.holds_of_wide 5 Tryz.f5 rfl rfl rfl rfl rfl rfl rfl ⟨rfl, rfl, rfl, rfl, rfl⟩ rfl rfl rfl rfl rfl (by kernel_rfl) Tryz.func5 (by kernel_rfl)
    (of_decide_eq_true (by kernel_rfl)) (by unfold Func.isWrapper; first | (rw [if_pos (by decide +kernel)]; kernel_rfl) | (rw [if_neg (by decide +kernel)]; exact ⟨rfl, rfl⟩))
    (fun os started H enc _ => deltaChains_lifted os started H enc)

end Go.Proofs.YtopjhebhdopjpaaGreat
