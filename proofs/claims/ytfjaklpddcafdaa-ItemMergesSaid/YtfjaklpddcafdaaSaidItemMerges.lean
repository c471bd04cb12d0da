/-
  Proved: for every input the law ItemMerges returns true, and each argument reads behind the call as it read before. Conditions: none.
-/
import Derived.Test.YtfjaklpddcafdaaMg9
namespace Go.Proofs.Ytfjaklpddcafdaa
open Go.ChangeShapes Go.WideShapes Go.ChangeAt Go.RowKit

set_option maxRecDepth 100000 in
theorem itemMerges_told {H : Type} {enc : TypeId × Value → H} {W : World} {base : Nat} {args : Array Value} {ds : List (DataW H)} (h : Told enc Try.f5 W base args ds) :
    ∃ (A_a : Option Addr) (c_a : Nat) (a : List Itm) (A_b : Option Addr) (c_b : Nat) (b : List Itm) (A_r : Option Addr) (c_r : Nat) (r : List Rng), args = #[.slice A_a a.length c_a, .slice A_b b.length c_b, .slice A_r r.length c_r] ∧ kItm.Rd W W.heap.size A_a c_a a ∧ kItm.Rd W W.heap.size A_b c_b b ∧ kRng.Rd W W.heap.size A_r c_r r := by
  have hval := h.fits
  obtain ⟨p, hA⟩ := h.reads
  clear h
  rw [Try.params5] at hA hval
  obtain ⟨v0, vs0, d0, ds0, p0, q0, hargs, rfl, rfl, h0, r0⟩ := trodAll_cons hA
  obtain ⟨v1, vs1, d1, ds1, p1, q1, rfl, rfl, rfl, h1, r1⟩ := trodAll_cons r0
  obtain ⟨v2, vs2, d2, ds2, p2, q2, rfl, rfl, rfl, h2, r2⟩ := trodAll_cons r1
  obtain ⟨rfl, rfl, rfl⟩ := trodAll_nil r2
  obtain rfl : args = #[v0, v1, v2] := by cases args; simp_all
  obtain ⟨A_a, c_a, a, rfl, a_rd⟩ := in_itms (hval 0 22 v0 rfl rfl) h0
  obtain ⟨A_b, c_b, b, rfl, b_rd⟩ := in_itms (hval 1 22 v1 rfl rfl) h1
  obtain ⟨A_r, c_r, r, rfl, r_rd⟩ := in_rngs (hval 2 41 v2 rfl rfl) h2
  exact ⟨A_a, c_a, a, A_b, c_b, b, A_r, c_r, r, rfl, a_rd, b_rd, r_rd⟩
theorem itemMerges_answers : Answers Rows.itemMergesSpec 3 := ⟨rfl, fun H ds h => by match ds, h with | [_, _, _], _ => rfl⟩
set_option maxRecDepth 100000 in
theorem itemMerges_lifted (os : Os) (started : os.Started) (H : Type) (enc : TypeId × Value → H) :
    ReturnsInHanded {} Try.checked os 5 .any (Rows.itemMergesSpec.pre6 enc Try.prog Try.f5 Rows.itemMergesRow.domain false) (Rows.itemMergesSpec.post enc Try.prog Try.f5 false true false false) := by
  refine returnsInHanded_of_change_sized (C := Try.checked) own started (by kernel_rfl) Try.func5
    (ChangeSpec.witness6 (enc := enc) (C := Try.checked) false ⟨#[], #[.slice none 0 0, .slice none 0 0, .slice none 0 0], []⟩ 8 (by kernel_rfl) (by kernel_rfl) (by kernel_rfl) (by kernel_rfl)) ?_
  intro W base args ds gs before hval hW _ hsz _
  refine law_contract 5 Try.f5 Rows.itemMergesSpec itemMerges_answers rfl (by kernel_rfl) base args ds gs before hval hW hsz fun ht => ?_
  obtain ⟨A_a, c_a, a, A_b, c_b, b, A_r, c_r, r, rfl, a_rd, b_rd, r_rd⟩ := itemMerges_told ht
  exact itemMerges_walk k_iright k_icmp k_iwins k_imerge k_iin A_a A_b A_r c_a c_b c_r _ _ _ a b r rfl rfl rfl _ a_rd b_rd r_rd
theorem itemMerges_holds : Rows.ItemMergesSaid :=
  OpenClaim.holds_of_wide 5 Try.f5 rfl rfl rfl rfl rfl rfl rfl ⟨rfl, rfl, rfl, rfl, rfl⟩ rfl rfl rfl rfl rfl (by kernel_rfl) Try.func5 (by kernel_rfl)
    (of_decide_eq_true (by kernel_rfl)) (by unfold Func.isWrapper; first | (rw [if_pos (by decide +kernel)]; kernel_rfl) | (rw [if_neg (by decide +kernel)]; exact ⟨rfl, rfl⟩))
    (fun os started H enc _ => itemMerges_lifted os started H enc)

end Go.Proofs.Ytfjaklpddcafdaa
