/-
  Proved: for every input the law ItemChain returns true, and each argument reads behind the call as it read before. Conditions: none.
-/
import Derived.Test.YtfjaklpddcafdaaMg9
namespace Go.Proofs.Ytfjaklpddcafdaa
open Go.ChangeShapes Go.WideShapes Go.ChangeAt Go.RowKit

set_option maxRecDepth 100000 in
theorem itemChain_told {H : Type} {enc : TypeId × Value → H} {W : World} {base : Nat} {args : Array Value} {ds : List (DataW H)} (h : Told enc Try.f6 W base args ds) :
    ∃ (A_a : Option Addr) (c_a : Nat) (a : List Itm) (A_b : Option Addr) (c_b : Nat) (b : List Itm) (A_c : Option Addr) (c_c : Nat) (c : List Itm), args = #[.slice A_a a.length c_a, .slice A_b b.length c_b, .slice A_c c.length c_c] ∧ kItm.Rd W W.heap.size A_a c_a a ∧ kItm.Rd W W.heap.size A_b c_b b ∧ kItm.Rd W W.heap.size A_c c_c c := by
  have hval := h.fits
  obtain ⟨p, hA⟩ := h.reads
  clear h
  rw [Try.params6] at hA hval
  obtain ⟨v0, vs0, d0, ds0, p0, q0, hargs, rfl, rfl, h0, r0⟩ := trodAll_cons hA
  obtain ⟨v1, vs1, d1, ds1, p1, q1, rfl, rfl, rfl, h1, r1⟩ := trodAll_cons r0
  obtain ⟨v2, vs2, d2, ds2, p2, q2, rfl, rfl, rfl, h2, r2⟩ := trodAll_cons r1
  obtain ⟨rfl, rfl, rfl⟩ := trodAll_nil r2
  obtain rfl : args = #[v0, v1, v2] := by cases args; simp_all
  obtain ⟨A_a, c_a, a, rfl, a_rd⟩ := in_itms (hval 0 22 v0 rfl rfl) h0
  obtain ⟨A_b, c_b, b, rfl, b_rd⟩ := in_itms (hval 1 22 v1 rfl rfl) h1
  obtain ⟨A_c, c_c, c, rfl, c_rd⟩ := in_itms (hval 2 22 v2 rfl rfl) h2
  exact ⟨A_a, c_a, a, A_b, c_b, b, A_c, c_c, c, rfl, a_rd, b_rd, c_rd⟩
theorem itemChain_answers : Answers Rows.itemChainSpec 3 := ⟨rfl, fun H ds h => by match ds, h with | [_, _, _], _ => rfl⟩
set_option maxRecDepth 100000 in
theorem itemChain_lifted (os : Os) (started : os.Started) (H : Type) (enc : TypeId × Value → H) :
    ReturnsInHanded {} Try.checked os 6 .any (Rows.itemChainSpec.pre6 enc Try.prog Try.f6 Rows.itemChainRow.domain false) (Rows.itemChainSpec.post enc Try.prog Try.f6 false true false false) := by
  refine returnsInHanded_of_change_sized (C := Try.checked) own started (by kernel_rfl) Try.func6
    (ChangeSpec.witness6 (enc := enc) (C := Try.checked) false ⟨#[], #[.slice none 0 0, .slice none 0 0, .slice none 0 0], []⟩ 8 (by kernel_rfl) (by kernel_rfl) (by kernel_rfl) (by kernel_rfl)) ?_
  intro W base args ds gs before hval hW _ hsz _
  refine law_contract 6 Try.f6 Rows.itemChainSpec itemChain_answers rfl (by kernel_rfl) base args ds gs before hval hW hsz fun ht => ?_
  obtain ⟨A_a, c_a, a, A_b, c_b, b, A_c, c_c, c, rfl, a_rd, b_rd, c_rd⟩ := itemChain_told ht
  exact itemChain_walk k_iright k_icmp k_iwins k_imerge A_a A_b A_c c_a c_b c_c _ _ _ a b c rfl rfl rfl _ a_rd b_rd c_rd
theorem itemChain_holds : Rows.ItemChainSaid :=
  OpenClaim.holds_of_wide 6 Try.f6 rfl rfl rfl rfl rfl rfl rfl ⟨rfl, rfl, rfl, rfl, rfl⟩ rfl rfl rfl rfl rfl (by kernel_rfl) Try.func6 (by kernel_rfl)
    (of_decide_eq_true (by kernel_rfl)) (by unfold Func.isWrapper; first | (rw [if_pos (by decide +kernel)]; kernel_rfl) | (rw [if_neg (by decide +kernel)]; exact ⟨rfl, rfl⟩))
    (fun os started H enc _ => itemChain_lifted os started H enc)

end Go.Proofs.Ytfjaklpddcafdaa
