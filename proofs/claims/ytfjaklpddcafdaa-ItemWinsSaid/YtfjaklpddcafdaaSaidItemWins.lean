/-
  Proved: for every input the law ItemWins returns true, and each argument reads behind the call as it read before. Conditions: none.
-/
import Derived.Test.YtfjaklpddcafdaaMg9
namespace Go.Proofs.Ytfjaklpddcafdaa
open Go.ChangeShapes Go.WideShapes Go.ChangeAt Go.RowKit

set_option maxRecDepth 100000 in
theorem itemWins_told {H : Type} {enc : TypeId × Value → H} {W : World} {base : Nat} {args : Array Value} {ds : List (DataW H)} (h : Told enc Try.f3 W base args ds) :
    ∃ (A_l : Option Addr) (c_l : Nat) (l : List Itm) (a : Itm) (b : Itm), args = #[.slice A_l l.length c_l, .agg #[.string (str a.key), .int .i64 a.ver.rep, .int .i64 a.ver.cnt, .int .i64 a.rank, .int .i64 a.prio, .bool a.dead, .string (str a.body)], .agg #[.string (str b.key), .int .i64 b.ver.rep, .int .i64 b.ver.cnt, .int .i64 b.rank, .int .i64 b.prio, .bool b.dead, .string (str b.body)]] ∧ kItm.Rd W W.heap.size A_l c_l l := by
  have hval := h.fits
  obtain ⟨p, hA⟩ := h.reads
  clear h
  rw [Try.params3] at hA hval
  obtain ⟨v0, vs0, d0, ds0, p0, q0, hargs, rfl, rfl, h0, r0⟩ := trodAll_cons hA
  obtain ⟨v1, vs1, d1, ds1, p1, q1, rfl, rfl, rfl, h1, r1⟩ := trodAll_cons r0
  obtain ⟨v2, vs2, d2, ds2, p2, q2, rfl, rfl, rfl, h2, r2⟩ := trodAll_cons r1
  obtain ⟨rfl, rfl, rfl⟩ := trodAll_nil r2
  obtain rfl : args = #[v0, v1, v2] := by cases args; simp_all
  obtain ⟨A_l, c_l, l, rfl, l_rd⟩ := in_itms (hval 0 22 v0 rfl rfl) h0
  obtain ⟨a, rfl⟩ := in_itm (hval 1 26 v1 rfl rfl) h1
  obtain ⟨b, rfl⟩ := in_itm (hval 2 26 v2 rfl rfl) h2
  exact ⟨A_l, c_l, l, a, b, rfl, l_rd⟩
theorem itemWins_answers : Answers Rows.itemWinsSpec 3 := ⟨rfl, fun H ds h => by match ds, h with | [_, _, _], _ => rfl⟩
set_option maxRecDepth 100000 in
theorem itemWins_lifted (os : Os) (started : os.Started) (H : Type) (enc : TypeId × Value → H) :
    ReturnsInHanded {} Try.checked os 3 .any (Rows.itemWinsSpec.pre6 enc Try.prog Try.f3 Rows.itemWinsRow.domain false) (Rows.itemWinsSpec.post enc Try.prog Try.f3 false true false false) := by
  refine returnsInHanded_of_change_sized (C := Try.checked) own started (by kernel_rfl) Try.func3
    (ChangeSpec.witness6 (enc := enc) (C := Try.checked) false ⟨#[], #[.slice none 0 0, .agg #[.string ⟨#[]⟩, .int .i64 0, .int .i64 0, .int .i64 0, .int .i64 0, .bool false, .string ⟨#[]⟩], .agg #[.string ⟨#[]⟩, .int .i64 0, .int .i64 0, .int .i64 0, .int .i64 0, .bool false, .string ⟨#[]⟩]], []⟩ 8 (by kernel_rfl) (by kernel_rfl) (by kernel_rfl) (by kernel_rfl)) ?_
  intro W base args ds gs before hval hW _ hsz _
  refine law_contract 3 Try.f3 Rows.itemWinsSpec itemWins_answers rfl (by kernel_rfl) base args ds gs before hval hW hsz fun ht => ?_
  obtain ⟨A_l, c_l, l, a, b, rfl, l_rd⟩ := itemWins_told ht
  exact itemWins_walk k_iright k_icmp k_iwins k_imerge A_l c_l _ l a b _ _ _ _ _ _ _ (IsI.mk' a) _ _ _ _ _ _ _ (IsI.mk' b) rfl _ l_rd
theorem itemWins_holds : Rows.ItemWinsSaid :=
  OpenClaim.holds_of_wide 3 Try.f3 rfl rfl rfl rfl rfl rfl rfl ⟨rfl, rfl, rfl, rfl, rfl⟩ rfl rfl rfl rfl rfl (by kernel_rfl) Try.func3 (by kernel_rfl)
    (of_decide_eq_true (by kernel_rfl)) (by unfold Func.isWrapper; first | (rw [if_pos (by decide +kernel)]; kernel_rfl) | (rw [if_neg (by decide +kernel)]; exact ⟨rfl, rfl⟩))
    (fun os started H enc _ => itemWins_lifted os started H enc)

end Go.Proofs.Ytfjaklpddcafdaa
