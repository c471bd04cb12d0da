/-
  Several texts in one: KeyC, KeyD, KeyE, Law06A, Law06B, SpanA, SpanB, RgsA, RgsB, RgsC, KnwA, RgsD.
-/
import Derived.Deep.RegionHeld3
import Derived.BigRegion
import Derived.Deep.QuietTactic
import Derived.BigQuiet
import Derived.IntWalk
import Derived.Test.YtaodifpnfejbbaaGreatMg4
/-
  Layer 6 (key): with what texts begin; the first of all texts behind all that begin with one.
-/
namespace Go.Proofs.YtaodifpnfejbbaaGreat
open Go.RowKit

theorem run_str_to {P : Program} {t : TypeId} (ht : P.underlying t = some .string) (w : World) (S : ByteArray) (k : Nat) (i : Int) (hi : i = (k : Int)) (hk : k ≤ S.size) :
    (Instr.slice t (.string S) none (some (.int .i64 i)) none).run P w = .ok (.string (S.extract 0 k)) w := by
  subst hi
  rw [run_slice_string_to_if w t S .i64 _ ht, if_pos (by omega)]
  rfl
end Go.Proofs.YtaodifpnfejbbaaGreat

/-
  Layer 6 (key): the document's end of a text; with what all texts begin.
-/
namespace Go.Proofs.YtaodifpnfejbbaaGreat
open Go.RowKit

theorem run_txt_add {P : Program} (a b : List UInt8) (h : a.length + b.length ≤ 9223372036854775807) (w : World) : (Op.stringOp .add (str a) (str b)).run P w = .ok (.string (str (a ++ b))) w := by
  rw [run_string_add_sum _ _ _ (by rw [str_size, str_size]; exact h), txt_app]
/-- What an end hands back. -/
def EndV (p : List UInt8) (e : Ending) : Prop :=
  (∃ x, endV p = some x ∧ e = .returned (.tuple #[.string (str x), .bool true])) ∨ (endV p = none ∧ e = .returned (.tuple #[.string (str []), .bool false]))
theorem drewN2 (w : World) (a b : Nat) : ∃ n, (w.drewN a).drewN b = w.drewN n := ⟨_, World.drewN_drewN _ _ _⟩
theorem alike_post {a b : List UInt8} {k na nb : Nat} (ha : na = a.length) (hb : nb = b.length) (h1 : k ≤ na) (h2 : k ≤ nb) (h3 : a.take k = b.take k) (h4 : k < na → k < nb → a.getD k 0 ≠ b.getD k 0) : (k : Int) = (alikeN a b : Nat) := by
  rw [alikeN_at (by omega) (by omega) h3 (fun u v => h4 (by omega) (by omega))]
end Go.Proofs.YtaodifpnfejbbaaGreat

/-
  Layer 6 (key): the longest text with which all begin.
-/
namespace Go.Proofs.YtaodifpnfejbbaaGreat
open Go.RowKit

theorem commonF_len (s : List UInt8) (r : List (List UInt8)) : (commonF s r).length ≤ s.length := ((commonF_pre r s).1).length_le
theorem strs_take_step {r : List (List UInt8)} {k : Nat} (s : List UInt8) (h : k < r.length) : commonF s (r.take (k + 1)) = (commonF s (r.take k)).take (alikeN (commonF s (r.take k)) (r.getD k [])) := by
  have e : r.take (k + 1) = r.take k ++ [r.getD k []] := by
    rw [List.take_succ_eq_append_getElem h]; simp [List.getD, List.getElem?_eq_getElem h]
  rw [e, commonF_snoc]
theorem string_size (w : World) : (sizeOf 9).run Tryz.prog w = .ok 1 w := by kernel_rfl
end Go.Proofs.YtaodifpnfejbbaaGreat

/-
  The laws of layer 6: the chapter's examples; KeyOrder, KeyTotal.
-/
namespace Go.Proofs.YtaodifpnfejbbaaGreat
open Go.RowKit

/-! The callees over letters: the texts are named ahead of a walk. -/
theorem less_is (a b : List UInt8) (S T : ByteArray) (hS : str a = S) (hT : str b = T) (ha : a.length ≤ 1000000) (v : Bool) (hv : ltB a b = v) (w : World) : Calls Tryz.prog 41 #[.string S, .string T] w fun e w' => e = .returned (.bool v) ∧ Below w.heap.size w w' := by
  subst hS hT hv
  exact (ref_less a b (by omega) w).mono fun e w' ⟨h1, n, h2⟩ => ⟨h1, below_quiet h2⟩
theorem cmp_is (a b : List UInt8) (S T : ByteArray) (hS : str a = S) (hT : str b = T) (v : Int) (hv : Lib.compareBytes a b = v) (w : World) : Calls Tryz.prog 76 #[.string S, .string T] w fun e w' => e = .returned (.int .i64 v) ∧ w = w' := by
  subst hS hT hv
  exact key_cmp a b w
theorem right_is (a : List UInt8) (S : ByteArray) (hS : str a = S) (v : Bool) (hv : rightB a = v) (w : World) : Calls Tryz.prog 52 #[.string S] w fun e w' => e = .returned (.bool v) ∧ w = w' := by
  subst hS hv
  exact key_right a w
theorem rright_is (a : List UInt8) (S : ByteArray) (hS : str a = S) (v : Bool) (hv : rightB a = v) (w : World) : Calls Tryz.prog 56 #[.string S] w fun e w' => e = .returned (.bool v) ∧ w = w' := by
  subst hS hv
  exact ref_right a w
theorem edge_is (a : List UInt8) (S : ByteArray) (hS : str a = S) (v : Bool) (hv : edgeB a = v) (w : World) : Calls Tryz.prog 110 #[.string S] w fun e w' => e = .returned (.bool v) ∧ w = w' := by
  subst hS hv
  exact key_edge a w
theorem next_is (a : List UInt8) (S T : ByteArray) (hS : str a = S) (hT : str (a ++ [0]) = T) (ha : a.length ≤ 1000000) (w : World) : Calls Tryz.prog 90 #[.string S] w fun e w' => e = .returned (.string T) ∧ Below w.heap.size w w' := by
  subst hS hT
  exact key_next a ha w
theorem txt_ne {a b : List UInt8} {S T : ByteArray} (hS : str a = S) (hT : str b = T) (h : a ≠ b) : (S.toList == T.toList) = false := by
  subst hS hT
  rw [str_toList, str_toList]
  simpa using h
theorem edge_int (a : List UInt8) (S : ByteArray) (hS : str a = S) : edgeB a = decide ((S.size : Int) ≤ 17) := by
  subst hS
  unfold edgeB
  rw [str_size]
  exact decide_eq_decide.2 (by omega)
/-- What three texts' places have to do with one another. -/
theorem cmp_three (a b c : List UInt8) : ∃ x y z : Int, Lib.compareBytes a b = x ∧ Lib.compareBytes b c = y ∧ Lib.compareBytes a c = z ∧
    ((x = 0 ∧ y = z ∧ (y = -1 ∨ y = 0 ∨ y = 1)) ∨ (x = -1 ∧ (y = -1 ∨ y = 0) ∧ z = -1) ∨ (x = 1 ∧ (y = 1 ∨ y = 0) ∧ z = 1) ∨ (x = -1 ∧ y = 1 ∧ (z = -1 ∨ z = 0 ∨ z = 1)) ∨ (x = 1 ∧ y = -1 ∧ (z = -1 ∨ z = 0 ∨ z = 1))) := by
  have any : ∀ a b : List UInt8, Lib.compareBytes a b = -1 ∨ Lib.compareBytes a b = 0 ∨ Lib.compareBytes a b = 1 := fun a b => by
    rcases ltB_three a b with ⟨h, _, _⟩ | ⟨_, h, _⟩ | ⟨_, _, rfl⟩
    · exact .inl (cmp_lt h)
    · exact .inr (.inr (cmp_gt h))
    · exact .inr (.inl (cmp_self a))
  refine ⟨_, _, _, rfl, rfl, rfl, ?_⟩
  rcases ltB_three a b with ⟨h1, _, _⟩ | ⟨_, h1, _⟩ | ⟨_, _, rfl⟩
  · rcases ltB_three b c with ⟨h2, _, _⟩ | ⟨_, h2, _⟩ | ⟨_, _, rfl⟩
    · exact .inr (.inl ⟨cmp_lt h1, .inl (cmp_lt h2), cmp_lt (ltB_trans h1 h2)⟩)
    · exact .inr (.inr (.inr (.inl ⟨cmp_lt h1, cmp_gt h2, any a c⟩)))
    · exact .inr (.inl ⟨cmp_lt h1, .inr (cmp_self b), cmp_lt h1⟩)
  · rcases ltB_three b c with ⟨h2, _, _⟩ | ⟨_, h2, _⟩ | ⟨_, _, rfl⟩
    · exact .inr (.inr (.inr (.inr ⟨cmp_gt h1, cmp_lt h2, any a c⟩)))
    · exact .inr (.inr (.inl ⟨cmp_gt h1, .inl (cmp_gt h2), cmp_gt (ltB_trans h2 h1)⟩))
    · exact .inr (.inr (.inl ⟨cmp_gt h1, .inr (cmp_self b), cmp_gt h1⟩))
  · exact .inl ⟨cmp_self a, rfl, any a c⟩
end Go.Proofs.YtaodifpnfejbbaaGreat

/-
  The laws of layer 6: KeyNext.
-/
namespace Go.Proofs.YtaodifpnfejbbaaGreat
open Go.RowKit

/-- What an end's two results are. -/
theorem endO (a : List UInt8) : ∃ (x : List UInt8) (v : Bool), (endV a = some x ∧ v = true) ∨ (endV a = none ∧ x = [] ∧ v = false) := by
  cases h : endV a with
  | some x => exact ⟨x, true, .inl ⟨rfl, rfl⟩⟩
  | none => exact ⟨[], false, .inr ⟨rfl, rfl, rfl⟩⟩
theorem endO_len {a x : List UInt8} {v : Bool} (h : (endV a = some x ∧ v = true) ∨ (endV a = none ∧ x = [] ∧ v = false)) : x.length ≤ a.length := by
  rcases h with ⟨h, _⟩ | ⟨_, rfl, _⟩
  · exact (endV_len h).2
  · simp
theorem end_betweenO {a x : List UInt8} {v : Bool} (h : (endV a = some x ∧ v = true) ∨ (endV a = none ∧ x = [] ∧ v = false)) (t : List UInt8) : a.isPrefixOf t = (!ltB t a && (!v || ltB t x)) := by
  rw [← end_between a t]
  rcases h with ⟨h, rfl⟩ | ⟨h, rfl, rfl⟩ <;> rw [h] <;> simp [aheadO]
theorem next_noneB {s t : List UInt8} {v : Bool} (h : ltB s t = v) : v = true → ltB t (s ++ [0]) = false := fun e => next_none (h.trans e)

end Go.Proofs.YtaodifpnfejbbaaGreat

/-
  Layer 7 (span): which ranges are right, in the program's words and in the document's.
-/
namespace Go.Proofs.YtaodifpnfejbbaaGreat
open Go.RowKit

theorem edgeB_le {l : List UInt8} : edgeB l = decide (l.length ≤ 17) := rfl
theorem txt_empty {l : List UInt8} {S : ByteArray} (h : str l = S) : (S.toList == []) = l.isEmpty := by
  subst h; rw [str_toList]; cases l <;> rfl
/-- Of two texts which stands ahead, as a number and as a test. -/
theorem cmp_test (a b : List UInt8) : ∃ x : Int, Lib.compareBytes a b = x ∧ decide (x < 0) = ltB a b ∧ decide (0 ≤ x) = !ltB a b := by
  refine ⟨_, rfl, ?_, ?_⟩
  · rw [cmp_ltB]; cases ltB a b with
    | true => rfl
    | false => cases ltB b a <;> rfl
  · rw [cmp_ltB]; cases ltB a b with
    | true => rfl
    | false => cases ltB b a <;> rfl

theorem span_right (r : Rng) (S T : ByteArray) (o v : Bool) (h : IsR r S T o) (hv : rightR r = v) (w : World) :
    Calls Tryz.prog 74 #[.agg #[.string S, .string T, .bool o]] w fun e w' => e = .returned (.bool v) ∧ Below w.heap.size w w' := by
  obtain ⟨h1, h2, h3⟩ := h
  cases ho : o with
  | true =>
    subst ho
    rw [rightR_open h3] at hv
    obtain ⟨v1, e1⟩ : ∃ v1, edgeB r.lo = v1 := ⟨_, rfl⟩
    obtain ⟨v2, e2⟩ : ∃ v2, r.hi.isEmpty = v2 := ⟨_, rfl⟩
    have hT := (txt_empty h2).trans e2
    have E1 := fun w => Lib.hid (edge_is r.lo S h1 v1 e1 w)
    rw [← edgeB_le, e1, e2] at hv
    clear e1 e2 h1 h2 h3
    subst hv
    cases v1 <;> cases v2
    all_goals
      go_enter Tryz.func74, Tryz.ntmps74
      go_wp2_with ((with_reducible refine (E1 _).out.mono ?_); rintro e w' ⟨rfl, rfl⟩)
      go_ret
      exact ⟨rfl, (Below.refl _ _).alloc (Nat.le_refl _) _⟩
  | false =>
    subst ho
    rw [rightR_shut h3] at hv
    obtain ⟨v1, e1⟩ : ∃ v1, edgeB r.lo = v1 := ⟨_, rfl⟩
    obtain ⟨v2, e2⟩ : ∃ v2, edgeB r.hi = v2 := ⟨_, rfl⟩
    have E1 := fun w => Lib.hid (edge_is r.lo S h1 v1 e1 w)
    have E2 := fun w => Lib.hid (edge_is r.hi T h2 v2 e2 w)
    rw [← edgeB_le, ← edgeB_le, e1, e2] at hv
    clear e1 e2
    obtain ⟨x, hx, hx1, -⟩ := cmp_test r.lo r.hi
    have C := fun w => Lib.hid (cmp_is r.lo r.hi S T h1 h2 x hx w)
    rw [← hx1] at hv
    clear hx1 hx h1 h2 h3
    subst hv
    cases v1 <;> cases v2
    all_goals
      go_enter Tryz.func74, Tryz.ntmps74
      go_wp2_with (first | ((with_reducible refine (E1 _).out.mono ?_); rintro e w' ⟨rfl, rfl⟩) | ((with_reducible refine (E2 _).out.mono ?_); rintro e w' ⟨rfl, rfl⟩) | ((with_reducible refine (C _).out.mono ?_); rintro e w' ⟨rfl, rfl⟩))
      go_ret
      exact ⟨rfl, (Below.refl _ _).alloc (Nat.le_refl _) _⟩
theorem refR_open {r : Rng} (h : r.op = true) : rightR r = (decide (r.lo.length ≤ 17) && (decide (r.hi.length ≤ 17) && r.hi.isEmpty)) := by
  rw [rightR_open h]
  cases hh : r.hi with
  | nil => rfl
  | cons x l => simp
theorem size_le17 {l : List UInt8} {S : ByteArray} (h : str l = S) : decide (17 < S.size) = !decide (l.length ≤ 17) := by
  subst h; rw [str_size]; by_cases h : l.length ≤ 17 <;> simp [h] <;> omega
theorem ref_rright (r : Rng) (S T : ByteArray) (o v : Bool) (h : IsR r S T o) (hv : rightR r = v) (w : World) :
    Calls Tryz.prog 39 #[.agg #[.string S, .string T, .bool o]] w fun e w' => e = .returned (.bool v) ∧ Below w.heap.size w w' := by
  obtain ⟨h1, h2, h3⟩ := h
  have hz1 : S.size = r.lo.length := by subst h1; exact str_size _
  have hz2 : T.size = r.hi.length := by subst h2; exact str_size _
  by_cases g1 : r.lo.length ≤ 17
  · by_cases g2 : r.hi.length ≤ 17
    · have k1 : S.size ≤ 17 := by omega
      have k2 : T.size ≤ 17 := by omega
      cases ho : o with
      | true =>
        subst ho
        obtain ⟨v2, e2⟩ : ∃ v2, r.hi.isEmpty = v2 := ⟨_, rfl⟩
        have hT := (txt_empty h2).trans e2
        rw [rightR_open h3, decide_eq_true g1, e2, Bool.true_and] at hv
        clear e2 h1 h2 h3 hz1 hz2
        subst hv
        go_enter Tryz.func39, Tryz.ntmps39
        go_wp2_with fail
        go_ret
        exact ⟨rfl, (Below.refl _ _).alloc (Nat.le_refl _) _⟩
      | false =>
        subst ho
        rw [rightR_shut h3, decide_eq_true g1, decide_eq_true g2, Bool.true_and, Bool.true_and] at hv
        have L := fun w => Lib.hid (less_is r.lo r.hi S T h1 h2 (by omega) v hv w)
        clear h1 h2 h3 hz1 hz2 hv
        go_enter Tryz.func39, Tryz.ntmps39
        go_wp2_with ((with_reducible refine (L _).out.mono ?_); rintro e w' ⟨rfl, hb⟩)
        go_ret
        exact ⟨rfl, ((Below.refl _ _).alloc (Nat.le_refl _) _).trans (hb.mono (by simp))⟩
    · have k1 : S.size ≤ 17 := by omega
      have k2 : 17 < T.size := by omega
      have hv' : v = false := by
        rw [← hv, Bool.eq_false_iff]; intro e; exact g2 (rightR_hi e)
      subst hv'
      clear h1 h2 h3 hz1 hz2 hv
      go_enter Tryz.func39, Tryz.ntmps39
      go_wp2_with fail
      go_ret
      exact ⟨rfl, (Below.refl _ _).alloc (Nat.le_refl _) _⟩
  · have k1 : 17 < S.size := by omega
    have hv' : v = false := by
      rw [← hv, Bool.eq_false_iff]; intro e; exact g1 (rightR_lo e)
    subst hv'
    clear h1 h2 h3 hz1 hz2 hv
    go_enter Tryz.func39, Tryz.ntmps39
    go_wp2_with fail
    go_ret
    exact ⟨rfl, (Below.refl _ _).alloc (Nat.le_refl _) _⟩
end Go.Proofs.YtaodifpnfejbbaaGreat

/-
  Layer 7 (span): which texts a range has; the ranges of all texts, of one, of those that begin with one.
-/
namespace Go.Proofs.YtaodifpnfejbbaaGreat
open Go.RowKit

theorem span_has (r : Rng) (s : List UInt8) (S T U : ByteArray) (o v : Bool) (h : IsR r S T o) (hU : str s = U) (hv : hasR r s = v) (w : World) :
    Calls Tryz.prog 44 #[.agg #[.string S, .string T, .bool o], .string U] w fun e w' => e = .returned (.bool v) ∧ Below w.heap.size w w' := by
  obtain ⟨v1, e1⟩ : ∃ v1, rightR r = v1 := ⟨_, rfl⟩
  have R1 := fun w => Lib.hid (span_right r S T o v1 h e1 w)
  obtain ⟨h1, h2, h3⟩ := h
  obtain ⟨x, hx, -, hx1⟩ := cmp_test s r.lo
  obtain ⟨y, hy, hy1, -⟩ := cmp_test s r.hi
  have C1 := fun w => Lib.hid (cmp_is s r.lo U S hU h1 x hx w)
  have C2 := fun w => Lib.hid (cmp_is s r.hi U T hU h2 y hy w)
  unfold hasR aheadR at hv
  rw [e1, ← hx1, ← hy1, h3] at hv
  clear e1 hx hy hx1 hy1 h1 h2 h3 hU
  obtain ⟨d1, g1⟩ : ∃ d1, decide (0 ≤ x) = d1 := ⟨_, rfl⟩
  obtain ⟨d2, g2⟩ : ∃ d2, decide (y < 0) = d2 := ⟨_, rfl⟩
  rw [g1, g2] at hv
  subst hv
  cases v1 <;> cases d1 <;> cases o <;> cases d2
  all_goals
    go_enter Tryz.func44, Tryz.ntmps44
    go_wp2_with (first | ((with_reducible refine (R1 _).out.mono ?_); rintro e w' ⟨rfl, hb⟩; obtain ⟨hc, -⟩ := bcell hb) | ((with_reducible refine (C1 _).out.mono ?_); rintro e w' ⟨rfl, rfl⟩) | ((with_reducible refine (C2 _).out.mono ?_); rintro e w' ⟨rfl, rfl⟩))
    go_ret
    exact ⟨rfl, ((Below.refl _ _).alloc (Nat.le_refl _) _).trans (hb.mono (by simp))⟩
theorem ref_has (r : Rng) (s : List UInt8) (S T U : ByteArray) (o v : Bool) (h : IsR r S T o) (hU : str s = U) (hs : s.length ≤ 1000000) (hv : hasR r s = v) (w : World) :
    Calls Tryz.prog 46 #[.agg #[.string S, .string T, .bool o], .string U] w fun e w' => e = .returned (.bool v) ∧ Below w.heap.size w w' := by
  obtain ⟨v1, e1⟩ : ∃ v1, rightR r = v1 := ⟨_, rfl⟩
  have R1 := fun w => Lib.hid (ref_rright r S T o v1 h e1 w)
  obtain ⟨h1, h2, h3⟩ := h
  obtain ⟨d1, g1⟩ : ∃ d1, ltB s r.lo = d1 := ⟨_, rfl⟩
  obtain ⟨d2, g2⟩ : ∃ d2, ltB s r.hi = d2 := ⟨_, rfl⟩
  have L1 := fun w => Lib.hid (less_is s r.lo U S hU h1 hs d1 g1 w)
  have L2 := fun w => Lib.hid (less_is s r.hi U T hU h2 hs d2 g2 w)
  unfold hasR aheadR at hv
  rw [e1, g1, g2, h3] at hv
  clear e1 g1 g2 h1 h2 h3 hU
  subst hv
  cases v1 <;> cases d1 <;> cases o <;> cases d2
  all_goals
    go_enter Tryz.func46, Tryz.ntmps46
    go_wp2_with (first | ((with_reducible refine (R1 _).out.mono ?_); rintro e w' ⟨rfl, hq⟩; obtain ⟨hc, -⟩ := bcell hq) | ((with_reducible refine (L1 _).out.mono ?_); rintro e w2 ⟨rfl, hq2⟩; replace hc := fun b o h => ((bcell hq2).1 b o (Nat.lt_of_lt_of_le h hq.size)).trans (hc b o h); replace hq := hq.trans (hq2.mono hq.size); clear hq2) | ((with_reducible refine (L2 _).out.mono ?_); rintro e w3 ⟨rfl, hq3⟩; replace hq := hq.trans (hq3.mono hq.size); clear hq3))
    go_ret
    exact ⟨rfl, ((Below.refl _ _).alloc (Nat.le_refl _) _).trans (hq.mono (by simp))⟩

end Go.Proofs.YtaodifpnfejbbaaGreat

/-
  Layer 8 (ranges), the document's words: which texts a list has; is it right; is a text of what is meant.
-/
namespace Go.Proofs.YtaodifpnfejbbaaGreat
open Go.RowKit

theorem rd_max {P : Program} {α : Type} {k : Kind P α} {w : World} {B : Nat} {A : Option Addr} {c n : Nat} {l : List α} (h : k.Rd w B A c l) (hn : n = l.length) : n ≤ 9223372036854775807 := by
  have h1 := h.room
  have h2 := h.cap
  unfold maxLen at h2
  omega
set_option maxHeartbeats 400000 in
theorem ref_lhas (A : Option Addr) (c n : Nat) (l : List Rng) (s : List UInt8) (U : ByteArray) (hn : n = l.length) (hU : str s = U) (hs : s.length ≤ 1000000) (v : Bool) (hv : hasL l s = v) (w : World) (hr : kRng.Rd w w.heap.size A c l) :
    Calls Tryz.prog 118 #[.slice A n c, .string U] w fun e w' => e = .returned (.bool v) ∧ Below w.heap.size w w' := by
  have HN := Lib.hid hn
  have HR := Lib.hid hr
  have hmx : n ≤ 9223372036854775807 := by exact rd_max hr hn
  have hcx : n ≤ c := by rw [hn]; exact hr.room
  subst hv
  clear hn hr
  go_enter Tryz.func118, Tryz.ntmps118
  go_wp2_with fail
  go_loopw [5] (fun i wr => ∃ k : Nat, k ≤ n ∧ Hid (hasL l s = hasL (l.drop k) s) ∧ i = .int .i64 k ∧ Below w.heap.size w wr) (fun i _ => n - (intOf i).toNat)
  case atStart => exact ⟨0, by omega, rfl, rfl, Below.refl _ _⟩
  case round =>
    obtain ⟨k, hk, HL, rfl, hb⟩ := hrel
    by_cases hlt : k < n
    · obtain ⟨r, hg, hd, -⟩ := get_some (l := l) (k := k) (by have := HN.out; omega)
      obtain ⟨b, o, rfl, hb1, hcell⟩ := rngs_at (HR.out.below hb) (by have := HN.out; omega)
      obtain ⟨c0, c1, c2⟩ := hcell k r hg
      obtain ⟨d, hdv⟩ : ∃ d, hasR r s = d := ⟨_, rfl⟩
      have C := fun w => Lib.hid (ref_has r s _ _ U _ d (IsR.mk' r) hU hs hdv w)
      have HL2 := Lib.hid (HL.out.trans (by rw [hd, hasL_cons, hdv]))
      clear hcell hg hd hdv
      obtain ⟨S, hS⟩ : ∃ S, str r.lo = S := ⟨_, rfl⟩
      obtain ⟨T, hT⟩ : ∃ T, str r.hi = T := ⟨_, rfl⟩
      obtain ⟨q, hq⟩ : ∃ q, r.op = q := ⟨_, rfl⟩
      rw [hS, hT, hq] at C
      rw [hS] at c0
      rw [hT] at c1
      rw [hq] at c2
      clear hS hT hq
      cases d
      · go_wp2_with ((with_reducible refine (C _).out.mono ?_); rintro e w2 ⟨rfl, hq⟩; replace hb := hb.trans (hq.mono hb.size); clear hq)
        go_roundw
        case rel => exact ⟨k + 1, by omega, HL2, by go_num, hb⟩
        case measure => simp [intOf]; omega
      · go_wp2_with ((with_reducible refine (C _).out.mono ?_); rintro e w2 ⟨rfl, hq⟩; replace hb := hb.trans (hq.mono hb.size); clear hq)
        go_ret
        exact ⟨ret_bool HL2.out.symm, hb⟩
    · have HL2 := Lib.hid (HL.out.trans (show hasL (l.drop k) s = false by rw [List.drop_eq_nil_of_le (by have := HN.out; omega)]; rfl))
      go_wp2_with fail
      go_ret
      exact ⟨ret_bool HL2.out.symm, hb⟩
theorem lhas_is (A : Option Addr) (c n : Nat) (l : List Rng) (s : List UInt8) (U : ByteArray) (hn : n = l.length) (hU : str s = U) (hs : s.length ≤ 1000000) (v : Bool) (hv : hasL l s = v) (w0 w : World) (hr : kRng.Rd w0 w0.heap.size A c l) (hb : Below w0.heap.size w0 w) :
    Calls Tryz.prog 118 #[.slice A n c, .string U] w fun e w' => e = .returned (.bool v) ∧ Below w0.heap.size w0 w' :=
  (ref_lhas A c n l s U hn hU hs v hv w ((hr.below hb).more hb.size)).mono fun _ _ ⟨h1, h2⟩ => ⟨h1, hb.trans (h2.mono hb.size)⟩
end Go.Proofs.YtaodifpnfejbbaaGreat

/-
  Layer 8 (ranges), the document's words: is a list right; is it too long; are two the same.
-/
namespace Go.Proofs.YtaodifpnfejbbaaGreat
open Go.RowKit

/-- Is what comes behind a range right? -/
def rightF : Option Rng → List Rng → Bool
  | _, [] => true
  | none, r :: l => rightR r && rightF (some r) l
  | some p, r :: l => rightR r && (gapR p r && rightF (some r) l)
theorem rightF_some : ∀ (r : Rng) (l : List Rng), (rightR r && rightF (some r) l) = rightL (r :: l)
  | r, [] => by simp [rightF, rightL]
  | r, t :: l => by
    have := rightF_some t l
    unfold rightF rightL
    rw [← this]
    cases rightR r <;> cases gapR r t <;> cases rightR t <;> simp
theorem rightF_none (l : List Rng) : rightF none l = rightL l := by
  cases l with
  | nil => rfl
  | cons r l => rw [← rightF_some]; rfl
/-- The range ahead of place k. -/
def prevR (l : List Rng) : Nat → Option Rng
  | 0 => none
  | k + 1 => l[k]?
theorem less_q (a b : List UInt8) (S T : ByteArray) (hS : str a = S) (hT : str b = T) (ha : a.length ≤ 9223372036854775807) (v : Bool) (hv : ltB a b = v) (w : World) : Calls Tryz.prog 41 #[.string S, .string T] w fun e w' => e = .returned (.bool v) ∧ ∃ n, w' = w.drewN n := by
  subst hS hT hv
  exact ref_less a b ha w
end Go.Proofs.YtaodifpnfejbbaaGreat

/-
  Layer 8 (ranges), the document's words: are two lists the same; is one too long to be looked at.
-/
namespace Go.Proofs.YtaodifpnfejbbaaGreat
open Go.RowKit

def eqR (r t : Rng) : Bool := decide (r.lo = t.lo) && decide (r.hi = t.hi) && decide (r.op = t.op)
theorem eqR_iff {r t : Rng} : eqR r t = true ↔ r = t := by
  unfold eqR
  simp only [Bool.and_eq_true, decide_eq_true_eq]
  exact ⟨fun ⟨⟨h1, h2⟩, h3⟩ => rng_ext h1 h2 h3, fun h => by subst h; exact ⟨⟨rfl, rfl⟩, rfl⟩⟩
def sameL : List Rng → List Rng → Bool
  | [], [] => true
  | r :: a, t :: b => eqR r t && sameL a b
  | _, _ => false
theorem sameL_cons (r t : Rng) (a b : List Rng) : sameL (r :: a) (t :: b) = (eqR r t && sameL a b) := rfl
theorem sameL_iff : ∀ {a b : List Rng}, sameL a b = true ↔ a = b
  | [], [] => by simp [sameL]
  | [], t :: b => by simp [sameL]
  | r :: a, [] => by simp [sameL]
  | r :: a, t :: b => by
    unfold sameL
    rw [Bool.and_eq_true, eqR_iff, sameL_iff, List.cons.injEq]
theorem sameL_len {a b : List Rng} (h : a.length ≠ b.length) : sameL a b = false := by
  cases hs : sameL a b with
  | false => rfl
  | true => rw [sameL_iff.1 hs] at h; exact absurd rfl h
theorem eq_rngs (r t : Rng) (d : Bool) (hd : eqR r t = d) (w : World) : (Op.equalIn 10000 42 (.agg #[.string (str r.lo), .string (str r.hi), .bool r.op]) (.agg #[.string (str t.lo), .string (str t.hi), .bool t.op])).run Tryz.prog w = .ok d w := by
  refine eq_rng_is _ _ _ _ _ _ d ?_ w
  rw [← hd, str_toList, str_toList, str_toList, str_toList]
  have e : ∀ a b : List UInt8, (a == b) = decide (a = b) := fun a b => by by_cases h : a = b <;> simp [h]
  unfold eqR
  rw [e, e]
  cases r.op <;> cases t.op <;> rfl
/-- Has a list too many ranges, or one of them too long an edge? -/
def longL (most : Nat) (l : List Rng) : Bool := decide (most < l.length) || l.any fun r => decide (40 < r.lo.length) || decide (40 < r.hi.length)
set_option maxHeartbeats 1000000 in
theorem ref_long (A : Option Addr) (c n most : Nat) (l : List Rng) (hn : n = l.length) (hm : most ≤ 1000) (v : Bool) (hv : longL most l = v) (w : World) (hr : kRng.Rd w w.heap.size A c l) :
    Calls Tryz.prog 20 #[.slice A n c, .int .i64 most] w fun e w' => e = .returned (.bool v) ∧ w = w' := by
  have HN := Lib.hid hn
  have HR := Lib.hid hr
  have hmx : n ≤ 9223372036854775807 := rd_max hr hn
  have hcx : n ≤ c := by rw [hn]; exact hr.room
  subst hv
  by_cases h1 : most < n
  · have HE : Hid (longL most l = true) := by unfold longL; rw [decide_eq_true (by omega)]; rfl
    clear hn hr
    go_enter Tryz.func20, Tryz.ntmps20
    go_wp2_with fail
    go_ret
    exact ⟨ret_bool HE.out.symm, rfl⟩
  · have h1' : n ≤ most := by omega
    have HE : Hid (longL most l = l.any fun r => decide (40 < r.lo.length) || decide (40 < r.hi.length)) := by unfold longL; rw [decide_eq_false (by omega), Bool.false_or]; rfl
    clear hn hr h1
    go_enter Tryz.func20, Tryz.ntmps20
    go_wp2_with fail
    go_loop [5] (fun i => ∃ k : Nat, k ≤ n ∧ Hid (longL most l = (l.drop k).any fun r => decide (40 < r.lo.length) || decide (40 < r.hi.length)) ∧ i = .int .i64 k) (fun i => n - (intOf i).toNat)
    case atStart => exact ⟨0, by omega, HE, rfl⟩
    case round =>
      obtain ⟨k, hk, HL, rfl⟩ := hrel
      by_cases hlt : k < n
      · obtain ⟨r, hg, hd, -⟩ := get_some (l := l) (k := k) (by have := HN.out; omega)
        obtain ⟨b1, o1, rfl, hb1, hcell1⟩ := rngs_at HR.out (by have := HN.out; omega)
        obtain ⟨a0, a1, a2⟩ := hcell1 k r hg
        have HL2 := Lib.hid (HL.out.trans (by rw [hd, List.any_cons]))
        have hz1 : (str r.lo).size = r.lo.length := str_size _
        have hz2 : (str r.hi).size = r.hi.length := str_size _
        clear hcell1 hg hd HE
        obtain ⟨S, hS⟩ : ∃ S, str r.lo = S := ⟨_, rfl⟩
        obtain ⟨T, hT⟩ : ∃ T, str r.hi = T := ⟨_, rfl⟩
        rw [hS] at a0 hz1
        rw [hT] at a1 hz2
        by_cases g1 : r.lo.length ≤ 40
        · by_cases g2 : r.hi.length ≤ 40
          · have k1 : S.size ≤ 40 := by omega
            have k2 : T.size ≤ 40 := by omega
            have HE := Lib.hid (HL2.out.trans (by rw [decide_eq_false (show ¬ 40 < r.lo.length by omega), decide_eq_false (show ¬ 40 < r.hi.length by omega), Bool.or_self, Bool.false_or]))
            clear hz1 hz2 hS hT g1 g2 HL2
            go_wp2_with fail
            go_round
            case rel => exact ⟨k + 1, by omega, HE, by go_num⟩
            case measure => simp [intOf]; omega
          · have k1 : S.size ≤ 40 := by omega
            have k2 : 40 < T.size := by omega
            have HE := Lib.hid (HL2.out.trans (by rw [decide_eq_true (show 40 < r.hi.length by omega), Bool.or_true, Bool.true_or]))
            clear hz1 hz2 hS hT g1 g2 HL2
            go_wp2_with fail
            go_ret
            exact ⟨ret_bool HE.out.symm, rfl⟩
        · have k1 : 40 < S.size := by omega
          have HE := Lib.hid (HL2.out.trans (by rw [decide_eq_true (show 40 < r.lo.length by omega), Bool.true_or, Bool.true_or]))
          clear hz1 hz2 hS hT g1 HL2
          go_wp2_with fail
          go_ret
          exact ⟨ret_bool HE.out.symm, rfl⟩
      · have HL2 := Lib.hid (HL.out.trans (by rw [List.drop_eq_nil_of_le (by have := HN.out; omega), List.any_nil]))
        clear HE
        go_wp2_with fail
        go_ret
        exact ⟨ret_bool HL2.out.symm, rfl⟩
end Go.Proofs.YtaodifpnfejbbaaGreat

/-
  Layer 15 (know), the document's words: pieces as values; all that knowledge has of a text.
-/
namespace Go.Proofs.YtaodifpnfejbbaaGreat
open Go.RowKit

/-- A piece as it lies: its range, and where its set is. -/
structure Ps where
  rng : Rng
  A : Option Addr
  n : Nat
  c : Nat
def psCells (p : Ps) : List Value := [.string (str p.rng.lo), .string (str p.rng.hi), .bool p.rng.op, .slice p.A p.n p.c]
noncomputable def kPs : Kind Tryz.prog Ps where
  ty := 22
  el := 44
  size := 4
  bytes := 64
  zero := .agg #[.string ⟨#[]⟩, .string ⟨#[]⟩, .bool false, .slice none 0 0]
  cells := psCells
  len := fun _ => rfl
  one := fun r u hu => by simp [psCells] at hu; rcases hu with rfl | rfl | rfl | rfl <;> rfl
  pos := by decide
  under := Tryz.underlying22
  info := by kernel_rfl
  zsize := rfl
noncomputable def dPc : Deep Tryz.prog Ps Pc where
  k := kPs
  rel := fun w S b a => b.rng = a.rng ∧ b.n = a.set.length ∧ dKn.Rd w S b.A b.c a.set
  mono := fun h hs => ⟨h.1, h.2.1, h.2.2.mono hs⟩
  lives := fun h => ⟨h.1, h.2.1, h.2.2.lives⟩
  keep := fun h hk => ⟨h.1, h.2.1, h.2.2.keep hk⟩
/-- Where the pieces lie. -/
theorem pieces_of {w : World} {S : Nat → Prop} {A : Option Addr} {c : Nat} {k : List Pc} (h : dPc.Rd w S A c k) (hp : 0 < k.length) :
    ∃ b o, A = some ⟨b, o, none⟩ ∧ b < w.heap.size ∧ ∀ i x, k[i]? = some x → ∃ (A' : Option Addr) (n' c' : Nat), n' = x.set.length ∧ dKn.Rd w S A' c' x.set ∧ w.cell? ⟨b, o + i * 4, none⟩ = some (.string (str x.rng.lo)) ∧ w.cell? ⟨b, o + i * 4 + 1, none⟩ = some (.string (str x.rng.hi)) ∧ w.cell? ⟨b, o + i * 4 + 2, none⟩ = some (.bool x.rng.op) ∧ w.cell? ⟨b, o + i * 4 + 3, none⟩ = some (.slice A' n' c') := by
  obtain ⟨b, o, e1, -, e2, e3⟩ := h.at_ hp
  refine ⟨b, o, e1, e2, fun i x hx => ?_⟩
  obtain ⟨y, ⟨g1, g2, g3⟩, g4⟩ := e3 i x hx
  refine ⟨y.A, y.n, y.c, g2, g3, ?_, ?_, ?_, g4 3 _ rfl⟩
  · rw [← g1]; exact g4 0 _ rfl
  · rw [← g1]; exact g4 1 _ rfl
  · rw [← g1]; exact g4 2 _ rfl
theorem catK_take {k : List Pc} {j : Nat} {x : Pc} (s : List UInt8) (h : k[j]? = some x) : catK (k.take (j + 1)) s = catK (k.take j) s ++ setP x s := by
  rw [List.take_add_one, h, catK_append]
  show _ ++ (setP x s ++ []) = _
  rw [List.append_nil]
theorem catK_part (k : List Pc) (j : Nat) (s : List UInt8) : (catK (k.take j) s).length ≤ (catK k s).length := by
  have h : catK k s = catK (k.take j) s ++ catK (k.drop j) s := by rw [← catK_append, List.take_append_drop]
  rw [h, List.length_append]
  omega
set_option maxRecDepth 100000 in
set_option maxHeartbeats 4000000 in
theorem ref_kat (A : Option Addr) (c n : Nat) (k : List Pc) (s : List UInt8) (U : ByteArray) (hn : n = k.length) (hU : str s = U) (hs : s.length ≤ 1000000) (hcl : (catK k s).length ≤ 900000) (hrl : ∀ r, (runsV (catK k s) r).length ≤ 20000)
    (K : List Kn) (hK : atK k s = K) (N : Nat) (hN : K.length = N) (w : World) (hr : dPc.Rd w (fun _ => True) A c k) : Calls Tryz.prog 17 #[.slice A n c, .string U] w (RetKF w N K) := by
  have HN := Lib.hid hn
  have HR := Lib.hid (hr.lives.mono fun g h => h.2)
  have hmx := hr.max hn
  have hcx : n ≤ c := by rw [hn]; exact hr.room
  have HCL := Lib.hid hcl
  obtain ⟨T, hT⟩ : ∃ T, catK k s = T := ⟨_, rfl⟩
  have HT := Lib.hid hT
  obtain ⟨NT, hNT⟩ : ∃ NT, NT = T.length := ⟨_, rfl⟩
  have HNT := Lib.hid hNT
  have CO := fun A9 c9 w h => Lib.hid (ref_vof_new A9 c9 NT T hNT (hT ▸ hrl) K (by rw [← hT]; exact hK) N hN w h)
  have C0 := fun r d hd w => Lib.hid (ref_has r s _ _ U _ d (IsR.mk' r) hU hs hd w)
  clear hn hr hU hs hrl hK hN hT hNT hcl
  go_enter Tryz.func17, Tryz.ntmps17
  go_wp2_with fail
  go_loopw [5, 6] (fun v i wr => ∃ j : Nat, j ≤ n ∧ Hid (dKn.Own wr w.heap.size (fun _ => True) v (catK (k.take j) s)) ∧ i = .int .i64 j ∧ Hid (Below w.heap.size w wr)) (fun _ i _ => n - (intOf i).toNat)
  case atStart => exact ⟨0, by omega, Deep.Own.nil _ _ _, rfl, Below.refl _ _⟩
  case round =>
    obtain ⟨j, hj, HO, rfl, HW⟩ := hrel
    by_cases hlt : j < n
    · obtain ⟨x, hg, -, -⟩ := get_some (l := k) (k := j) (by have := HN.out; omega)
      obtain ⟨b, o, rfl, hb1, hcell⟩ := pieces_of (HR.out.call HW.out) (by have := HN.out; omega)
      obtain ⟨A', n', c', hn', hrd, c0, c1, c2, c3⟩ := hcell j x hg
      have hmx' := hrd.max hn'
      have hcx' : n' ≤ c' := by rw [hn']; exact hrd.room
      have HS := Lib.hid (catK_take s hg)
      obtain ⟨d, hd⟩ : ∃ d, hasR x.rng s = d := ⟨_, rfl⟩
      have C1 := fun w => C0 x.rng d hd w
      obtain ⟨bs, ho, hall⟩ := HO.out
      obtain ⟨ys, hys, hyall⟩ := hrd
      have hpl := catK_part k (j + 1) s
      have HKO := Lib.hid ho
      have HKA := Lib.hid hall
      have HYA := Lib.hid hyall
      have HYR := Lib.hid hys
      have HYN := Lib.hid (hn'.trans hyall.1.symm)
      obtain ⟨S1, hS1⟩ : ∃ S, str x.rng.lo = S := ⟨_, rfl⟩
      obtain ⟨S2, hS2⟩ : ∃ S, str x.rng.hi = S := ⟨_, rfl⟩
      obtain ⟨q, hq⟩ : ∃ q, x.rng.op = q := ⟨_, rfl⟩
      rw [hS1, hS2, hq] at C1
      rw [hS1] at c0
      rw [hS2] at c1
      rw [hq] at c2
      have hj0 : (0 : Int) ≤ (j : Int) := by omega
      have hjn : (j : Int) < (n : Int) := by omega
      cases d
      · have HE := Lib.hid (setP_no hd)
        clear hcell hg hd hn' hS1 hS2 hq ho hall hys hyall hpl HKO HKA HYA HYR HYN C0 CO
        go_wp2_with ((with_reducible refine (C1 _).out.mono ?_); rintro e w2 ⟨rfl, hq⟩; replace HO := Lib.hid (HO.out.below hq); replace HW := Lib.hid (HW.out.trans (hq.mono HW.out.size)); clear hq)
        go_roundw
        case rel => exact ⟨j + 1, by omega, show dKn.Own _ _ _ _ _ from by rw [HS.out, HE.out, List.append_nil]; exact HO.out, by go_num, HW⟩
        case measure => simp [intOf]; omega
      · have HE := Lib.hid (setP_yes hd)
        have HLE := Lib.hid (show bs.length + ys.length ≤ 1000000 by
          have h1 := HS.out
          rw [HE.out] at h1
          have h2 := congrArg List.length h1
          rw [List.length_append] at h2
          have h3 := hall.1
          have h4 := hyall.1
          have h5 := HCL.out
          omega)
        clear hcell hg hd hn' hS1 hS2 hq ho hall hys hyall hpl HO C0 CO
        go_wp2_with (first
          | ((with_reducible refine (C1 _).out.mono ?_); rintro e w2 ⟨rfl, hq⟩; replace HKO := Lib.hid (Kind.Own.below HKO.out hq); replace HKA := Lib.hid (HKA.out.keep (keptS_below hq _)); replace HYA := Lib.hid (HYA.out.keep (keptS_below hq _)); replace HYR := Lib.hid (HYR.out.keep (keptS_below hq _)); (try replace c3 := ((bcell hq).1 _ _ hb1).trans c3); replace HW := Lib.hid (HW.out.trans (hq.mono HW.out.size)); clear hq)
          | (at_builtin; refine wpList_app_k kKs rfl (.tmp 20) (.tmp 25) rfl w.heap.size _ bs rfl HKO.out _ A' c' n' ys HYN.out rfl HYR.out.row.at_ HLE.out (by decide) HW.out.size ?_; intro v5 w5 hown5 hg5 hb5 hv5; have HO5 := Lib.hid (Deep.Own.app HKA.out (HYA.out.mono fun g h => ⟨trivial, fun e => by have := (HKO.out.lt g e).1; omega⟩) hown5 hg5 hv5); have HW5 := Lib.hid (HW.out.trans hb5); clear hown5 hg5 hb5 hv5))
        go_roundw
        case rel => exact ⟨j + 1, by omega, show dKn.Own _ _ _ _ _ from by rw [HS.out, HE.out]; exact HO5.out, by go_num, HW5⟩
        case measure => simp [intOf]; omega
    · have HTK := Lib.hid (show catK (k.take j) s = T by rw [List.take_of_length_le (by have := HN.out; omega)]; exact HT.out)
      obtain ⟨A9, c9, rfl, hrd⟩ := HO.out.rd (n := NT) (by rw [HTK.out]; exact HNT.out) fun _ _ => trivial
      rw [HTK.out] at hrd
      have HD := Lib.hid (rdk_of hrd)
      clear hrd HO C0
      go_wp2_with ((with_reducible refine (CO _ _ _ HD.out).out.mono ?_); rintro e w2 ⟨A8, c8, rfl, hr8, hq⟩; have HF := Lib.hid (show RetKF w N K (.returned (.slice A8 N c8)) w2 from ⟨A8, c8, rfl, hr8.mono fun g hg => Nat.le_trans HW.out.size hg, HW.out.trans (hq.mono HW.out.size)⟩); clear hr8 hq)
      go_ret
      exact HF.out
end Go.Proofs.YtaodifpnfejbbaaGreat

/-
  Layer 8 (ranges), the document's words: a text put among rising ones.
-/
namespace Go.Proofs.YtaodifpnfejbbaaGreat
open Go.RowKit

theorem str_sizeOf (w : World) : (sizeOf 9).run Tryz.prog w = .ok 1 w := by kernel_rfl
theorem strs_take (l : List (List UInt8)) (k : Nat) : kStr.row (l.take k) = (kStr.row l).take k := by
  have := kStr.row_take l k
  rwa [show k * kStr.size = k by show k * 1 = k; omega] at this
theorem strs_drop (l : List (List UInt8)) (k : Nat) : kStr.row (l.drop k) = (kStr.row l).drop k := by
  have := kStr.row_drop l k
  rwa [show k * kStr.size = k by show k * 1 = k; omega] at this
theorem strs_len (l : List (List UInt8)) : (kStr.row l).length = l.length := by
  have := kStr.row_len l
  rwa [show l.length * kStr.size = l.length by show l.length * 1 = l.length; omega] at this
theorem le_alloc {n : Nat} {w : World} (h : n ≤ w.heap.size) (o : Obj) : n ≤ (w.alloc o).heap.size := by simp; omega
/-- What put hands back: a row that reads. -/
def RetS (w : World) (l : List (List UInt8)) (e : Ending) (w' : World) : Prop := ∃ A c, e = .returned (.slice A l.length c) ∧ kStr.Rd w' w'.heap.size A c l ∧ Below w.heap.size w w'
set_option maxHeartbeats 1000000 in
theorem ref_put (A : Option Addr) (c n : Nat) (l : List (List UInt8)) (s : List UInt8) (hn : n = l.length) (hnl : n ≤ 100000) (hl : ∀ x ∈ l, x.length ≤ 9223372036854775807) (w : World) (hr : kStr.Rd w w.heap.size A c l) :
    Calls Tryz.prog 117 #[.slice A n c, .string (str s)] w (RetS w (putL l s)) := by
  have HN := Lib.hid hn
  have HR := Lib.hid hr
  have HLN := Lib.hid hl
  have hcx : n ≤ c := by rw [hn]; exact hr.room
  clear hn hr hl
  go_enter Tryz.func117, Tryz.ntmps117
  go_wp2_with fail
  go_loopw [5] (fun i wr => ∃ k q : Nat, k ≤ n ∧ Hid (putL l s = l.take k ++ putL (l.drop k) s) ∧ i = .int .i64 k ∧ wr = w.drewN q) (fun i _ => n - (intOf i).toNat)
  case atStart => exact ⟨0, 0, by omega, rfl, rfl, rfl⟩
  case round =>
    obtain ⟨k, q, hk, HL, rfl, rfl⟩ := hrel
    by_cases hlt : k < n
    · obtain ⟨x, hg, hd, hm⟩ := get_some (l := l) (k := k) (by have := HN.out; omega)
      obtain ⟨b, o, hA, hb1, hcell⟩ := texts_at HR.out (by have := HN.out; omega)
      have c0 := hcell k x hg
      obtain ⟨v, hv⟩ : ∃ v, ltB x s = v := ⟨_, rfl⟩
      have C := fun w => Lib.hid (less_q x s _ _ rfl rfl (HLN.out x hm) v hv w)
      have hkd : decide ((k : Int) < (n : Int)) = true := decide_eq_true (by omega)
      cases v
      · by_cases hxs : x = s
        · have HL2 := Lib.hid (HL.out.trans (show l.take k ++ putL (l.drop k) s = l by rw [hd, hxs, putL_there, ← hxs, ← hd, List.take_append_drop]))
          have hxU : ((str x).toList == (str s).toList) = true := by rw [hxs]; simp
          subst hA
          clear hcell hg hd hm hv hxs
          obtain ⟨S, hS⟩ : ∃ S, str x = S := ⟨_, rfl⟩
          rw [hS] at c0 C hxU
          clear hS
          go_wp2_with ((with_reducible refine (C _).out.mono ?_); rintro e w2 ⟨rfl, q2, rfl⟩)
          go_ret
          refine ⟨some ⟨b, o, none⟩, c, ?_, ?_, below_drewN (Below.refl _ _) _⟩
          · rw [HL2.out, ← HN.out]; rfl
          · rw [HL2.out]; exact HR.out.drewN _
        · have hnU : ((str x).toList == (str s).toList) = false := txt_ne rfl rfl hxs
          have HT := Lib.hid (HL.out.trans (show l.take k ++ putL (l.drop k) s = (l.take k ++ [s]) ++ l.drop k by rw [hd, putL_here hv hxs, List.append_assoc]; rfl))
          clear hcell hg hd hm hv hxs
          obtain ⟨S, hS⟩ : ∃ S, str x = S := ⟨_, rfl⟩
          rw [hS] at c0 C hnU
          clear hS
          have HTK := Lib.hid (show k = (l.take k).length by rw [List.length_take]; have := HN.out; omega)
          have HL1 := Lib.hid (show ([] : List (List UInt8)).length + (l.take k).length ≤ 1000000 by rw [List.length_take, List.length_nil]; omega)
          have HL2 := Lib.hid (show (l.take k).length + [s].length ≤ 1000000 by rw [List.length_take, List.length_singleton]; omega)
          have HDK := Lib.hid (show n - k = (l.drop k).length by rw [List.length_drop, ← HN.out])
          have HL3 := Lib.hid (show (l.take k ++ [s]).length + (l.drop k).length ≤ 1000000 by rw [List.length_append, List.length_take, List.length_drop, List.length_singleton]; have := HN.out; omega)
          have HRT : Hid (RowAt w w.heap.size A (kStr.row (l.take k))) := by rw [strs_take]; exact HR.out.row.take k
          have HRD : Hid (RowAt w w.heap.size (cutA A k c) (kStr.row (l.drop k))) := by rw [strs_drop]; exact HR.out.row.cut (by rw [strs_len]; have := HN.out; omega) (by rw [strs_len]; exact HR.out.room)
          have K1 := fun w : World => run_take (T := 101) (E := 9) Tryz.underlying101 str_sizeOf w A n c k (by omega)
          have K2 := fun w : World => run_cut (T := 101) (E := 9) Tryz.underlying101 str_sizeOf w A n c k (by omega)
          subst hA
          go_wp2_with (first
            | ((with_reducible refine (C _).out.mono ?_); rintro e w2 ⟨rfl, q2, rfl⟩)
            | (at_builtin; refine wpList_app_k kStr rfl (.tmp 34) (.tmp 37) rfl w.heap.size (.slice none 0 0) [] rfl (Kind.Own.nil _ _) w.heap.size (some ⟨b, o, none⟩) c k (l.take k) HTK.out rfl (RowAt.drewN HRT.out _) HL1.out (by decide) (Nat.le_refl _) ?_; intro v3 w3 hown3 hg3 hb3 _; replace hown3 := Lib.hid hown3; replace hb3 := (below_drewN (Below.refl w.heap.size w) _).trans hb3; have hz3 := Lib.hid hb3.size)
            | (at_builtin; refine wpList_app_k kStr rfl (.tmp 39) (.tmp 41) rfl w.heap.size v3 (l.take k) rfl (Kind.Own.alloc hown3.out _) _ (some ⟨w3.heap.size, 0, none⟩) 1 1 [s] rfl rfl (Kind.rd_new (k := kStr) rfl rfl (by simp)).row HL2.out (by decide) (le_alloc hz3.out _) ?_; intro v4 w4 hown4 hg4 hb4 _; replace hb4 := (hb3.alloc hb3.size _).trans hb4; have hz4 := Lib.hid hb4.size; replace hown4 := Lib.hid hown4; clear hb3)
            | (at_builtin; refine wpList_app_k kStr rfl (.tmp 43) (.tmp 46) rfl w.heap.size v4 (l.take k ++ [s]) rfl hown4.out _ (cutA (some ⟨b, o, none⟩) k c) (c - k) (n - k) (l.drop k) HDK.out rfl (RowAt.below HRD.out hb4) HL3.out (by decide) hz4.out ?_; intro v5 w5 hown5 hg5 hb5 _; replace hb5 := hb4.trans hb5; have HO5 := Lib.hid hown5; clear hown5))
          go_ret
          obtain ⟨A5, c5, rfl, hrd⟩ := HO5.out.form
          refine ⟨A5, c5, ?_, ?_, hb5⟩
          · rw [HT.out]; rfl
          · rw [HT.out]; exact hrd
      · have HL2 := Lib.hid (HL.out.trans (show l.take k ++ putL (l.drop k) s = l.take (k + 1) ++ putL (l.drop (k + 1)) s by
          rw [hd, putL_behind hv, List.take_add_one, hg]; simp))
        subst hA
        clear hcell hg hd hm hv
        obtain ⟨S, hS⟩ : ∃ S, str x = S := ⟨_, rfl⟩
        rw [hS] at c0 C
        clear hS
        go_wp2_with ((with_reducible refine (C _).out.mono ?_); rintro e w2 ⟨rfl, q2, rfl⟩)
        go_roundw
        case rel => exact ⟨k + 1, _, by omega, HL2, by go_num, rfl⟩
        case measure => simp [intOf]; omega
    · have hkn : k = n := by omega
      have HT := Lib.hid (HL.out.trans (show l.take k ++ putL (l.drop k) s = (l.take k ++ [s]) ++ l.drop k by rw [List.drop_eq_nil_of_le (by have := HN.out; omega), List.append_nil]; rfl))
      have hkd : decide ((k : Int) < (n : Int)) = false := decide_eq_false (by omega)
      have HTK := Lib.hid (show k = (l.take k).length by rw [List.length_take]; have := HN.out; omega)
      have HL1 := Lib.hid (show ([] : List (List UInt8)).length + (l.take k).length ≤ 1000000 by rw [List.length_take, List.length_nil]; omega)
      have HL2 := Lib.hid (show (l.take k).length + [s].length ≤ 1000000 by rw [List.length_take, List.length_singleton]; omega)
      have HDK := Lib.hid (show n - k = (l.drop k).length by rw [List.length_drop, ← HN.out])
      have HL3 := Lib.hid (show (l.take k ++ [s]).length + (l.drop k).length ≤ 1000000 by rw [List.length_append, List.length_take, List.length_drop, List.length_singleton]; have := HN.out; omega)
      have HRT : Hid (RowAt w w.heap.size A (kStr.row (l.take k))) := by rw [strs_take]; exact HR.out.row.take k
      have HRD : Hid (RowAt w w.heap.size (cutA A k c) (kStr.row (l.drop k))) := by rw [strs_drop]; exact HR.out.row.cut (by rw [strs_len]; have := HN.out; omega) (by rw [strs_len]; exact HR.out.room)
      have K1 := fun w : World => run_take (T := 101) (E := 9) Tryz.underlying101 str_sizeOf w A n c k (by omega)
      have K2 := fun w : World => run_cut (T := 101) (E := 9) Tryz.underlying101 str_sizeOf w A n c k (by omega)
      clear hkn
      go_wp2_with (first
        | (at_builtin; refine wpList_app_k kStr rfl (.tmp 34) (.tmp 37) rfl w.heap.size (.slice none 0 0) [] rfl (Kind.Own.nil _ _) w.heap.size A c k (l.take k) HTK.out rfl (RowAt.drewN HRT.out _) HL1.out (by decide) (Nat.le_refl _) ?_; intro v3 w3 hown3 hg3 hb3 _; replace hown3 := Lib.hid hown3; replace hb3 := (below_drewN (Below.refl w.heap.size w) _).trans hb3; have hz3 := Lib.hid hb3.size)
        | (at_builtin; refine wpList_app_k kStr rfl (.tmp 39) (.tmp 41) rfl w.heap.size v3 (l.take k) rfl (Kind.Own.alloc hown3.out _) _ (some ⟨w3.heap.size, 0, none⟩) 1 1 [s] rfl rfl (Kind.rd_new (k := kStr) rfl rfl (by simp)).row HL2.out (by decide) (le_alloc hz3.out _) ?_; intro v4 w4 hown4 hg4 hb4 _; replace hb4 := (hb3.alloc hb3.size _).trans hb4; have hz4 := Lib.hid hb4.size; replace hown4 := Lib.hid hown4; clear hb3)
        | (at_builtin; refine wpList_app_k kStr rfl (.tmp 43) (.tmp 46) rfl w.heap.size v4 (l.take k ++ [s]) rfl hown4.out _ (cutA A k c) (c - k) (n - k) (l.drop k) HDK.out rfl (RowAt.below HRD.out hb4) HL3.out (by decide) hz4.out ?_; intro v5 w5 hown5 hg5 hb5 _; replace hb5 := hb4.trans hb5; have HO5 := Lib.hid hown5; clear hown5))
      go_ret
      obtain ⟨A5, c5, rfl, hrd⟩ := HO5.out.form
      refine ⟨A5, c5, ?_, ?_, hb5⟩
      · rw [HT.out]; rfl
      · rw [HT.out]; exact hrd
end Go.Proofs.YtaodifpnfejbbaaGreat
