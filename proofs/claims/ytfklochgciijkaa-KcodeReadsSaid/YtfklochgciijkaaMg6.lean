/-
  Several texts in one: KeyB, KeyC, KeyD, KeyE, Law06A, Law06B, SpanA, SpanB, RgsA, RgsB, RgsC, RgsD.
-/
import Derived.Deep.RegionHeld3
import Derived.BigRegion
import Derived.Deep.QuietTactic
import Derived.BigQuiet
import Derived.IntWalk
import Derived.Test.YtfklochgciijkaaMg5
/-
  Layer 6 (key): the document's order, with what texts begin, ends.
-/
namespace Go.Proofs.Ytfklochgciijkaa
open Go.RowKit

theorem int_eq_false {x y : UInt8} (h : x ≠ y) : ((x.toNat : Int) == (y.toNat : Int)) = false := by
  rw [beq_eq_false_iff_ne]
  intro e
  exact h (UInt8.toNat_inj.1 (by omega))
/-- Below w with some draws. -/
theorem ref_less (a b : List UInt8) (ha : a.length ≤ 9223372036854775807) (w : World) : Calls Try.prog 36 #[.string (str a), .string (str b)] w fun e w' => e = .returned (.bool (ltB a b)) ∧ ∃ n, w' = w.drewN n := by
  have hza : (str a).size = a.length := str_size a
  have hzb : (str b).size = b.length := str_size b
  have hA : ∀ k, (h : k < (str a).size) → (str a)[k] = a.getD k 0 := fun k h => txt_at a k h
  have hB : ∀ k, (h : k < (str b).size) → (str b)[k] = b.getD k 0 := fun k h => txt_at b k h
  generalize str a = S at hza hA ⊢
  generalize str b = T at hzb hB ⊢
  have HA := Lib.hid hA
  have HB := Lib.hid hB
  have HZA := Lib.hid hza
  have HZB := Lib.hid hzb
  have hmx : S.size ≤ 9223372036854775807 := by omega
  clear hA hB hza hzb
  go_enter Try.func36, Try.ntmps36
  go_wp2_with fail
  go_loopw [5] (fun i wr => ∃ k m : Nat, k ≤ S.size ∧ k ≤ T.size ∧ Hid (ltB a b = ltB (a.drop k) (b.drop k)) ∧ i = .int .i64 k ∧ wr = w.drewN m) (fun i _ => S.size - (intOf i).toNat)
  case atStart => exact ⟨0, 0, by omega, by omega, rfl, rfl, rfl⟩
  case round =>
    obtain ⟨k, m, hk, hk2, HL, rfl, rfl⟩ := hrel
    by_cases hlt : k < S.size
    · by_cases hlt2 : k < T.size
      · have c1 := HA.out k hlt
        have c2 := HB.out k hlt2
        have HS := fun h => Lib.hid (ltB_step (a := a) (b := b) (k := k) (by have := HZA.out; omega) (by have := HZB.out; omega) h)
        have HT := fun h => Lib.hid (ltB_stop (a := a) (b := b) (k := k) (by have := HZA.out; omega) (by have := HZB.out; omega) h)
        obtain ⟨x, hx⟩ : ∃ x, a.getD k 0 = x := ⟨_, rfl⟩
        obtain ⟨y, hy⟩ : ∃ y, b.getD k 0 = y := ⟨_, rfl⟩
        rw [hx] at c1 HS HT
        rw [hy] at c2 HS HT
        clear hx hy
        by_cases hxy : x = y
        · subst hxy
          have HN := Lib.hid (HL.out.trans (HS rfl).out)
          clear HT HS
          go_wp2_with fail
          go_quiet (fail)
          go_wp2_with fail
          go_roundw
          case rel => exact ⟨k + 1, _, by omega, by omega, HN, by go_num, rfl⟩
          case measure => simp [intOf]; omega
        · have hxy' := int_eq_false hxy
          have hxy2 : ((x.toNat : Int) != (y.toNat : Int)) = true := by simp [bne, hxy']
          have HN := Lib.hid (HL.out.trans (HT hxy).out)
          clear HT HS hxy
          go_wp2_with fail
          go_quiet (fail)
          go_wp2_with fail
          go_quiet (fail)
          go_wp2_with fail
          go_ret
          refine ⟨ret_bool (by rw [HN.out]), ?_⟩
          rw [World.drewN_drewN, World.drewN_drewN]
          exact ⟨_, rfl⟩
      · have hge : T.size ≤ k := by omega
        have HN := Lib.hid (HL.out.trans (ltB_out (by have := HZB.out; omega)))
        go_wp2_with fail
        go_ret
        exact ⟨ret_bool HN.out.symm, _, rfl⟩
    · have hke : S.size = k := by omega
      have HN := Lib.hid (HL.out.trans (ltB_end (by have := HZA.out; omega) (by have := HZB.out; omega)))
      have HE : Hid (decide (S.size < T.size) = decide (k < b.length)) := decide_eq_decide.2 (by have := HZB.out; omega)
      clear hke
      go_wp2_with fail
      go_ret
      exact ⟨ret_bool (HE.out.trans HN.out.symm), _, rfl⟩
end Go.Proofs.Ytfklochgciijkaa

/-
  Layer 6 (key): with what texts begin; the first of all texts behind all that begin with one.
-/
namespace Go.Proofs.Ytfklochgciijkaa
open Go.RowKit

theorem run_str_to {P : Program} {t : TypeId} (ht : P.underlying t = some .string) (w : World) (S : ByteArray) (k : Nat) (i : Int) (hi : i = (k : Int)) (hk : k ≤ S.size) :
    (Instr.slice t (.string S) none (some (.int .i64 i)) none).run P w = .ok (.string (S.extract 0 k)) w := by
  subst hi
  rw [run_slice_string_to_if w t S .i64 _ ht, if_pos (by omega)]
  rfl
end Go.Proofs.Ytfklochgciijkaa

/-
  Layer 6 (key): the document's end of a text; with what all texts begin.
-/
namespace Go.Proofs.Ytfklochgciijkaa
open Go.RowKit

theorem run_txt_add {P : Program} (a b : List UInt8) (h : a.length + b.length ≤ 9223372036854775807) (w : World) : (Op.stringOp .add (str a) (str b)).run P w = .ok (.string (str (a ++ b))) w := by
  rw [run_string_add_sum _ _ _ (by rw [str_size, str_size]; exact h), txt_app]
/-- What an end hands back. -/
def EndV (p : List UInt8) (e : Ending) : Prop :=
  (∃ x, endV p = some x ∧ e = .returned (.tuple #[.string (str x), .bool true])) ∨ (endV p = none ∧ e = .returned (.tuple #[.string (str []), .bool false]))
theorem drewN2 (w : World) (a b : Nat) : ∃ n, (w.drewN a).drewN b = w.drewN n := ⟨_, World.drewN_drewN _ _ _⟩
theorem alike_post {a b : List UInt8} {k na nb : Nat} (ha : na = a.length) (hb : nb = b.length) (h1 : k ≤ na) (h2 : k ≤ nb) (h3 : a.take k = b.take k) (h4 : k < na → k < nb → a.getD k 0 ≠ b.getD k 0) : (k : Int) = (alikeN a b : Nat) := by
  rw [alikeN_at (by omega) (by omega) h3 (fun u v => h4 (by omega) (by omega))]
end Go.Proofs.Ytfklochgciijkaa

/-
  Layer 6 (key): the longest text with which all begin.
-/
namespace Go.Proofs.Ytfklochgciijkaa
open Go.RowKit

theorem commonF_len (s : List UInt8) (r : List (List UInt8)) : (commonF s r).length ≤ s.length := ((commonF_pre r s).1).length_le
theorem strs_take_step {r : List (List UInt8)} {k : Nat} (s : List UInt8) (h : k < r.length) : commonF s (r.take (k + 1)) = (commonF s (r.take k)).take (alikeN (commonF s (r.take k)) (r.getD k [])) := by
  have e : r.take (k + 1) = r.take k ++ [r.getD k []] := by
    rw [List.take_succ_eq_append_getElem h]; simp [List.getD, List.getElem?_eq_getElem h]
  rw [e, commonF_snoc]
theorem string_size (w : World) : (sizeOf 9).run Try.prog w = .ok 1 w := by kernel_rfl
end Go.Proofs.Ytfklochgciijkaa

/-
  The laws of layer 6: the chapter's examples; KeyOrder, KeyTotal.
-/
namespace Go.Proofs.Ytfklochgciijkaa
open Go.RowKit

/-! The callees over letters: the texts are named ahead of a walk. -/
theorem less_is (a b : List UInt8) (S T : ByteArray) (hS : str a = S) (hT : str b = T) (ha : a.length ≤ 1000000) (v : Bool) (hv : ltB a b = v) (w : World) : Calls Try.prog 36 #[.string S, .string T] w fun e w' => e = .returned (.bool v) ∧ Below w.heap.size w w' := by
  subst hS hT hv
  exact (ref_less a b (by omega) w).mono fun e w' ⟨h1, n, h2⟩ => ⟨h1, below_quiet h2⟩
theorem cmp_is (a b : List UInt8) (S T : ByteArray) (hS : str a = S) (hT : str b = T) (v : Int) (hv : Lib.compareBytes a b = v) (w : World) : Calls Try.prog 65 #[.string S, .string T] w fun e w' => e = .returned (.int .i64 v) ∧ w = w' := by
  subst hS hT hv
  exact key_cmp a b w
theorem edge_is (a : List UInt8) (S : ByteArray) (hS : str a = S) (v : Bool) (hv : edgeB a = v) (w : World) : Calls Try.prog 76 #[.string S] w fun e w' => e = .returned (.bool v) ∧ w = w' := by
  subst hS hv
  exact key_edge a w
theorem txt_ne {a b : List UInt8} {S T : ByteArray} (hS : str a = S) (hT : str b = T) (h : a ≠ b) : (S.toList == T.toList) = false := by
  subst hS hT
  rw [str_toList, str_toList]
  simpa using h
theorem edge_int (a : List UInt8) (S : ByteArray) (hS : str a = S) : edgeB a = decide ((S.size : Int) ≤ 17) := by
  subst hS
  unfold edgeB
  rw [str_size]
  exact decide_eq_decide.2 (by omega)
/-- What three texts' places have to do with one another. -/
theorem cmp_three (a b c : List UInt8) : ∃ x y z : Int, Lib.compareBytes a b = x ∧ Lib.compareBytes b c = y ∧ Lib.compareBytes a c = z ∧
    ((x = 0 ∧ y = z ∧ (y = -1 ∨ y = 0 ∨ y = 1)) ∨ (x = -1 ∧ (y = -1 ∨ y = 0) ∧ z = -1) ∨ (x = 1 ∧ (y = 1 ∨ y = 0) ∧ z = 1) ∨ (x = -1 ∧ y = 1 ∧ (z = -1 ∨ z = 0 ∨ z = 1)) ∨ (x = 1 ∧ y = -1 ∧ (z = -1 ∨ z = 0 ∨ z = 1))) := by
  have any : ∀ a b : List UInt8, Lib.compareBytes a b = -1 ∨ Lib.compareBytes a b = 0 ∨ Lib.compareBytes a b = 1 := fun a b => by
    rcases ltB_three a b with ⟨h, _, _⟩ | ⟨_, h, _⟩ | ⟨_, _, rfl⟩
    · exact .inl (cmp_lt h)
    · exact .inr (.inr (cmp_gt h))
    · exact .inr (.inl (cmp_self a))
  refine ⟨_, _, _, rfl, rfl, rfl, ?_⟩
  rcases ltB_three a b with ⟨h1, _, _⟩ | ⟨_, h1, _⟩ | ⟨_, _, rfl⟩
  · rcases ltB_three b c with ⟨h2, _, _⟩ | ⟨_, h2, _⟩ | ⟨_, _, rfl⟩
    · exact .inr (.inl ⟨cmp_lt h1, .inl (cmp_lt h2), cmp_lt (ltB_trans h1 h2)⟩)
    · exact .inr (.inr (.inr (.inl ⟨cmp_lt h1, cmp_gt h2, any a c⟩)))
    · exact .inr (.inl ⟨cmp_lt h1, .inr (cmp_self b), cmp_lt h1⟩)
  · rcases ltB_three b c with ⟨h2, _, _⟩ | ⟨_, h2, _⟩ | ⟨_, _, rfl⟩
    · exact .inr (.inr (.inr (.inr ⟨cmp_gt h1, cmp_lt h2, any a c⟩)))
    · exact .inr (.inr (.inl ⟨cmp_gt h1, .inl (cmp_gt h2), cmp_gt (ltB_trans h2 h1)⟩))
    · exact .inr (.inr (.inl ⟨cmp_gt h1, .inr (cmp_self b), cmp_gt h1⟩))
  · exact .inl ⟨cmp_self a, rfl, any a c⟩
end Go.Proofs.Ytfklochgciijkaa

/-
  The laws of layer 6: KeyNext.
-/
namespace Go.Proofs.Ytfklochgciijkaa
open Go.RowKit

/-- What an end's two results are. -/
theorem endO (a : List UInt8) : ∃ (x : List UInt8) (v : Bool), (endV a = some x ∧ v = true) ∨ (endV a = none ∧ x = [] ∧ v = false) := by
  cases h : endV a with
  | some x => exact ⟨x, true, .inl ⟨rfl, rfl⟩⟩
  | none => exact ⟨[], false, .inr ⟨rfl, rfl, rfl⟩⟩
theorem endO_len {a x : List UInt8} {v : Bool} (h : (endV a = some x ∧ v = true) ∨ (endV a = none ∧ x = [] ∧ v = false)) : x.length ≤ a.length := by
  rcases h with ⟨h, _⟩ | ⟨_, rfl, _⟩
  · exact (endV_len h).2
  · simp
theorem end_betweenO {a x : List UInt8} {v : Bool} (h : (endV a = some x ∧ v = true) ∨ (endV a = none ∧ x = [] ∧ v = false)) (t : List UInt8) : a.isPrefixOf t = (!ltB t a && (!v || ltB t x)) := by
  rw [← end_between a t]
  rcases h with ⟨h, rfl⟩ | ⟨h, rfl, rfl⟩ <;> rw [h] <;> simp [aheadO]
theorem next_noneB {s t : List UInt8} {v : Bool} (h : ltB s t = v) : v = true → ltB t (s ++ [0]) = false := fun e => next_none (h.trans e)

end Go.Proofs.Ytfklochgciijkaa

/-
  Layer 7 (span): which ranges are right, in the program's words and in the document's.
-/
namespace Go.Proofs.Ytfklochgciijkaa
open Go.RowKit

theorem edgeB_le {l : List UInt8} : edgeB l = decide (l.length ≤ 17) := rfl
theorem txt_empty {l : List UInt8} {S : ByteArray} (h : str l = S) : (S.toList == []) = l.isEmpty := by
  subst h; rw [str_toList]; cases l <;> rfl
/-- Of two texts which stands ahead, as a number and as a test. -/
theorem cmp_test (a b : List UInt8) : ∃ x : Int, Lib.compareBytes a b = x ∧ decide (x < 0) = ltB a b ∧ decide (0 ≤ x) = !ltB a b := by
  refine ⟨_, rfl, ?_, ?_⟩
  · rw [cmp_ltB]; cases ltB a b with
    | true => rfl
    | false => cases ltB b a <;> rfl
  · rw [cmp_ltB]; cases ltB a b with
    | true => rfl
    | false => cases ltB b a <;> rfl

theorem span_right (r : Rng) (S T : ByteArray) (o v : Bool) (h : IsR r S T o) (hv : rightR r = v) (w : World) :
    Calls Try.prog 64 #[.agg #[.string S, .string T, .bool o]] w fun e w' => e = .returned (.bool v) ∧ Below w.heap.size w w' := by
  obtain ⟨h1, h2, h3⟩ := h
  cases ho : o with
  | true =>
    subst ho
    rw [rightR_open h3] at hv
    obtain ⟨v1, e1⟩ : ∃ v1, edgeB r.lo = v1 := ⟨_, rfl⟩
    obtain ⟨v2, e2⟩ : ∃ v2, r.hi.isEmpty = v2 := ⟨_, rfl⟩
    have hT := (txt_empty h2).trans e2
    have E1 := fun w => Lib.hid (edge_is r.lo S h1 v1 e1 w)
    rw [← edgeB_le, e1, e2] at hv
    clear e1 e2 h1 h2 h3
    subst hv
    cases v1 <;> cases v2
    all_goals
      go_enter Try.func64, Try.ntmps64
      go_wp2_with ((with_reducible refine (E1 _).out.mono ?_); rintro e w' ⟨rfl, rfl⟩)
      go_ret
      exact ⟨rfl, (Below.refl _ _).alloc (Nat.le_refl _) _⟩
  | false =>
    subst ho
    rw [rightR_shut h3] at hv
    obtain ⟨v1, e1⟩ : ∃ v1, edgeB r.lo = v1 := ⟨_, rfl⟩
    obtain ⟨v2, e2⟩ : ∃ v2, edgeB r.hi = v2 := ⟨_, rfl⟩
    have E1 := fun w => Lib.hid (edge_is r.lo S h1 v1 e1 w)
    have E2 := fun w => Lib.hid (edge_is r.hi T h2 v2 e2 w)
    rw [← edgeB_le, ← edgeB_le, e1, e2] at hv
    clear e1 e2
    obtain ⟨x, hx, hx1, -⟩ := cmp_test r.lo r.hi
    have C := fun w => Lib.hid (cmp_is r.lo r.hi S T h1 h2 x hx w)
    rw [← hx1] at hv
    clear hx1 hx h1 h2 h3
    subst hv
    cases v1 <;> cases v2
    all_goals
      go_enter Try.func64, Try.ntmps64
      go_wp2_with (first | ((with_reducible refine (E1 _).out.mono ?_); rintro e w' ⟨rfl, rfl⟩) | ((with_reducible refine (E2 _).out.mono ?_); rintro e w' ⟨rfl, rfl⟩) | ((with_reducible refine (C _).out.mono ?_); rintro e w' ⟨rfl, rfl⟩))
      go_ret
      exact ⟨rfl, (Below.refl _ _).alloc (Nat.le_refl _) _⟩
theorem refR_open {r : Rng} (h : r.op = true) : rightR r = (decide (r.lo.length ≤ 17) && (decide (r.hi.length ≤ 17) && r.hi.isEmpty)) := by
  rw [rightR_open h]
  cases hh : r.hi with
  | nil => rfl
  | cons x l => simp
theorem size_le17 {l : List UInt8} {S : ByteArray} (h : str l = S) : decide (17 < S.size) = !decide (l.length ≤ 17) := by
  subst h; rw [str_size]; by_cases h : l.length ≤ 17 <;> simp [h] <;> omega
theorem ref_rright (r : Rng) (S T : ByteArray) (o v : Bool) (h : IsR r S T o) (hv : rightR r = v) (w : World) :
    Calls Try.prog 35 #[.agg #[.string S, .string T, .bool o]] w fun e w' => e = .returned (.bool v) ∧ Below w.heap.size w w' := by
  obtain ⟨h1, h2, h3⟩ := h
  have hz1 : S.size = r.lo.length := by subst h1; exact str_size _
  have hz2 : T.size = r.hi.length := by subst h2; exact str_size _
  by_cases g1 : r.lo.length ≤ 17
  · by_cases g2 : r.hi.length ≤ 17
    · have k1 : S.size ≤ 17 := by omega
      have k2 : T.size ≤ 17 := by omega
      cases ho : o with
      | true =>
        subst ho
        obtain ⟨v2, e2⟩ : ∃ v2, r.hi.isEmpty = v2 := ⟨_, rfl⟩
        have hT := (txt_empty h2).trans e2
        rw [rightR_open h3, decide_eq_true g1, e2, Bool.true_and] at hv
        clear e2 h1 h2 h3 hz1 hz2
        subst hv
        go_enter Try.func35, Try.ntmps35
        go_wp2_with fail
        go_ret
        exact ⟨rfl, (Below.refl _ _).alloc (Nat.le_refl _) _⟩
      | false =>
        subst ho
        rw [rightR_shut h3, decide_eq_true g1, decide_eq_true g2, Bool.true_and, Bool.true_and] at hv
        have L := fun w => Lib.hid (less_is r.lo r.hi S T h1 h2 (by omega) v hv w)
        clear h1 h2 h3 hz1 hz2 hv
        go_enter Try.func35, Try.ntmps35
        go_wp2_with ((with_reducible refine (L _).out.mono ?_); rintro e w' ⟨rfl, hb⟩)
        go_ret
        exact ⟨rfl, ((Below.refl _ _).alloc (Nat.le_refl _) _).trans (hb.mono (by simp))⟩
    · have k1 : S.size ≤ 17 := by omega
      have k2 : 17 < T.size := by omega
      have hv' : v = false := by
        rw [← hv, Bool.eq_false_iff]; intro e; exact g2 (rightR_hi e)
      subst hv'
      clear h1 h2 h3 hz1 hz2 hv
      go_enter Try.func35, Try.ntmps35
      go_wp2_with fail
      go_ret
      exact ⟨rfl, (Below.refl _ _).alloc (Nat.le_refl _) _⟩
  · have k1 : 17 < S.size := by omega
    have hv' : v = false := by
      rw [← hv, Bool.eq_false_iff]; intro e; exact g1 (rightR_lo e)
    subst hv'
    clear h1 h2 h3 hz1 hz2 hv
    go_enter Try.func35, Try.ntmps35
    go_wp2_with fail
    go_ret
    exact ⟨rfl, (Below.refl _ _).alloc (Nat.le_refl _) _⟩
end Go.Proofs.Ytfklochgciijkaa

/-
  Layer 7 (span): which texts a range has; the ranges of all texts, of one, of those that begin with one.
-/
namespace Go.Proofs.Ytfklochgciijkaa
open Go.RowKit

end Go.Proofs.Ytfklochgciijkaa

/-
  Layer 8 (ranges), the document's words: which texts a list has; is it right; is a text of what is meant.
-/
namespace Go.Proofs.Ytfklochgciijkaa
open Go.RowKit

theorem rd_max {P : Program} {α : Type} {k : Kind P α} {w : World} {B : Nat} {A : Option Addr} {c n : Nat} {l : List α} (h : k.Rd w B A c l) (hn : n = l.length) : n ≤ 9223372036854775807 := by
  have h1 := h.room
  have h2 := h.cap
  unfold maxLen at h2
  omega
end Go.Proofs.Ytfklochgciijkaa

/-
  Layer 8 (ranges), the document's words: is a list right; is it too long; are two the same.
-/
namespace Go.Proofs.Ytfklochgciijkaa
open Go.RowKit

/-- Is what comes behind a range right? -/
def rightF : Option Rng → List Rng → Bool
  | _, [] => true
  | none, r :: l => rightR r && rightF (some r) l
  | some p, r :: l => rightR r && (gapR p r && rightF (some r) l)
theorem rightF_some : ∀ (r : Rng) (l : List Rng), (rightR r && rightF (some r) l) = rightL (r :: l)
  | r, [] => by simp [rightF, rightL]
  | r, t :: l => by
    have := rightF_some t l
    unfold rightF rightL
    rw [← this]
    cases rightR r <;> cases gapR r t <;> cases rightR t <;> simp
theorem rightF_none (l : List Rng) : rightF none l = rightL l := by
  cases l with
  | nil => rfl
  | cons r l => rw [← rightF_some]; rfl
/-- The range ahead of place k. -/
def prevR (l : List Rng) : Nat → Option Rng
  | 0 => none
  | k + 1 => l[k]?
theorem less_q (a b : List UInt8) (S T : ByteArray) (hS : str a = S) (hT : str b = T) (ha : a.length ≤ 9223372036854775807) (v : Bool) (hv : ltB a b = v) (w : World) : Calls Try.prog 36 #[.string S, .string T] w fun e w' => e = .returned (.bool v) ∧ ∃ n, w' = w.drewN n := by
  subst hS hT hv
  exact ref_less a b ha w
end Go.Proofs.Ytfklochgciijkaa

/-
  Layer 8 (ranges), the document's words: are two lists the same; is one too long to be looked at.
-/
namespace Go.Proofs.Ytfklochgciijkaa
open Go.RowKit

def eqR (r t : Rng) : Bool := decide (r.lo = t.lo) && decide (r.hi = t.hi) && decide (r.op = t.op)
theorem eqR_iff {r t : Rng} : eqR r t = true ↔ r = t := by
  unfold eqR
  simp only [Bool.and_eq_true, decide_eq_true_eq]
  exact ⟨fun ⟨⟨h1, h2⟩, h3⟩ => rng_ext h1 h2 h3, fun h => by subst h; exact ⟨⟨rfl, rfl⟩, rfl⟩⟩
def sameL : List Rng → List Rng → Bool
  | [], [] => true
  | r :: a, t :: b => eqR r t && sameL a b
  | _, _ => false
theorem sameL_cons (r t : Rng) (a b : List Rng) : sameL (r :: a) (t :: b) = (eqR r t && sameL a b) := rfl
theorem sameL_iff : ∀ {a b : List Rng}, sameL a b = true ↔ a = b
  | [], [] => by simp [sameL]
  | [], t :: b => by simp [sameL]
  | r :: a, [] => by simp [sameL]
  | r :: a, t :: b => by
    unfold sameL
    rw [Bool.and_eq_true, eqR_iff, sameL_iff, List.cons.injEq]
theorem sameL_len {a b : List Rng} (h : a.length ≠ b.length) : sameL a b = false := by
  cases hs : sameL a b with
  | false => rfl
  | true => rw [sameL_iff.1 hs] at h; exact absurd rfl h
theorem eq_rngs (r t : Rng) (d : Bool) (hd : eqR r t = d) (w : World) : (Op.equalIn 10000 67 (.agg #[.string (str r.lo), .string (str r.hi), .bool r.op]) (.agg #[.string (str t.lo), .string (str t.hi), .bool t.op])).run Try.prog w = .ok d w := by
  refine eq_rng_is _ _ _ _ _ _ d ?_ w
  rw [← hd, str_toList, str_toList, str_toList, str_toList]
  have e : ∀ a b : List UInt8, (a == b) = decide (a = b) := fun a b => by by_cases h : a = b <;> simp [h]
  unfold eqR
  rw [e, e]
  cases r.op <;> cases t.op <;> rfl
/-- Has a list too many ranges, or one of them too long an edge? -/
def longL (most : Nat) (l : List Rng) : Bool := decide (most < l.length) || l.any fun r => decide (40 < r.lo.length) || decide (40 < r.hi.length)
end Go.Proofs.Ytfklochgciijkaa

/-
  Layer 8 (ranges), the document's words: a text put among rising ones.
-/
namespace Go.Proofs.Ytfklochgciijkaa
open Go.RowKit

theorem str_sizeOf (w : World) : (sizeOf 9).run Try.prog w = .ok 1 w := by kernel_rfl
theorem strs_take (l : List (List UInt8)) (k : Nat) : kStr.row (l.take k) = (kStr.row l).take k := by
  have := kStr.row_take l k
  rwa [show k * kStr.size = k by show k * 1 = k; omega] at this
theorem strs_drop (l : List (List UInt8)) (k : Nat) : kStr.row (l.drop k) = (kStr.row l).drop k := by
  have := kStr.row_drop l k
  rwa [show k * kStr.size = k by show k * 1 = k; omega] at this
theorem strs_len (l : List (List UInt8)) : (kStr.row l).length = l.length := by
  have := kStr.row_len l
  rwa [show l.length * kStr.size = l.length by show l.length * 1 = l.length; omega] at this
theorem le_alloc {n : Nat} {w : World} (h : n ≤ w.heap.size) (o : Obj) : n ≤ (w.alloc o).heap.size := by simp; omega
/-- What put hands back: a row that reads. -/
def RetS (w : World) (l : List (List UInt8)) (e : Ending) (w' : World) : Prop := ∃ A c, e = .returned (.slice A l.length c) ∧ kStr.Rd w' w'.heap.size A c l ∧ Below w.heap.size w w'
end Go.Proofs.Ytfklochgciijkaa
