/-
  Several texts in one: Law06A, Law06B, SpanA, SpanB, RgsA, RgsB, RgsC, RgsD, RgsE, RgsF, Flt, Quiet.
-/
import Derived.Deep.RegionHeld3
import Derived.BigRegion
import Derived.Deep.QuietTactic
import Derived.BigQuiet
import Derived.IntWalk
import Derived.Deep.Quiet
import Derived.Test.YtohdncmlmpnfbaaMg3
/-
  The laws of layer 6: the chapter's examples; KeyOrder, KeyTotal.
-/
namespace Go.Proofs.Ytohdncmlmpnfbaa
open Go.RowKit

/-! The callees over letters: the texts are named ahead of a walk. -/
theorem less_is (a b : List UInt8) (S T : ByteArray) (hS : str a = S) (hT : str b = T) (ha : a.length ≤ 1000000) (v : Bool) (hv : ltB a b = v) (w : World) : Calls Try.prog 26 #[.string S, .string T] w fun e w' => e = .returned (.bool v) ∧ Below w.heap.size w w' := by
  subst hS hT hv
  exact (ref_less a b (by omega) w).mono fun e w' ⟨h1, n, h2⟩ => ⟨h1, below_quiet h2⟩
theorem cmp_is (a b : List UInt8) (S T : ByteArray) (hS : str a = S) (hT : str b = T) (v : Int) (hv : Lib.compareBytes a b = v) (w : World) : Calls Try.prog 52 #[.string S, .string T] w fun e w' => e = .returned (.int .i64 v) ∧ w = w' := by
  subst hS hT hv
  exact key_cmp a b w
theorem edge_is (a : List UInt8) (S : ByteArray) (hS : str a = S) (v : Bool) (hv : edgeB a = v) (w : World) : Calls Try.prog 51 #[.string S] w fun e w' => e = .returned (.bool v) ∧ w = w' := by
  subst hS hv
  exact key_edge a w
theorem end_is (a x : List UInt8) (S T : ByteArray) (hS : str a = S) (hT : str x = T) (ha : a.length ≤ 1000000) (hx : endV a = some x) (w : World) : Calls Try.prog 67 #[.string S] w fun e w' => e = .returned (.tuple #[.string T, .bool true]) ∧ Below w.heap.size w w' := by
  subst hS hT
  refine (key_end a ha w).mono ?_
  rintro e w' ⟨⟨y, hy, rfl⟩ | ⟨hn, -⟩, hb⟩
  · rw [hx] at hy
    injection hy with hy
    subst hy
    exact ⟨rfl, hb⟩
  · rw [hx] at hn; cases hn

theorem txt_ne {a b : List UInt8} {S T : ByteArray} (hS : str a = S) (hT : str b = T) (h : a ≠ b) : (S.toList == T.toList) = false := by
  subst hS hT
  rw [str_toList, str_toList]
  simpa using h
theorem edge_int (a : List UInt8) (S : ByteArray) (hS : str a = S) : edgeB a = decide ((S.size : Int) ≤ 17) := by
  subst hS
  unfold edgeB
  rw [str_size]
  exact decide_eq_decide.2 (by omega)
/-- What three texts' places have to do with one another. -/
theorem cmp_three (a b c : List UInt8) : ∃ x y z : Int, Lib.compareBytes a b = x ∧ Lib.compareBytes b c = y ∧ Lib.compareBytes a c = z ∧
    ((x = 0 ∧ y = z ∧ (y = -1 ∨ y = 0 ∨ y = 1)) ∨ (x = -1 ∧ (y = -1 ∨ y = 0) ∧ z = -1) ∨ (x = 1 ∧ (y = 1 ∨ y = 0) ∧ z = 1) ∨ (x = -1 ∧ y = 1 ∧ (z = -1 ∨ z = 0 ∨ z = 1)) ∨ (x = 1 ∧ y = -1 ∧ (z = -1 ∨ z = 0 ∨ z = 1))) := by
  have any : ∀ a b : List UInt8, Lib.compareBytes a b = -1 ∨ Lib.compareBytes a b = 0 ∨ Lib.compareBytes a b = 1 := fun a b => by
    rcases ltB_three a b with ⟨h, _, _⟩ | ⟨_, h, _⟩ | ⟨_, _, rfl⟩
    · exact .inl (cmp_lt h)
    · exact .inr (.inr (cmp_gt h))
    · exact .inr (.inl (cmp_self a))
  refine ⟨_, _, _, rfl, rfl, rfl, ?_⟩
  rcases ltB_three a b with ⟨h1, _, _⟩ | ⟨_, h1, _⟩ | ⟨_, _, rfl⟩
  · rcases ltB_three b c with ⟨h2, _, _⟩ | ⟨_, h2, _⟩ | ⟨_, _, rfl⟩
    · exact .inr (.inl ⟨cmp_lt h1, .inl (cmp_lt h2), cmp_lt (ltB_trans h1 h2)⟩)
    · exact .inr (.inr (.inr (.inl ⟨cmp_lt h1, cmp_gt h2, any a c⟩)))
    · exact .inr (.inl ⟨cmp_lt h1, .inr (cmp_self b), cmp_lt h1⟩)
  · rcases ltB_three b c with ⟨h2, _, _⟩ | ⟨_, h2, _⟩ | ⟨_, _, rfl⟩
    · exact .inr (.inr (.inr (.inr ⟨cmp_gt h1, cmp_lt h2, any a c⟩)))
    · exact .inr (.inr (.inl ⟨cmp_gt h1, .inl (cmp_gt h2), cmp_gt (ltB_trans h2 h1)⟩))
    · exact .inr (.inr (.inl ⟨cmp_gt h1, .inr (cmp_self b), cmp_gt h1⟩))
  · exact .inl ⟨cmp_self a, rfl, any a c⟩
end Go.Proofs.Ytohdncmlmpnfbaa

/-
  The laws of layer 6: KeyNext.
-/
namespace Go.Proofs.Ytohdncmlmpnfbaa
open Go.RowKit

/-- What an end's two results are. -/
theorem endO (a : List UInt8) : ∃ (x : List UInt8) (v : Bool), (endV a = some x ∧ v = true) ∨ (endV a = none ∧ x = [] ∧ v = false) := by
  cases h : endV a with
  | some x => exact ⟨x, true, .inl ⟨rfl, rfl⟩⟩
  | none => exact ⟨[], false, .inr ⟨rfl, rfl, rfl⟩⟩
theorem endO_len {a x : List UInt8} {v : Bool} (h : (endV a = some x ∧ v = true) ∨ (endV a = none ∧ x = [] ∧ v = false)) : x.length ≤ a.length := by
  rcases h with ⟨h, _⟩ | ⟨_, rfl, _⟩
  · exact (endV_len h).2
  · simp
theorem endO_is (a x : List UInt8) (v : Bool) (S X : ByteArray) (hS : str a = S) (hX : str x = X) (ha : a.length ≤ 1000000) (h : (endV a = some x ∧ v = true) ∨ (endV a = none ∧ x = [] ∧ v = false)) (w : World) :
    Calls Try.prog 67 #[.string S] w fun e w' => e = .returned (.tuple #[.string X, .bool v]) ∧ Below w.heap.size w w' := by
  subst hS hX
  refine (key_end a ha w).mono ?_
  rintro e w' ⟨h', hb⟩
  rcases h with ⟨h, rfl⟩ | ⟨h, rfl, rfl⟩ <;> rcases h' with ⟨y, hy, rfl⟩ | ⟨hy, rfl⟩ <;> rw [h] at hy
  · injection hy with hy; subst hy; exact ⟨rfl, hb⟩
  · cases hy
  · cases hy
  · exact ⟨rfl, hb⟩
theorem end_betweenO {a x : List UInt8} {v : Bool} (h : (endV a = some x ∧ v = true) ∨ (endV a = none ∧ x = [] ∧ v = false)) (t : List UInt8) : a.isPrefixOf t = (!ltB t a && (!v || ltB t x)) := by
  rw [← end_between a t]
  rcases h with ⟨h, rfl⟩ | ⟨h, rfl, rfl⟩ <;> rw [h] <;> simp [aheadO]
theorem next_noneB {s t : List UInt8} {v : Bool} (h : ltB s t = v) : v = true → ltB t (s ++ [0]) = false := fun e => next_none (h.trans e)

end Go.Proofs.Ytohdncmlmpnfbaa

/-
  Layer 7 (span): which ranges are right, in the program's words and in the document's.
-/
namespace Go.Proofs.Ytohdncmlmpnfbaa
open Go.RowKit

theorem edgeB_le {l : List UInt8} : edgeB l = decide (l.length ≤ 17) := rfl
theorem txt_empty {l : List UInt8} {S : ByteArray} (h : str l = S) : (S.toList == []) = l.isEmpty := by
  subst h; rw [str_toList]; cases l <;> rfl
/-- Of two texts which stands ahead, as a number and as a test. -/
theorem cmp_test (a b : List UInt8) : ∃ x : Int, Lib.compareBytes a b = x ∧ decide (x < 0) = ltB a b ∧ decide (0 ≤ x) = !ltB a b := by
  refine ⟨_, rfl, ?_, ?_⟩
  · rw [cmp_ltB]; cases ltB a b with
    | true => rfl
    | false => cases ltB b a <;> rfl
  · rw [cmp_ltB]; cases ltB a b with
    | true => rfl
    | false => cases ltB b a <;> rfl

theorem span_right (r : Rng) (S T : ByteArray) (o v : Bool) (h : IsR r S T o) (hv : rightR r = v) (w : World) :
    Calls Try.prog 41 #[.agg #[.string S, .string T, .bool o]] w fun e w' => e = .returned (.bool v) ∧ Below w.heap.size w w' := by
  obtain ⟨h1, h2, h3⟩ := h
  cases ho : o with
  | true =>
    subst ho
    rw [rightR_open h3] at hv
    obtain ⟨v1, e1⟩ : ∃ v1, edgeB r.lo = v1 := ⟨_, rfl⟩
    obtain ⟨v2, e2⟩ : ∃ v2, r.hi.isEmpty = v2 := ⟨_, rfl⟩
    have hT := (txt_empty h2).trans e2
    have E1 := fun w => Lib.hid (edge_is r.lo S h1 v1 e1 w)
    rw [← edgeB_le, e1, e2] at hv
    clear e1 e2 h1 h2 h3
    subst hv
    cases v1 <;> cases v2
    all_goals
      go_enter Try.func41, Try.ntmps41
      go_wp2_with ((with_reducible refine (E1 _).out.mono ?_); rintro e w' ⟨rfl, rfl⟩)
      go_ret
      exact ⟨rfl, (Below.refl _ _).alloc (Nat.le_refl _) _⟩
  | false =>
    subst ho
    rw [rightR_shut h3] at hv
    obtain ⟨v1, e1⟩ : ∃ v1, edgeB r.lo = v1 := ⟨_, rfl⟩
    obtain ⟨v2, e2⟩ : ∃ v2, edgeB r.hi = v2 := ⟨_, rfl⟩
    have E1 := fun w => Lib.hid (edge_is r.lo S h1 v1 e1 w)
    have E2 := fun w => Lib.hid (edge_is r.hi T h2 v2 e2 w)
    rw [← edgeB_le, ← edgeB_le, e1, e2] at hv
    clear e1 e2
    obtain ⟨x, hx, hx1, -⟩ := cmp_test r.lo r.hi
    have C := fun w => Lib.hid (cmp_is r.lo r.hi S T h1 h2 x hx w)
    rw [← hx1] at hv
    clear hx1 hx h1 h2 h3
    subst hv
    cases v1 <;> cases v2
    all_goals
      go_enter Try.func41, Try.ntmps41
      go_wp2_with (first | ((with_reducible refine (E1 _).out.mono ?_); rintro e w' ⟨rfl, rfl⟩) | ((with_reducible refine (E2 _).out.mono ?_); rintro e w' ⟨rfl, rfl⟩) | ((with_reducible refine (C _).out.mono ?_); rintro e w' ⟨rfl, rfl⟩))
      go_ret
      exact ⟨rfl, (Below.refl _ _).alloc (Nat.le_refl _) _⟩
theorem refR_open {r : Rng} (h : r.op = true) : rightR r = (decide (r.lo.length ≤ 17) && (decide (r.hi.length ≤ 17) && r.hi.isEmpty)) := by
  rw [rightR_open h]
  cases hh : r.hi with
  | nil => rfl
  | cons x l => simp
theorem size_le17 {l : List UInt8} {S : ByteArray} (h : str l = S) : decide (17 < S.size) = !decide (l.length ≤ 17) := by
  subst h; rw [str_size]; by_cases h : l.length ≤ 17 <;> simp [h] <;> omega
theorem ref_rright (r : Rng) (S T : ByteArray) (o v : Bool) (h : IsR r S T o) (hv : rightR r = v) (w : World) :
    Calls Try.prog 25 #[.agg #[.string S, .string T, .bool o]] w fun e w' => e = .returned (.bool v) ∧ Below w.heap.size w w' := by
  obtain ⟨h1, h2, h3⟩ := h
  have hz1 : S.size = r.lo.length := by subst h1; exact str_size _
  have hz2 : T.size = r.hi.length := by subst h2; exact str_size _
  by_cases g1 : r.lo.length ≤ 17
  · by_cases g2 : r.hi.length ≤ 17
    · have k1 : S.size ≤ 17 := by omega
      have k2 : T.size ≤ 17 := by omega
      cases ho : o with
      | true =>
        subst ho
        obtain ⟨v2, e2⟩ : ∃ v2, r.hi.isEmpty = v2 := ⟨_, rfl⟩
        have hT := (txt_empty h2).trans e2
        rw [rightR_open h3, decide_eq_true g1, e2, Bool.true_and] at hv
        clear e2 h1 h2 h3 hz1 hz2
        subst hv
        go_enter Try.func25, Try.ntmps25
        go_wp2_with fail
        go_ret
        exact ⟨rfl, (Below.refl _ _).alloc (Nat.le_refl _) _⟩
      | false =>
        subst ho
        rw [rightR_shut h3, decide_eq_true g1, decide_eq_true g2, Bool.true_and, Bool.true_and] at hv
        have L := fun w => Lib.hid (less_is r.lo r.hi S T h1 h2 (by omega) v hv w)
        clear h1 h2 h3 hz1 hz2 hv
        go_enter Try.func25, Try.ntmps25
        go_wp2_with ((with_reducible refine (L _).out.mono ?_); rintro e w' ⟨rfl, hb⟩)
        go_ret
        exact ⟨rfl, ((Below.refl _ _).alloc (Nat.le_refl _) _).trans (hb.mono (by simp))⟩
    · have k1 : S.size ≤ 17 := by omega
      have k2 : 17 < T.size := by omega
      have hv' : v = false := by
        rw [← hv, Bool.eq_false_iff]; intro e; exact g2 (rightR_hi e)
      subst hv'
      clear h1 h2 h3 hz1 hz2 hv
      go_enter Try.func25, Try.ntmps25
      go_wp2_with fail
      go_ret
      exact ⟨rfl, (Below.refl _ _).alloc (Nat.le_refl _) _⟩
  · have k1 : 17 < S.size := by omega
    have hv' : v = false := by
      rw [← hv, Bool.eq_false_iff]; intro e; exact g1 (rightR_lo e)
    subst hv'
    clear h1 h2 h3 hz1 hz2 hv
    go_enter Try.func25, Try.ntmps25
    go_wp2_with fail
    go_ret
    exact ⟨rfl, (Below.refl _ _).alloc (Nat.le_refl _) _⟩
end Go.Proofs.Ytohdncmlmpnfbaa

/-
  Layer 7 (span): which texts a range has; the ranges of all texts, of one, of those that begin with one.
-/
namespace Go.Proofs.Ytohdncmlmpnfbaa
open Go.RowKit

/-! Ranges that are handed back. -/
theorem span_all (w : World) : Calls Try.prog 63 #[] w fun e w' => e = .returned (.agg #[.string (str []), .string (str []), .bool true]) ∧ Below w.heap.size w w' := by
  go_enter Try.func63, Try.ntmps63
  go_wp2_with fail
  exact bodyPost_ret (v := .agg #[.string ⟨#[]⟩, .string ⟨#[]⟩, .bool true]) (by simp [results, Try.results63, go_sem]) rfl ⟨rfl, (Below.refl _ _).alloc (Nat.le_refl _) _⟩
end Go.Proofs.Ytohdncmlmpnfbaa

/-
  Layer 8 (ranges), the document's words: which texts a list has; is it right; is a text of what is meant.
-/
namespace Go.Proofs.Ytohdncmlmpnfbaa
open Go.RowKit

theorem rd_max {P : Program} {α : Type} {k : Kind P α} {w : World} {B : Nat} {A : Option Addr} {c n : Nat} {l : List α} (h : k.Rd w B A c l) (hn : n = l.length) : n ≤ 9223372036854775807 := by
  have h1 := h.room
  have h2 := h.cap
  unfold maxLen at h2
  omega
end Go.Proofs.Ytohdncmlmpnfbaa

/-
  Layer 8 (ranges), the document's words: is a list right; is it too long; are two the same.
-/
namespace Go.Proofs.Ytohdncmlmpnfbaa
open Go.RowKit

/-- Is what comes behind a range right? -/
def rightF : Option Rng → List Rng → Bool
  | _, [] => true
  | none, r :: l => rightR r && rightF (some r) l
  | some p, r :: l => rightR r && (gapR p r && rightF (some r) l)
theorem rightF_some : ∀ (r : Rng) (l : List Rng), (rightR r && rightF (some r) l) = rightL (r :: l)
  | r, [] => by simp [rightF, rightL]
  | r, t :: l => by
    have := rightF_some t l
    unfold rightF rightL
    rw [← this]
    cases rightR r <;> cases gapR r t <;> cases rightR t <;> simp
theorem rightF_none (l : List Rng) : rightF none l = rightL l := by
  cases l with
  | nil => rfl
  | cons r l => rw [← rightF_some]; rfl
/-- The range ahead of place k. -/
def prevR (l : List Rng) : Nat → Option Rng
  | 0 => none
  | k + 1 => l[k]?
theorem less_q (a b : List UInt8) (S T : ByteArray) (hS : str a = S) (hT : str b = T) (ha : a.length ≤ 9223372036854775807) (v : Bool) (hv : ltB a b = v) (w : World) : Calls Try.prog 26 #[.string S, .string T] w fun e w' => e = .returned (.bool v) ∧ ∃ n, w' = w.drewN n := by
  subst hS hT hv
  exact ref_less a b ha w
set_option maxHeartbeats 1000000 in
theorem ref_lright (A : Option Addr) (c n : Nat) (l : List Rng) (hn : n = l.length) (hl : ∀ r ∈ l, r.hi.length ≤ 9223372036854775807) (v : Bool) (hv : rightL l = v) (w : World) (hr : kRng.Rd w w.heap.size A c l) :
    Calls Try.prog 9 #[.slice A n c] w fun e w' => e = .returned (.bool v) ∧ Below w.heap.size w w' := by
  have HN := Lib.hid hn
  have HR := Lib.hid hr
  have HLN := Lib.hid hl
  have hmx : n ≤ 9223372036854775807 := rd_max hr hn
  have hcx : n ≤ c := by rw [hn]; exact hr.room
  subst hv
  clear hn hr hl
  go_enter Try.func9, Try.ntmps9
  go_wp2_with fail
  go_loopw [3] (fun i wr => ∃ k : Nat, k ≤ n ∧ Hid (rightL l = rightF (prevR l k) (l.drop k)) ∧ i = .int .i64 k ∧ Below w.heap.size w wr) (fun i _ => n - (intOf i).toNat)
  case atStart => exact ⟨0, by omega, (rightF_none l).symm, rfl, Below.refl _ _⟩
  case round =>
    obtain ⟨k, hk, HL, rfl, hb⟩ := hrel
    by_cases hlt : k < n
    · obtain ⟨r, hg, hd, -⟩ := get_some (l := l) (k := k) (by have := HN.out; omega)
      have HR1 := Lib.hid (HR.out.below hb)
      obtain ⟨b, o, rfl, hb1, hcell⟩ := rngs_at HR1.out (by have := HN.out; omega)
      obtain ⟨c0, c1, c2⟩ := hcell k r hg
      obtain ⟨d, hdv⟩ : ∃ d, rightR r = d := ⟨_, rfl⟩
      have C := fun w => Lib.hid (ref_rright r _ _ _ d (IsR.mk' r) hdv w)
      cases d
      · have HL2 := Lib.hid (HL.out.trans (show rightF (prevR l k) (l.drop k) = false by rw [hd]; cases prevR l k <;> simp [rightF, hdv]))
        clear hcell hg hd hdv
        go_wp2_with ((with_reducible refine (C _).out.mono ?_); rintro e w2 ⟨rfl, hq⟩; replace hb := hb.trans (hq.mono hb.size); clear hq)
        go_ret
        exact ⟨ret_bool HL2.out.symm, hb⟩
      · cases k with
        | zero =>
          have HL2 := Lib.hid (HL.out.trans (show rightF (prevR l 0) (l.drop 0) = rightF (prevR l 1) (l.drop 1) by rw [hd]; show rightF none _ = rightF l[0]? _; rw [hg]; simp [rightF, hdv]))
          clear hcell hg hd hdv
          simp only [Nat.zero_mul, Nat.add_zero] at c0 c1 c2
          go_wp2_with ((with_reducible refine (C _).out.mono ?_); rintro e w2 ⟨rfl, hq⟩; replace hb := hb.trans (hq.mono hb.size); clear hq)
          go_quiet (fail)
          go_wp2_with fail
          go_roundw
          case rel => exact ⟨1, by omega, HL2, rfl, below_drewN hb _⟩
          case measure => simp [intOf]; omega
        | succ j =>
          obtain ⟨p, hp, -, hpm⟩ := get_some (l := l) (k := j) (by have := HN.out; omega)
          obtain ⟨p0, p1, p2⟩ := hcell j p hp
          have HL2 := Lib.hid (HL.out.trans (show rightF (prevR l (j + 1)) (l.drop (j + 1)) = (gapR p r && rightF (prevR l (j + 2)) (l.drop (j + 2))) by rw [hd]; show rightF l[j]? _ = (_ && rightF l[j + 1]? _); rw [hp, hg]; simp [rightF, hdv]))
          obtain ⟨x, hx⟩ : ∃ x, ltB p.hi r.lo = x := ⟨_, rfl⟩
          have CL := fun w => Lib.hid (less_q p.hi r.lo _ _ rfl rfl (HLN.out p hpm) x hx w)
          obtain ⟨q, hq⟩ : ∃ q, p.op = q := ⟨_, rfl⟩
          have HGP := Lib.hid (show gapR p r = (!q && x) by unfold gapR; rw [hq, hx])
          rw [hq] at p2
          have hl2 := Nat.lt_of_lt_of_le hb1 hb.size
          have hj1 : (0 : Int) < (j : Int) + 1 := by omega
          have hjd : decide ((0 : Int) < (j : Int) + 1) = true := decide_eq_true hj1
          have hjn : (j : Int) < (n : Int) := by omega
          have hj0 : (0 : Int) ≤ (j : Int) := by omega
          have hjw : IntKind.i64.wrap ((j : Int) + 1 - 1) = (j : Int) := by rw [Int.add_sub_cancel]; exact IntWalk.i64_in _ (by omega)
          have hjn1 : (j : Int) + 1 < (n : Int) := by omega
          have hjw1 : IntKind.i64.wrap ((j : Int) + 1) = (j : Int) + 1 := IntWalk.i64_in _ (by omega)
          have hjt : ((j : Int) + 1).toNat = j + 1 := by omega
          have HJ := Lib.hid hjw
          have HJ1 := Lib.hid hjw1
          have HJT := Lib.hid hjt
          clear hcell hg hd hdv hp hpm hx hq hjw hjw1 hjt
          cases q <;> cases x
          all_goals
            go_wp2_with ((with_reducible refine (C _).out.mono ?_); rintro e w2 ⟨rfl, hq⟩; replace c0 := ((bcell hq).1 _ _ hl2).trans c0; replace p1 := ((bcell hq).1 _ _ hl2).trans p1; replace p2 := ((bcell hq).1 _ _ hl2).trans p2; replace hb := hb.trans (hq.mono hb.size); clear hq)
            have hjw := HJ.out
            have hjw1 := HJ1.out
            have hjt := HJT.out
            go_quiet ((go_at_call 26; exact Calls.quiet_of (CL _).out))
            clear hjw hjw1 hjt
            go_wp2_with fail
          all_goals first
            | (have HE := Lib.hid (HL2.out.trans (show (gapR p r && rightF (prevR l (j + 2)) (l.drop (j + 2))) = rightF (prevR l (j + 2)) (l.drop (j + 2)) by rw [HGP.out]; rfl))
               go_roundw
               case rel => exact ⟨j + 2, by omega, HE, by go_num, below_drewN hb _⟩
               case measure => simp [intOf]; omega)
            | (have HE := Lib.hid (HL2.out.trans (show (gapR p r && rightF (prevR l (j + 2)) (l.drop (j + 2))) = false by rw [HGP.out]; rfl))
               go_ret
               exact ⟨ret_bool HE.out.symm, below_drewN hb _⟩)
    · have HL2 := Lib.hid (HL.out.trans (show rightF (prevR l k) (l.drop k) = true by rw [List.drop_eq_nil_of_le (by have := HN.out; omega)]; cases prevR l k <;> rfl))
      go_wp2_with fail
      go_ret
      exact ⟨ret_bool HL2.out.symm, hb⟩
end Go.Proofs.Ytohdncmlmpnfbaa

/-
  Layer 8 (ranges), the document's words: are two lists the same; is one too long to be looked at.
-/
namespace Go.Proofs.Ytohdncmlmpnfbaa
open Go.RowKit

def eqR (r t : Rng) : Bool := decide (r.lo = t.lo) && decide (r.hi = t.hi) && decide (r.op = t.op)
theorem eqR_iff {r t : Rng} : eqR r t = true ↔ r = t := by
  unfold eqR
  simp only [Bool.and_eq_true, decide_eq_true_eq]
  exact ⟨fun ⟨⟨h1, h2⟩, h3⟩ => rng_ext h1 h2 h3, fun h => by subst h; exact ⟨⟨rfl, rfl⟩, rfl⟩⟩
def sameL : List Rng → List Rng → Bool
  | [], [] => true
  | r :: a, t :: b => eqR r t && sameL a b
  | _, _ => false
theorem sameL_cons (r t : Rng) (a b : List Rng) : sameL (r :: a) (t :: b) = (eqR r t && sameL a b) := rfl
theorem sameL_iff : ∀ {a b : List Rng}, sameL a b = true ↔ a = b
  | [], [] => by simp [sameL]
  | [], t :: b => by simp [sameL]
  | r :: a, [] => by simp [sameL]
  | r :: a, t :: b => by
    unfold sameL
    rw [Bool.and_eq_true, eqR_iff, sameL_iff, List.cons.injEq]
theorem sameL_len {a b : List Rng} (h : a.length ≠ b.length) : sameL a b = false := by
  cases hs : sameL a b with
  | false => rfl
  | true => rw [sameL_iff.1 hs] at h; exact absurd rfl h
theorem eq_rngs (r t : Rng) (d : Bool) (hd : eqR r t = d) (w : World) : (Op.equalIn 10000 49 (.agg #[.string (str r.lo), .string (str r.hi), .bool r.op]) (.agg #[.string (str t.lo), .string (str t.hi), .bool t.op])).run Try.prog w = .ok d w := by
  refine eq_rng_is _ _ _ _ _ _ d ?_ w
  rw [← hd, str_toList, str_toList, str_toList, str_toList]
  have e : ∀ a b : List UInt8, (a == b) = decide (a = b) := fun a b => by by_cases h : a = b <;> simp [h]
  unfold eqR
  rw [e, e]
  cases r.op <;> cases t.op <;> rfl
set_option maxHeartbeats 1000000 in
theorem ref_same (A B : Option Addr) (c d n m : Nat) (a b : List Rng) (hn : n = a.length) (hm : m = b.length) (v : Bool) (hv : sameL a b = v) (w : World) (ha : kRng.Rd w w.heap.size A c a) (hb : kRng.Rd w w.heap.size B d b) :
    Calls Try.prog 13 #[.slice A n c, .slice B m d] w fun e w' => e = .returned (.bool v) ∧ ∃ q, w' = w.drewN q := by
  have HN := Lib.hid hn
  have HM := Lib.hid hm
  have HA := Lib.hid ha
  have HB := Lib.hid hb
  have hmx : n ≤ 9223372036854775807 := rd_max ha hn
  have hmy : m ≤ 9223372036854775807 := rd_max hb hm
  have hcx : n ≤ c := by rw [hn]; exact ha.room
  have hcy : m ≤ d := by rw [hm]; exact hb.room
  subst hv
  by_cases hnm : n = m
  · subst hnm
    clear hn hm ha hb
    go_enter Try.func13, Try.ntmps13
    go_wp2_with fail
    go_loopw [5] (fun i wr => ∃ k q : Nat, k ≤ n ∧ Hid (sameL a b = sameL (a.drop k) (b.drop k)) ∧ i = .int .i64 k ∧ wr = w.drewN q) (fun i _ => n - (intOf i).toNat)
    case atStart => exact ⟨0, 0, by omega, rfl, rfl, rfl⟩
    case round =>
      obtain ⟨k, q, hk, HL, rfl, rfl⟩ := hrel
      by_cases hlt : k < n
      · obtain ⟨r, hg, hd, -⟩ := get_some (l := a) (k := k) (by have := HN.out; omega)
        obtain ⟨t, hg', hd', -⟩ := get_some (l := b) (k := k) (by have := HM.out; omega)
        obtain ⟨b1, o1, rfl, hb1, hcell1⟩ := rngs_at HA.out (by have := HN.out; omega)
        obtain ⟨b2, o2, rfl, hb2, hcell2⟩ := rngs_at HB.out (by have := HM.out; omega)
        obtain ⟨a0, a1, a2⟩ := hcell1 k r hg
        obtain ⟨c0, c1, c2⟩ := hcell2 k t hg'
        obtain ⟨x, hx⟩ : ∃ x, eqR r t = x := ⟨_, rfl⟩
        have EQ := fun w => eq_rngs r t x hx w
        have HL2 := Lib.hid (HL.out.trans (show sameL (a.drop k) (b.drop k) = (x && sameL (a.drop (k + 1)) (b.drop (k + 1))) by rw [hd, hd', sameL_cons, hx]))
        have hk0 : (0 : Int) ≤ (k : Int) := by omega
        have hkn : (k : Int) < (n : Int) := by omega
        clear hcell1 hcell2 hg hg' hd hd' hx
        cases x
        all_goals
          go_wp2_with fail
          go_quiet (fail)
          go_wp2_with fail
        · go_ret
          exact ⟨ret_bool HL2.out.symm, drewN2 _ _ _⟩
        · go_roundw
          case rel => exact ⟨k + 1, _, by omega, HL2, by go_num, rfl⟩
          case measure => simp [intOf]; omega
      · have HL2 := Lib.hid (HL.out.trans (show sameL (a.drop k) (b.drop k) = true by rw [List.drop_eq_nil_of_le (by have := HN.out; omega), List.drop_eq_nil_of_le (by have := HM.out; omega)]; rfl))
        go_wp2_with fail
        go_ret
        exact ⟨ret_bool HL2.out.symm, _, rfl⟩
  · have HE := Lib.hid (sameL_len (a := a) (b := b) (by omega))
    have hne : ((n : Int) == (m : Int)) = false := beq_eq_false_iff_ne.2 (by omega)
    have hne2 : ((n : Int) != (m : Int)) = true := by rw [bne, hne]; rfl
    clear hn hm ha hb hnm
    go_enter Try.func13, Try.ntmps13
    go_wp2_with fail
    go_ret
    exact ⟨ret_bool HE.out.symm, 0, rfl⟩
/-- Has a list too many ranges, or one of them too long an edge? -/
def longL (most : Nat) (l : List Rng) : Bool := decide (most < l.length) || l.any fun r => decide (40 < r.lo.length) || decide (40 < r.hi.length)
set_option maxHeartbeats 1000000 in
theorem ref_long (A : Option Addr) (c n most : Nat) (l : List Rng) (hn : n = l.length) (hm : most ≤ 1000) (v : Bool) (hv : longL most l = v) (w : World) (hr : kRng.Rd w w.heap.size A c l) :
    Calls Try.prog 7 #[.slice A n c, .int .i64 most] w fun e w' => e = .returned (.bool v) ∧ w = w' := by
  have HN := Lib.hid hn
  have HR := Lib.hid hr
  have hmx : n ≤ 9223372036854775807 := rd_max hr hn
  have hcx : n ≤ c := by rw [hn]; exact hr.room
  subst hv
  by_cases h1 : most < n
  · have HE : Hid (longL most l = true) := by unfold longL; rw [decide_eq_true (by omega)]; rfl
    clear hn hr
    go_enter Try.func7, Try.ntmps7
    go_wp2_with fail
    go_ret
    exact ⟨ret_bool HE.out.symm, rfl⟩
  · have h1' : n ≤ most := by omega
    have HE : Hid (longL most l = l.any fun r => decide (40 < r.lo.length) || decide (40 < r.hi.length)) := by unfold longL; rw [decide_eq_false (by omega), Bool.false_or]; rfl
    clear hn hr h1
    go_enter Try.func7, Try.ntmps7
    go_wp2_with fail
    go_loop [5] (fun i => ∃ k : Nat, k ≤ n ∧ Hid (longL most l = (l.drop k).any fun r => decide (40 < r.lo.length) || decide (40 < r.hi.length)) ∧ i = .int .i64 k) (fun i => n - (intOf i).toNat)
    case atStart => exact ⟨0, by omega, HE, rfl⟩
    case round =>
      obtain ⟨k, hk, HL, rfl⟩ := hrel
      by_cases hlt : k < n
      · obtain ⟨r, hg, hd, -⟩ := get_some (l := l) (k := k) (by have := HN.out; omega)
        obtain ⟨b1, o1, rfl, hb1, hcell1⟩ := rngs_at HR.out (by have := HN.out; omega)
        obtain ⟨a0, a1, a2⟩ := hcell1 k r hg
        have HL2 := Lib.hid (HL.out.trans (by rw [hd, List.any_cons]))
        have hz1 : (str r.lo).size = r.lo.length := str_size _
        have hz2 : (str r.hi).size = r.hi.length := str_size _
        clear hcell1 hg hd HE
        obtain ⟨S, hS⟩ : ∃ S, str r.lo = S := ⟨_, rfl⟩
        obtain ⟨T, hT⟩ : ∃ T, str r.hi = T := ⟨_, rfl⟩
        rw [hS] at a0 hz1
        rw [hT] at a1 hz2
        by_cases g1 : r.lo.length ≤ 40
        · by_cases g2 : r.hi.length ≤ 40
          · have k1 : S.size ≤ 40 := by omega
            have k2 : T.size ≤ 40 := by omega
            have HE := Lib.hid (HL2.out.trans (by rw [decide_eq_false (show ¬ 40 < r.lo.length by omega), decide_eq_false (show ¬ 40 < r.hi.length by omega), Bool.or_self, Bool.false_or]))
            clear hz1 hz2 hS hT g1 g2 HL2
            go_wp2_with fail
            go_round
            case rel => exact ⟨k + 1, by omega, HE, by go_num⟩
            case measure => simp [intOf]; omega
          · have k1 : S.size ≤ 40 := by omega
            have k2 : 40 < T.size := by omega
            have HE := Lib.hid (HL2.out.trans (by rw [decide_eq_true (show 40 < r.hi.length by omega), Bool.or_true, Bool.true_or]))
            clear hz1 hz2 hS hT g1 g2 HL2
            go_wp2_with fail
            go_ret
            exact ⟨ret_bool HE.out.symm, rfl⟩
        · have k1 : 40 < S.size := by omega
          have HE := Lib.hid (HL2.out.trans (by rw [decide_eq_true (show 40 < r.lo.length by omega), Bool.true_or, Bool.true_or]))
          clear hz1 hz2 hS hT g1 HL2
          go_wp2_with fail
          go_ret
          exact ⟨ret_bool HE.out.symm, rfl⟩
      · have HL2 := Lib.hid (HL.out.trans (by rw [List.drop_eq_nil_of_le (by have := HN.out; omega), List.any_nil]))
        clear HE
        go_wp2_with fail
        go_ret
        exact ⟨ret_bool HL2.out.symm, rfl⟩
end Go.Proofs.Ytohdncmlmpnfbaa

/-
  Layer 8 (ranges), the document's words: a text put among rising ones.
-/
namespace Go.Proofs.Ytohdncmlmpnfbaa
open Go.RowKit

theorem str_sizeOf (w : World) : (sizeOf 9).run Try.prog w = .ok 1 w := by kernel_rfl
theorem strs_take (l : List (List UInt8)) (k : Nat) : kStr.row (l.take k) = (kStr.row l).take k := by
  have := kStr.row_take l k
  rwa [show k * kStr.size = k by show k * 1 = k; omega] at this
theorem strs_drop (l : List (List UInt8)) (k : Nat) : kStr.row (l.drop k) = (kStr.row l).drop k := by
  have := kStr.row_drop l k
  rwa [show k * kStr.size = k by show k * 1 = k; omega] at this
theorem strs_len (l : List (List UInt8)) : (kStr.row l).length = l.length := by
  have := kStr.row_len l
  rwa [show l.length * kStr.size = l.length by show l.length * 1 = l.length; omega] at this
theorem le_alloc {n : Nat} {w : World} (h : n ≤ w.heap.size) (o : Obj) : n ≤ (w.alloc o).heap.size := by simp; omega
/-- What put hands back: a row that reads. -/
def RetS (w : World) (l : List (List UInt8)) (e : Ending) (w' : World) : Prop := ∃ A c, e = .returned (.slice A l.length c) ∧ kStr.Rd w' w'.heap.size A c l ∧ Below w.heap.size w w'
end Go.Proofs.Ytohdncmlmpnfbaa

/-
  Layer 8 (ranges), the document's words: all edges of two lists.
-/
namespace Go.Proofs.Ytohdncmlmpnfbaa
open Go.RowKit

theorem EdgesOk.all {E : List (List UInt8)} (h : EdgesOk E) : ∀ x ∈ E, x.length ≤ 17 := fun x hx => by
  obtain ⟨m, rfl, _, h2⟩ := h
  rcases List.mem_cons.1 hx with rfl | hx
  · simp
  · exact h2 x hx
theorem edges_next {l : List Rng} {k : Nat} {r : Rng} (h : l[k]? = some r) : edgesL (l.take (k + 1)) = addE (edgesL (l.take k)) r := by
  rw [List.take_add_one, h]; exact edgesL_snoc _ _
theorem addE_wrong {E : List (List UInt8)} {r : Rng} (h : rightR r = false) : addE E r = E := by unfold addE; rw [h]
theorem addE_open {E : List (List UInt8)} {r : Rng} (h : rightR r = true) (h' : r.op = true) : addE E r = putL E r.lo := by unfold addE; rw [h, h']
theorem addE_shut {E : List (List UInt8)} {r : Rng} (h : rightR r = true) (h' : r.op = false) : addE E r = putL (putL E r.lo) r.hi := by unfold addE; rw [h, h']
end Go.Proofs.Ytohdncmlmpnfbaa

/-
  Layer 8 (ranges), the document's words: the right list of what is meant.
-/
namespace Go.Proofs.Ytohdncmlmpnfbaa
open Go.RowKit

theorem Kind.Rd.call2 {P : Program} {α : Type} {k : Kind P α} {w w1 w2 : World} {A : Option Addr} {c : Nat} {l : List α} (h : k.Rd w w.heap.size A c l) (h1 : Below w.heap.size w w1) (h2 : Below w1.heap.size w1 w2) : k.Rd w2 w2.heap.size A c l := (h.call h1).call h2
/-- The range that has begun. -/
def pendR : Option (List UInt8) → List Rng
  | none => []
  | some lo => [⟨lo, [], true⟩]
/-- What is handed back: a row of ranges that reads. -/
def RetR (w : World) (l : List Rng) (e : Ending) (w' : World) : Prop := ∃ A c, e = .returned (.slice A l.length c) ∧ kRng.Rd w' w'.heap.size A c l ∧ Below w.heap.size w w'
theorem mkR_on {f : List UInt8 → Bool} {x : List UInt8} {es : List (List UInt8)} (h : f x = true) : mkR f (x :: es) none = mkR f es (some x) := by rw [mkR, h]
theorem mkR_stay {f : List UInt8 → Bool} {x lo : List UInt8} {es : List (List UInt8)} (h : f x = true) : mkR f (x :: es) (some lo) = mkR f es (some lo) := by rw [mkR, h]
theorem mkR_out {f : List UInt8 → Bool} {x : List UInt8} {es : List (List UInt8)} (h : f x = false) : mkR f (x :: es) none = mkR f es none := by rw [mkR, h]
theorem mkR_off {f : List UInt8 → Bool} {x lo : List UInt8} {es : List (List UInt8)} (h : f x = false) : mkR f (x :: es) (some lo) = ⟨lo, x, false⟩ :: mkR f es none := by rw [mkR, h]
theorem rng_row (w : World) (r : Rng) (n : Nat) (hn : n = 1) : kRng.Rd (w.alloc (.cells #[.string (str r.lo), .string (str r.hi), .bool r.op] 49)) (w.heap.size + 1) (some ⟨w.heap.size, 0, none⟩) n [r] := Kind.rd_new (by rw [kRng.row_one]; rfl) hn (by simp)
theorem own_end {w : World} {base g n c D : Nat} {dn : List Rng} {lo : List UInt8} (h : kRng.Own w base (.slice (some ⟨g, 0, none⟩) n c) (dn ++ pendR (some lo))) (hn : n = (dn ++ pendR (some lo)).length) (hD : dn.length = D) (x : List UInt8) :
    kRng.Own ((w.setCell ⟨g, D * 3 + 1, none⟩ (.string (str x))).setCell ⟨g, D * 3 + 2, none⟩ (.bool false)) base (.slice (some ⟨g, 0, none⟩) n c) ((dn ++ [⟨lo, x, false⟩]) ++ pendR none) := by
  subst hD
  have g1 : (dn ++ pendR (some lo))[dn.length]? = some ⟨lo, [], true⟩ := by rw [List.getElem?_append_right (Nat.le_refl _), Nat.sub_self]; rfl
  have h1 := h.stored (j := 1) (y := ⟨lo, x, true⟩) (v := .string (str x)) hn g1 (by decide) rfl
  rw [show (dn ++ pendR (some lo)).set dn.length ⟨lo, x, true⟩ = dn ++ [⟨lo, x, true⟩] from by simp [pendR]] at h1
  have g2 : (dn ++ [(⟨lo, x, true⟩ : Rng)])[dn.length]? = some ⟨lo, x, true⟩ := by simp
  have h2 := h1.stored (j := 2) (y := ⟨lo, x, false⟩) (v := .bool false) (by rw [hn]; simp [pendR]) g2 (by decide) rfl
  rw [show (dn ++ [(⟨lo, x, true⟩ : Rng)]).set dn.length ⟨lo, x, false⟩ = (dn ++ [⟨lo, x, false⟩]) ++ pendR none from by simp [pendR]] at h2
  exact h2
theorem set_last {α : Type} (l : List α) (x y : α) : (l ++ [x]).set l.length y = l ++ [y] := by simp
end Go.Proofs.Ytohdncmlmpnfbaa

/-
  Lists of a filter's nodes as values of the program; may a node be (the document's words).
-/
namespace Go.Proofs.Ytohdncmlmpnfbaa
open Go.RowKit

/-- A node's cells. -/
def ndCells (n : Nd) : List Value := [.int .i64 n.op, .int .i64 n.kids, .string (str n.lo), .string (str n.hi)]
noncomputable def kNd : Kind Try.prog Nd where
  ty := 35
  el := 51
  size := 4
  bytes := 48
  zero := .agg #[.int .i64 0, .int .i64 0, .string ⟨#[]⟩, .string ⟨#[]⟩]
  cells := ndCells
  len := fun _ => rfl
  one := fun r u hu => by simp [ndCells] at hu; rcases hu with rfl | rfl | rfl | rfl <;> rfl
  pos := by decide
  under := Try.underlying35
  info := by kernel_rfl
  zsize := rfl
/-- The cells of node k of a list. -/
theorem nds_at {w : World} {B : Nat} {A : Option Addr} {c : Nat} {l : List Nd} (h : kNd.Rd w B A c l) (hp : 0 < l.length) :
    ∃ b o, A = some ⟨b, o, none⟩ ∧ b < B ∧ ∀ k n, l[k]? = some n → w.cell? ⟨b, o + k * 4, none⟩ = some (.int .i64 n.op) ∧ w.cell? ⟨b, o + k * 4 + 1, none⟩ = some (.int .i64 n.kids) ∧ w.cell? ⟨b, o + k * 4 + 2, none⟩ = some (.string (str n.lo)) ∧ w.cell? ⟨b, o + k * 4 + 3, none⟩ = some (.string (str n.hi)) := by
  obtain ⟨b, o, h1, h2, h3⟩ := h.at_ hp
  exact ⟨b, o, h1, h2, fun k n hn => ⟨h3 k n hn 0 _ rfl, h3 k n hn 1 _ rfl, h3 k n hn 2 _ rfl, h3 k n hn 3 _ rfl⟩⟩
theorem nodeV_12 {n : Nd} (h : n.op = 1 ∨ n.op = 2) : nodeV n = ((n.kids == 0) && (n.lo.isEmpty && n.hi.isEmpty)) := by
  unfold nodeV; rw [if_pos h]; congr 1
theorem nodeV_3 {n : Nd} (h : n.op = 3) : nodeV n = ((n.kids == 0) && (decide (n.lo.length ≤ 16) && n.hi.isEmpty)) := by
  unfold nodeV; rw [if_neg (by omega), if_pos h]; congr 1
theorem nodeV_4 {n : Nd} (h : n.op = 4) : nodeV n = ((n.kids == 0) && rightR ⟨n.lo, n.hi, false⟩) := by
  unfold nodeV; rw [if_neg (by omega), if_neg (by omega), if_pos h]; congr 1
theorem nodeV_5 {n : Nd} (h : n.op = 5) : nodeV n = ((n.kids == 0) && (decide (n.lo.length ≤ 17) && n.hi.isEmpty)) := by
  unfold nodeV; rw [if_neg (by omega), if_neg (by omega), if_neg (by omega), if_pos h]; congr 1
theorem nodeV_6 {n : Nd} (h : n.op = 6) : nodeV n = (n.lo.isEmpty && (n.hi.isEmpty && (n.kids == 1))) := by
  unfold nodeV
  rw [if_neg (by omega), if_neg (by omega), if_neg (by omega), if_neg (by omega), Bool.and_assoc]
  congr 2
  rw [decide_eq_false (p := (n.op = 7 ∨ n.op = 8) ∧ 1 ≤ n.kids ∧ n.kids ≤ 32) (by omega), Bool.or_false]
  by_cases hk : n.kids = 1
  · rw [decide_eq_true ⟨h, hk⟩, hk]; rfl
  · rw [decide_eq_false (fun e => hk e.2)]; exact (beq_eq_false_iff_ne.2 hk).symm
theorem nodeV_78 {n : Nd} (h : n.op = 7 ∨ n.op = 8) : nodeV n = (n.lo.isEmpty && (n.hi.isEmpty && (decide (1 ≤ n.kids) && decide (n.kids ≤ 32)))) := by
  unfold nodeV
  rw [if_neg (by omega), if_neg (by omega), if_neg (by omega), if_neg (by omega), Bool.and_assoc]
  congr 2
  rw [decide_eq_false (p := n.op = 6 ∧ n.kids = 1) (by omega), Bool.false_or]
  by_cases h1 : 1 ≤ n.kids <;> by_cases h2 : n.kids ≤ 32 <;> simp [h, h1, h2]
theorem nodeV_no {n : Nd} (h : n.op < 1 ∨ 8 < n.op) : nodeV n = false := by
  unfold nodeV
  rw [if_neg (by omega), if_neg (by omega), if_neg (by omega), if_neg (by omega), decide_eq_false (p := n.op = 6 ∧ n.kids = 1) (by omega), decide_eq_false (p := (n.op = 7 ∨ n.op = 8) ∧ 1 ≤ n.kids ∧ n.kids ≤ 32) (by omega)]
  simp
set_option maxHeartbeats 4000000 in
theorem ref_node (n : Nd) (O K : Int) (S T : ByteArray) (hO : n.op = O) (hK : n.kids = K) (hS : str n.lo = S) (hT : str n.hi = T) (v : Bool) (hv : nodeV n = v) (w : World) :
    Calls Try.prog 48 #[.agg #[.int .i64 O, .int .i64 K, .string S, .string T]] w fun e w' => e = .returned (.bool v) ∧ Below w.heap.size w w' := by
  have HB := Lib.hid ((Below.refl w.heap.size w).alloc (Nat.le_refl _) (.cells #[.int .i64 O, .int .i64 K, .string S, .string T] 51))
  have eS := txt_empty hS
  have eT := txt_empty hT
  have zS : S.size = n.lo.length := by subst hS; exact str_size _
  obtain ⟨vl, hl⟩ : ∃ vl, n.lo.isEmpty = vl := ⟨_, rfl⟩
  obtain ⟨vh, hh⟩ : ∃ vh, n.hi.isEmpty = vh := ⟨_, rfl⟩
  rw [hl] at eS
  rw [hh] at eT
  obtain ⟨k0, hk0⟩ : ∃ k0, (K == 0) = k0 := ⟨_, rfl⟩
  by_cases h1 : O = 1 ∨ O = 2
  · have e := nodeV_12 (n := n) (by rw [hO]; exact h1)
    rw [hv, hl, hh, hK, hk0] at e
    subst e
    clear hv hS hT zS hl hh hK hO
    rcases h1 with rfl | rfl
    all_goals
      cases k0
      case' true =>
        cases vl
        case' true =>
          cases vh
    all_goals
      go_enter Try.func48, Try.ntmps48
      go_wp2_with fail
      go_ret
      exact ⟨rfl, HB.out⟩
  · have n1 : (O == 1) = false := beq_eq_false_iff_ne.2 fun e => h1 (.inl e)
    have n2 : (O == 2) = false := beq_eq_false_iff_ne.2 fun e => h1 (.inr e)
    by_cases h3 : O = 3
    · have e := nodeV_3 (n := n) (by rw [hO]; exact h3)
      rw [hv, hh, hK, hk0, ← zS] at e
      obtain ⟨z, hz⟩ : ∃ z, decide (S.size ≤ 16) = z := ⟨_, rfl⟩
      have hz' : decide ((S.size : Int) ≤ 16) = z := by rw [← hz]; exact decide_eq_decide.2 (by omega)
      rw [hz] at e
      subst e
      clear hv hS hT zS hl hh hK hO eS h1
      subst h3
      cases k0
      case' true =>
        cases z
        case' true =>
          cases vh
      all_goals
        go_enter Try.func48, Try.ntmps48
        go_wp2_with fail
        go_ret
        exact ⟨rfl, HB.out⟩
    · have n3 : (O == 3) = false := beq_eq_false_iff_ne.2 h3
      by_cases h4 : O = 4
      · have e := nodeV_4 (n := n) (by rw [hO]; exact h4)
        obtain ⟨z, hz⟩ : ∃ z, rightR ⟨n.lo, n.hi, false⟩ = z := ⟨_, rfl⟩
        have C := fun w => Lib.hid (ref_rright ⟨n.lo, n.hi, false⟩ S T false z ⟨hS, hT, rfl⟩ hz w)
        rw [hv, hK, hk0, hz] at e
        subst e
        clear hv hS hT zS hl hh hK hO eS eT h1 hz h3
        subst h4
        cases k0
        case' true =>
          cases z
        all_goals
          go_enter Try.func48, Try.ntmps48
          go_wp2_with ((with_reducible refine (C _).out.mono ?_); rintro e w1 ⟨rfl, hq⟩; replace HB := Lib.hid (HB.out.trans (hq.mono (by simp))); clear hq)
          go_ret
          exact ⟨rfl, HB.out⟩
      · have n4 : (O == 4) = false := beq_eq_false_iff_ne.2 h4
        by_cases h5 : O = 5
        · have e := nodeV_5 (n := n) (by rw [hO]; exact h5)
          rw [hv, hh, hK, hk0, ← zS] at e
          obtain ⟨z, hz⟩ : ∃ z, decide (S.size ≤ 17) = z := ⟨_, rfl⟩
          have hz' : decide ((S.size : Int) ≤ 17) = z := by rw [← hz]; exact decide_eq_decide.2 (by omega)
          rw [hz] at e
          subst e
          clear hv hS hT zS hl hh hK hO eS h1 h3 h4
          subst h5
          cases k0
          case' true =>
            cases z
            case' true =>
              cases vh
          all_goals
            go_enter Try.func48, Try.ntmps48
            go_wp2_with fail
            go_ret
            exact ⟨rfl, HB.out⟩
        · have n5 : (O == 5) = false := beq_eq_false_iff_ne.2 h5
          by_cases h6 : O = 6
          · have e := nodeV_6 (n := n) (by rw [hO]; exact h6)
            obtain ⟨k1, hk1⟩ : ∃ k1, (K == 1) = k1 := ⟨_, rfl⟩
            rw [hv, hl, hh, hK, hk1] at e
            subst e
            clear hv hS hT zS hl hh hK hO h1 h3 h4 h5 hk0
            subst h6
            cases vl
            case' true =>
              cases vh
              case' true =>
                cases k1
            all_goals
              go_enter Try.func48, Try.ntmps48
              go_wp2_with fail
              go_ret
              exact ⟨rfl, HB.out⟩
          · have n6 : (O == 6) = false := beq_eq_false_iff_ne.2 h6
            by_cases h7 : O = 7 ∨ O = 8
            · have e := nodeV_78 (n := n) (by rw [hO]; exact h7)
              obtain ⟨ka, hka⟩ : ∃ ka, decide (1 ≤ K) = ka := ⟨_, rfl⟩
              obtain ⟨kb, hkb⟩ : ∃ kb, decide (K ≤ 32) = kb := ⟨_, rfl⟩
              rw [hv, hl, hh, hK, hka, hkb] at e
              subst e
              clear hv hS hT zS hl hh hK hO h1 h3 h4 h5 h6 hk0
              rcases h7 with rfl | rfl
              all_goals
                cases vl
                case' true =>
                  cases vh
                  case' true =>
                    cases ka
                    case' true =>
                      cases kb
              all_goals
                go_enter Try.func48, Try.ntmps48
                go_wp2_with fail
                go_ret
                exact ⟨rfl, HB.out⟩
            · have n7 : (O == 7) = false := beq_eq_false_iff_ne.2 fun e => h7 (.inl e)
              have n8 : (O == 8) = false := beq_eq_false_iff_ne.2 fun e => h7 (.inr e)
              have e := nodeV_no (n := n) (by rw [hO]; omega)
              rw [hv] at e
              subst e
              clear hv hS hT zS hl hh hK hO h1 h3 h4 h5 h6 h7 hk0
              cases vl
              case' true =>
                cases vh
              all_goals
                go_enter Try.func48, Try.ntmps48
                go_wp2_with fail
                go_ret
                exact ⟨rfl, HB.out⟩
end Go.Proofs.Ytohdncmlmpnfbaa

/-
  A walk through a statement that draws its order, once, in the text's order, where all its operations keep a condition on the world: reads, and calls that make memory of their own.
-/
namespace Go.Proofs.Ytohdncmlmpnfbaa
open Go.RowKit

section
variable {P : Program} {C : World → Prop} {a : Act} {o : Oper}
theorem q_region {id : Nat} {Q : Exit → Act → World → Prop} {a : Act} {w : World} {l : List Oper} (C : World → Prop) (hm : P.follows .mixedOrders = true) (hB : Region.lexB .any l.toArray = true) (hC : C w.drew)
    (h : wpQuiet P l.toArray C (fun a' => ∀ w', C w' → Q .normal a' w') l a) : (Code.region id l.toArray true).wp P Q a w :=
  wp_region_quiet (C := C) hm hB hC (by simpa using h)
theorem q_take {v : Value} {K : Act → Prop} (hy : ∀ w, C w → (execOp a.eval o).run P w = .ok (.value v) w) (hk : K (a.put o.dst v)) : o.quiet P a C K :=
  ⟨v, fun w hC => by unfold Oper.quietAt; rw [hy w hC]; exact ⟨rfl, rfl⟩, hk⟩
theorem q_call {v : Value} {K : Act → Prop} {f : FuncId} {args : Array Value} (hc : ∀ w, C w → Calls P f args w fun e w' => e = .returned v ∧ C w') (he : ∀ w, C w → (execOp a.eval o).run P w = .ok (.enter f args) w) (hk : K (a.put o.dst v)) : o.quiet P a C K :=
  ⟨v, fun w hC => by unfold Oper.quietAt; rw [he w hC]; exact ⟨rfl, hc w hC⟩, hk⟩
end

/-- Some cells hold these values, and below the first block of a call all is as it was: what stays so through a drawn statement. -/
def CellL (a : World) : List (Addr × Value) → World → Prop
  | [], w => Below a.heap.size a w
  | (p, v) :: l, w => w.cell? p = some v ∧ CellL a l w
theorem cellL_size {a w : World} : ∀ {l : List (Addr × Value)}, CellL a l w → Below a.heap.size a w
  | [], h => h
  | _ :: _, h => cellL_size h.2
theorem cellL_call {a w w' : World} (hb : Below w.heap.size w w') : ∀ {l : List (Addr × Value)}, CellL a l w → CellL a l w'
  | [], h => Below.trans h (hb.mono (Below.size h))
  | (p, _) :: _, h => ⟨(hb.cell (p := p) (World.block_lt_of_cell? w p h.1)).trans h.1, cellL_call hb h.2⟩
theorem cellL_drew {a w : World} : ∀ {l : List (Addr × Value)}, CellL a l w → CellL a l w.drew
  | [], h => Below.drew h
  | _ :: _, h => ⟨h.1, cellL_drew h.2⟩
theorem cellL_of {P : Program} {f : FuncId} {args : Array Value} {v : Value} {a : World} {l : List (Addr × Value)} (h : ∀ w, Calls P f args w fun e w' => e = .returned v ∧ Below w.heap.size w w') :
    ∀ w, CellL a l w → Calls P f args w fun e w' => e = .returned v ∧ CellL a l w' := fun w hC => (h w).mono fun _ _ ⟨h1, h2⟩ => ⟨h1, cellL_call h2 hC⟩
theorem cellL_of_same {P : Program} {f : FuncId} {args : Array Value} {v : Value} {a : World} {l : List (Addr × Value)} (h : ∀ w, Calls P f args w fun e w' => e = .returned v ∧ w = w') :
    ∀ w, CellL a l w → Calls P f args w fun e w' => e = .returned v ∧ CellL a l w' := fun w hC => (h w).mono fun _ _ ⟨h1, h2⟩ => ⟨h1, h2 ▸ hC⟩
theorem alloc_keeps (w : World) (x : Obj) : ∀ b o, b < w.heap.size → (w.alloc x).cell? ⟨b, o, none⟩ = w.cell? ⟨b, o, none⟩ := (bcell ((Below.refl w.heap.size w).alloc (Nat.le_refl _) x)).1
end Go.Proofs.Ytohdncmlmpnfbaa
