/-
  Several texts in one: Law06B, SpanA, SpanB, RgsA, RgsB, RgsC, RgsD, RgsE, RgsF, Law08A, FltPure, Flt.
-/
import Derived.Deep.RegionHeld3
import Derived.BigRegion
import Derived.Deep.QuietTactic
import Derived.BigQuiet
import Derived.IntWalk
import Derived.Test.YthgcbomidamcfaaDoorMg2
/-
  The laws of layer 6: KeyNext.
-/
namespace Go.Proofs.YthgcbomidamcfaaDoor
open Go.RowKit

/-- What an end's two results are. -/
theorem endO (a : List UInt8) : ∃ (x : List UInt8) (v : Bool), (endV a = some x ∧ v = true) ∨ (endV a = none ∧ x = [] ∧ v = false) := by
  cases h : endV a with
  | some x => exact ⟨x, true, .inl ⟨rfl, rfl⟩⟩
  | none => exact ⟨[], false, .inr ⟨rfl, rfl, rfl⟩⟩
theorem endO_len {a x : List UInt8} {v : Bool} (h : (endV a = some x ∧ v = true) ∨ (endV a = none ∧ x = [] ∧ v = false)) : x.length ≤ a.length := by
  rcases h with ⟨h, _⟩ | ⟨_, rfl, _⟩
  · exact (endV_len h).2
  · simp
theorem endO_is (a x : List UInt8) (v : Bool) (S X : ByteArray) (hS : str a = S) (hX : str x = X) (ha : a.length ≤ 1000000) (h : (endV a = some x ∧ v = true) ∨ (endV a = none ∧ x = [] ∧ v = false)) (w : World) :
    Calls Tryd.prog 56 #[.string S] w fun e w' => e = .returned (.tuple #[.string X, .bool v]) ∧ Below w.heap.size w w' := by
  subst hS hX
  refine (key_end a ha w).mono ?_
  rintro e w' ⟨h', hb⟩
  rcases h with ⟨h, rfl⟩ | ⟨h, rfl, rfl⟩ <;> rcases h' with ⟨y, hy, rfl⟩ | ⟨hy, rfl⟩ <;> rw [h] at hy
  · injection hy with hy; subst hy; exact ⟨rfl, hb⟩
  · cases hy
  · cases hy
  · exact ⟨rfl, hb⟩
theorem end_betweenO {a x : List UInt8} {v : Bool} (h : (endV a = some x ∧ v = true) ∨ (endV a = none ∧ x = [] ∧ v = false)) (t : List UInt8) : a.isPrefixOf t = (!ltB t a && (!v || ltB t x)) := by
  rw [← end_between a t]
  rcases h with ⟨h, rfl⟩ | ⟨h, rfl, rfl⟩ <;> rw [h] <;> simp [aheadO]
theorem next_noneB {s t : List UInt8} {v : Bool} (h : ltB s t = v) : v = true → ltB t (s ++ [0]) = false := fun e => next_none (h.trans e)

end Go.Proofs.YthgcbomidamcfaaDoor

/-
  Layer 7 (span): which ranges are right, in the program's words and in the document's.
-/
namespace Go.Proofs.YthgcbomidamcfaaDoor
open Go.RowKit

theorem edgeB_le {l : List UInt8} : edgeB l = decide (l.length ≤ 17) := rfl
theorem txt_empty {l : List UInt8} {S : ByteArray} (h : str l = S) : (S.toList == []) = l.isEmpty := by
  subst h; rw [str_toList]; cases l <;> rfl
/-- Of two texts which stands ahead, as a number and as a test. -/
theorem cmp_test (a b : List UInt8) : ∃ x : Int, Lib.compareBytes a b = x ∧ decide (x < 0) = ltB a b ∧ decide (0 ≤ x) = !ltB a b := by
  refine ⟨_, rfl, ?_, ?_⟩
  · rw [cmp_ltB]; cases ltB a b with
    | true => rfl
    | false => cases ltB b a <;> rfl
  · rw [cmp_ltB]; cases ltB a b with
    | true => rfl
    | false => cases ltB b a <;> rfl

theorem span_right (r : Rng) (S T : ByteArray) (o v : Bool) (h : IsR r S T o) (hv : rightR r = v) (w : World) :
    Calls Tryd.prog 29 #[.agg #[.string S, .string T, .bool o]] w fun e w' => e = .returned (.bool v) ∧ Below w.heap.size w w' := by
  obtain ⟨h1, h2, h3⟩ := h
  cases ho : o with
  | true =>
    subst ho
    rw [rightR_open h3] at hv
    obtain ⟨v1, e1⟩ : ∃ v1, edgeB r.lo = v1 := ⟨_, rfl⟩
    obtain ⟨v2, e2⟩ : ∃ v2, r.hi.isEmpty = v2 := ⟨_, rfl⟩
    have hT := (txt_empty h2).trans e2
    have E1 := fun w => Lib.hid (edge_is r.lo S h1 v1 e1 w)
    rw [← edgeB_le, e1, e2] at hv
    clear e1 e2 h1 h2 h3
    subst hv
    cases v1 <;> cases v2
    all_goals
      go_enter Tryd.func29, Tryd.ntmps29
      go_wp2_with ((with_reducible refine (E1 _).out.mono ?_); rintro e w' ⟨rfl, rfl⟩)
      go_ret
      exact ⟨rfl, (Below.refl _ _).alloc (Nat.le_refl _) _⟩
  | false =>
    subst ho
    rw [rightR_shut h3] at hv
    obtain ⟨v1, e1⟩ : ∃ v1, edgeB r.lo = v1 := ⟨_, rfl⟩
    obtain ⟨v2, e2⟩ : ∃ v2, edgeB r.hi = v2 := ⟨_, rfl⟩
    have E1 := fun w => Lib.hid (edge_is r.lo S h1 v1 e1 w)
    have E2 := fun w => Lib.hid (edge_is r.hi T h2 v2 e2 w)
    rw [← edgeB_le, ← edgeB_le, e1, e2] at hv
    clear e1 e2
    obtain ⟨x, hx, hx1, -⟩ := cmp_test r.lo r.hi
    have C := fun w => Lib.hid (cmp_is r.lo r.hi S T h1 h2 x hx w)
    rw [← hx1] at hv
    clear hx1 hx h1 h2 h3
    subst hv
    cases v1 <;> cases v2
    all_goals
      go_enter Tryd.func29, Tryd.ntmps29
      go_wp2_with (first | ((with_reducible refine (E1 _).out.mono ?_); rintro e w' ⟨rfl, rfl⟩) | ((with_reducible refine (E2 _).out.mono ?_); rintro e w' ⟨rfl, rfl⟩) | ((with_reducible refine (C _).out.mono ?_); rintro e w' ⟨rfl, rfl⟩))
      go_ret
      exact ⟨rfl, (Below.refl _ _).alloc (Nat.le_refl _) _⟩
theorem refR_open {r : Rng} (h : r.op = true) : rightR r = (decide (r.lo.length ≤ 17) && (decide (r.hi.length ≤ 17) && r.hi.isEmpty)) := by
  rw [rightR_open h]
  cases hh : r.hi with
  | nil => rfl
  | cons x l => simp
theorem size_le17 {l : List UInt8} {S : ByteArray} (h : str l = S) : decide (17 < S.size) = !decide (l.length ≤ 17) := by
  subst h; rw [str_size]; by_cases h : l.length ≤ 17 <;> simp [h] <;> omega
theorem ref_rright (r : Rng) (S T : ByteArray) (o v : Bool) (h : IsR r S T o) (hv : rightR r = v) (w : World) :
    Calls Tryd.prog 36 #[.agg #[.string S, .string T, .bool o]] w fun e w' => e = .returned (.bool v) ∧ Below w.heap.size w w' := by
  obtain ⟨h1, h2, h3⟩ := h
  have hz1 : S.size = r.lo.length := by subst h1; exact str_size _
  have hz2 : T.size = r.hi.length := by subst h2; exact str_size _
  by_cases g1 : r.lo.length ≤ 17
  · by_cases g2 : r.hi.length ≤ 17
    · have k1 : S.size ≤ 17 := by omega
      have k2 : T.size ≤ 17 := by omega
      cases ho : o with
      | true =>
        subst ho
        obtain ⟨v2, e2⟩ : ∃ v2, r.hi.isEmpty = v2 := ⟨_, rfl⟩
        have hT := (txt_empty h2).trans e2
        rw [rightR_open h3, decide_eq_true g1, e2, Bool.true_and] at hv
        clear e2 h1 h2 h3 hz1 hz2
        subst hv
        go_enter Tryd.func36, Tryd.ntmps36
        go_wp2_with fail
        go_ret
        exact ⟨rfl, (Below.refl _ _).alloc (Nat.le_refl _) _⟩
      | false =>
        subst ho
        rw [rightR_shut h3, decide_eq_true g1, decide_eq_true g2, Bool.true_and, Bool.true_and] at hv
        have L := fun w => Lib.hid (less_is r.lo r.hi S T h1 h2 (by omega) v hv w)
        clear h1 h2 h3 hz1 hz2 hv
        go_enter Tryd.func36, Tryd.ntmps36
        go_wp2_with ((with_reducible refine (L _).out.mono ?_); rintro e w' ⟨rfl, hb⟩)
        go_ret
        exact ⟨rfl, ((Below.refl _ _).alloc (Nat.le_refl _) _).trans (hb.mono (by simp))⟩
    · have k1 : S.size ≤ 17 := by omega
      have k2 : 17 < T.size := by omega
      have hv' : v = false := by
        rw [← hv, Bool.eq_false_iff]; intro e; exact g2 (rightR_hi e)
      subst hv'
      clear h1 h2 h3 hz1 hz2 hv
      go_enter Tryd.func36, Tryd.ntmps36
      go_wp2_with fail
      go_ret
      exact ⟨rfl, (Below.refl _ _).alloc (Nat.le_refl _) _⟩
  · have k1 : 17 < S.size := by omega
    have hv' : v = false := by
      rw [← hv, Bool.eq_false_iff]; intro e; exact g1 (rightR_lo e)
    subst hv'
    clear h1 h2 h3 hz1 hz2 hv
    go_enter Tryd.func36, Tryd.ntmps36
    go_wp2_with fail
    go_ret
    exact ⟨rfl, (Below.refl _ _).alloc (Nat.le_refl _) _⟩
end Go.Proofs.YthgcbomidamcfaaDoor

/-
  Layer 7 (span): which texts a range has; the ranges of all texts, of one, of those that begin with one.
-/
namespace Go.Proofs.YthgcbomidamcfaaDoor
open Go.RowKit

/-! Ranges that are handed back. -/
theorem span_all (w : World) : Calls Tryd.prog 44 #[] w fun e w' => e = .returned (.agg #[.string (str []), .string (str []), .bool true]) ∧ Below w.heap.size w w' := by
  go_enter Tryd.func44, Tryd.ntmps44
  go_wp2_with fail
  exact bodyPost_ret (v := .agg #[.string ⟨#[]⟩, .string ⟨#[]⟩, .bool true]) (by simp [results, Tryd.results44, go_sem]) rfl ⟨rfl, (Below.refl _ _).alloc (Nat.le_refl _) _⟩
end Go.Proofs.YthgcbomidamcfaaDoor

/-
  Layer 8 (ranges), the document's words: which texts a list has; is it right; is a text of what is meant.
-/
namespace Go.Proofs.YthgcbomidamcfaaDoor
open Go.RowKit

theorem rd_max {P : Program} {α : Type} {k : Kind P α} {w : World} {B : Nat} {A : Option Addr} {c n : Nat} {l : List α} (h : k.Rd w B A c l) (hn : n = l.length) : n ≤ 9223372036854775807 := by
  have h1 := h.room
  have h2 := h.cap
  unfold maxLen at h2
  omega
end Go.Proofs.YthgcbomidamcfaaDoor

/-
  Layer 8 (ranges), the document's words: is a list right; is it too long; are two the same.
-/
namespace Go.Proofs.YthgcbomidamcfaaDoor
open Go.RowKit

/-- Is what comes behind a range right? -/
def rightF : Option Rng → List Rng → Bool
  | _, [] => true
  | none, r :: l => rightR r && rightF (some r) l
  | some p, r :: l => rightR r && (gapR p r && rightF (some r) l)
theorem rightF_some : ∀ (r : Rng) (l : List Rng), (rightR r && rightF (some r) l) = rightL (r :: l)
  | r, [] => by simp [rightF, rightL]
  | r, t :: l => by
    have := rightF_some t l
    unfold rightF rightL
    rw [← this]
    cases rightR r <;> cases gapR r t <;> cases rightR t <;> simp
theorem rightF_none (l : List Rng) : rightF none l = rightL l := by
  cases l with
  | nil => rfl
  | cons r l => rw [← rightF_some]; rfl
/-- The range ahead of place k. -/
def prevR (l : List Rng) : Nat → Option Rng
  | 0 => none
  | k + 1 => l[k]?
theorem less_q (a b : List UInt8) (S T : ByteArray) (hS : str a = S) (hT : str b = T) (ha : a.length ≤ 9223372036854775807) (v : Bool) (hv : ltB a b = v) (w : World) : Calls Tryd.prog 48 #[.string S, .string T] w fun e w' => e = .returned (.bool v) ∧ ∃ n, w' = w.drewN n := by
  subst hS hT hv
  exact ref_less a b ha w
end Go.Proofs.YthgcbomidamcfaaDoor

/-
  Layer 8 (ranges), the document's words: are two lists the same; is one too long to be looked at.
-/
namespace Go.Proofs.YthgcbomidamcfaaDoor
open Go.RowKit

def eqR (r t : Rng) : Bool := decide (r.lo = t.lo) && decide (r.hi = t.hi) && decide (r.op = t.op)
theorem eqR_iff {r t : Rng} : eqR r t = true ↔ r = t := by
  unfold eqR
  simp only [Bool.and_eq_true, decide_eq_true_eq]
  exact ⟨fun ⟨⟨h1, h2⟩, h3⟩ => rng_ext h1 h2 h3, fun h => by subst h; exact ⟨⟨rfl, rfl⟩, rfl⟩⟩
def sameL : List Rng → List Rng → Bool
  | [], [] => true
  | r :: a, t :: b => eqR r t && sameL a b
  | _, _ => false
theorem sameL_cons (r t : Rng) (a b : List Rng) : sameL (r :: a) (t :: b) = (eqR r t && sameL a b) := rfl
theorem sameL_iff : ∀ {a b : List Rng}, sameL a b = true ↔ a = b
  | [], [] => by simp [sameL]
  | [], t :: b => by simp [sameL]
  | r :: a, [] => by simp [sameL]
  | r :: a, t :: b => by
    unfold sameL
    rw [Bool.and_eq_true, eqR_iff, sameL_iff, List.cons.injEq]
theorem sameL_len {a b : List Rng} (h : a.length ≠ b.length) : sameL a b = false := by
  cases hs : sameL a b with
  | false => rfl
  | true => rw [sameL_iff.1 hs] at h; exact absurd rfl h
theorem eq_rngs (r t : Rng) (d : Bool) (hd : eqR r t = d) (w : World) : (Op.equalIn 10000 56 (.agg #[.string (str r.lo), .string (str r.hi), .bool r.op]) (.agg #[.string (str t.lo), .string (str t.hi), .bool t.op])).run Tryd.prog w = .ok d w := by
  refine eq_rng_is _ _ _ _ _ _ d ?_ w
  rw [← hd, str_toList, str_toList, str_toList, str_toList]
  have e : ∀ a b : List UInt8, (a == b) = decide (a = b) := fun a b => by by_cases h : a = b <;> simp [h]
  unfold eqR
  rw [e, e]
  cases r.op <;> cases t.op <;> rfl
/-- Has a list too many ranges, or one of them too long an edge? -/
def longL (most : Nat) (l : List Rng) : Bool := decide (most < l.length) || l.any fun r => decide (40 < r.lo.length) || decide (40 < r.hi.length)
end Go.Proofs.YthgcbomidamcfaaDoor

/-
  Layer 8 (ranges), the document's words: a text put among rising ones.
-/
namespace Go.Proofs.YthgcbomidamcfaaDoor
open Go.RowKit

theorem str_sizeOf (w : World) : (sizeOf 9).run Tryd.prog w = .ok 1 w := by kernel_rfl
theorem strs_take (l : List (List UInt8)) (k : Nat) : kStr.row (l.take k) = (kStr.row l).take k := by
  have := kStr.row_take l k
  rwa [show k * kStr.size = k by show k * 1 = k; omega] at this
theorem strs_drop (l : List (List UInt8)) (k : Nat) : kStr.row (l.drop k) = (kStr.row l).drop k := by
  have := kStr.row_drop l k
  rwa [show k * kStr.size = k by show k * 1 = k; omega] at this
theorem strs_len (l : List (List UInt8)) : (kStr.row l).length = l.length := by
  have := kStr.row_len l
  rwa [show l.length * kStr.size = l.length by show l.length * 1 = l.length; omega] at this
theorem le_alloc {n : Nat} {w : World} (h : n ≤ w.heap.size) (o : Obj) : n ≤ (w.alloc o).heap.size := by simp; omega
/-- What put hands back: a row that reads. -/
def RetS (w : World) (l : List (List UInt8)) (e : Ending) (w' : World) : Prop := ∃ A c, e = .returned (.slice A l.length c) ∧ kStr.Rd w' w'.heap.size A c l ∧ Below w.heap.size w w'
end Go.Proofs.YthgcbomidamcfaaDoor

/-
  Layer 8 (ranges), the document's words: all edges of two lists.
-/
namespace Go.Proofs.YthgcbomidamcfaaDoor
open Go.RowKit

theorem EdgesOk.all {E : List (List UInt8)} (h : EdgesOk E) : ∀ x ∈ E, x.length ≤ 17 := fun x hx => by
  obtain ⟨m, rfl, _, h2⟩ := h
  rcases List.mem_cons.1 hx with rfl | hx
  · simp
  · exact h2 x hx
theorem edges_next {l : List Rng} {k : Nat} {r : Rng} (h : l[k]? = some r) : edgesL (l.take (k + 1)) = addE (edgesL (l.take k)) r := by
  rw [List.take_add_one, h]; exact edgesL_snoc _ _
theorem addE_wrong {E : List (List UInt8)} {r : Rng} (h : rightR r = false) : addE E r = E := by unfold addE; rw [h]
theorem addE_open {E : List (List UInt8)} {r : Rng} (h : rightR r = true) (h' : r.op = true) : addE E r = putL E r.lo := by unfold addE; rw [h, h']
theorem addE_shut {E : List (List UInt8)} {r : Rng} (h : rightR r = true) (h' : r.op = false) : addE E r = putL (putL E r.lo) r.hi := by unfold addE; rw [h, h']
end Go.Proofs.YthgcbomidamcfaaDoor

/-
  Layer 8 (ranges), the document's words: the right list of what is meant.
-/
namespace Go.Proofs.YthgcbomidamcfaaDoor
open Go.RowKit

theorem Kind.Rd.call2 {P : Program} {α : Type} {k : Kind P α} {w w1 w2 : World} {A : Option Addr} {c : Nat} {l : List α} (h : k.Rd w w.heap.size A c l) (h1 : Below w.heap.size w w1) (h2 : Below w1.heap.size w1 w2) : k.Rd w2 w2.heap.size A c l := (h.call h1).call h2
/-- The range that has begun. -/
def pendR : Option (List UInt8) → List Rng
  | none => []
  | some lo => [⟨lo, [], true⟩]
theorem mkR_on {f : List UInt8 → Bool} {x : List UInt8} {es : List (List UInt8)} (h : f x = true) : mkR f (x :: es) none = mkR f es (some x) := by rw [mkR, h]
theorem mkR_stay {f : List UInt8 → Bool} {x lo : List UInt8} {es : List (List UInt8)} (h : f x = true) : mkR f (x :: es) (some lo) = mkR f es (some lo) := by rw [mkR, h]
theorem mkR_out {f : List UInt8 → Bool} {x : List UInt8} {es : List (List UInt8)} (h : f x = false) : mkR f (x :: es) none = mkR f es none := by rw [mkR, h]
theorem mkR_off {f : List UInt8 → Bool} {x lo : List UInt8} {es : List (List UInt8)} (h : f x = false) : mkR f (x :: es) (some lo) = ⟨lo, x, false⟩ :: mkR f es none := by rw [mkR, h]
theorem set_last {α : Type} (l : List α) (x y : α) : (l ++ [x]).set l.length y = l ++ [y] := by simp
end Go.Proofs.YthgcbomidamcfaaDoor

/-
  The laws of layer 8: what they ask of the program's functions; the chapter's examples.
-/
namespace Go.Proofs.YthgcbomidamcfaaDoor
open Go.RowKit

theorem longL_small {most : Nat} {l : List Rng} (h : longL most l = false) : SmallL most l := by
  unfold longL at h
  simp only [Bool.or_eq_false_iff, decide_eq_false_iff_not, List.any_eq_false, Bool.or_eq_true, decide_eq_true_eq, not_or] at h
  exact ⟨by omega, fun r hr => by have := h.2 r hr; omega⟩
end Go.Proofs.YthgcbomidamcfaaDoor

/-
  Plain facts on filters (layer 9): which are right, which texts they have, which list of ranges. No program in this text.
-/
namespace Go.Proofs.YthgcbomidamcfaaDoor

/-- A node of a filter. -/
structure Nd where
  op : Int
  kids : Int
  lo : List UInt8
  hi : List UInt8
/-- May a node be, but for what it finds? -/
def nodeV (n : Nd) : Bool :=
  if n.op = 1 ∨ n.op = 2 then decide (n.kids = 0) && (n.lo.isEmpty && n.hi.isEmpty)
  else if n.op = 3 then decide (n.kids = 0) && (decide (n.lo.length ≤ 16) && n.hi.isEmpty)
  else if n.op = 4 then decide (n.kids = 0) && rightR ⟨n.lo, n.hi, false⟩
  else if n.op = 5 then decide (n.kids = 0) && (decide (n.lo.length ≤ 17) && n.hi.isEmpty)
  else n.lo.isEmpty && n.hi.isEmpty && (decide (n.op = 6 ∧ n.kids = 1) || decide ((n.op = 7 ∨ n.op = 8) ∧ 1 ≤ n.kids ∧ n.kids ≤ 32))
def kidsN (n : Nd) : Nat := n.kids.toNat
theorem nodeV_kids {n : Nd} (h : nodeV n = true) : 0 ≤ n.kids ∧ n.kids ≤ 32 := by
  unfold nodeV at h
  split at h
  · simp only [Bool.and_eq_true, decide_eq_true_eq] at h; omega
  · split at h
    · simp only [Bool.and_eq_true, decide_eq_true_eq] at h; omega
    · split at h
      · simp only [Bool.and_eq_true, decide_eq_true_eq] at h; omega
      · split at h
        · simp only [Bool.and_eq_true, decide_eq_true_eq] at h; omega
        · simp only [Bool.and_eq_true, Bool.or_eq_true, decide_eq_true_eq] at h
          rcases h.2 with h | h <;> omega
theorem nodeV_op {n : Nd} (h : nodeV n = true) : 1 ≤ n.op ∧ n.op ≤ 8 := by
  unfold nodeV at h
  split at h
  · omega
  · split at h
    · omega
    · split at h
      · omega
      · split at h
        · omega
        · simp only [Bool.and_eq_true, Bool.or_eq_true, decide_eq_true_eq] at h
          rcases h.2 with h | h <;> omega
/-- From the last node down: so many filters taken off. -/
def cntV : Nat → List Nd → Option (List Nd)
  | 0, R => some R
  | _ + 1, [] => none
  | k + 1, n :: R => match nodeV n with
    | true => cntV (k + kidsN n) R
    | false => none
/-- From the first node on: how many filters stand open. -/
def depV : List Nd → Nat → Option Nat
  | [], d => some d
  | n :: l, d => match nodeV n && decide (kidsN n ≤ d) with
    | true => depV l (d - kidsN n + 1)
    | false => none
theorem cntV_zero (R : List Nd) : cntV 0 R = some R := by cases R <;> rfl
theorem cntV_node {k : Nat} {n : Nd} {R : List Nd} (h : nodeV n = true) : cntV (k + 1) (n :: R) = cntV (k + kidsN n) R := by rw [cntV, h]
theorem cntV_wrong {k : Nat} {n : Nd} {R : List Nd} (h : nodeV n = false) : cntV (k + 1) (n :: R) = none := by rw [cntV, h]
theorem cntV_add : ∀ (R : List Nd) (j k : Nat), cntV (j + k) R = (cntV j R).bind (cntV k)
  | R, 0, k => by rw [Nat.zero_add, cntV_zero]; rfl
  | [], j + 1, k => by rw [show j + 1 + k = (j + k) + 1 by omega]; rfl
  | n :: R, j + 1, k => by
    rw [show j + 1 + k = (j + k) + 1 by omega]
    cases h : nodeV n with
    | true => rw [cntV_node h, cntV_node h, show j + k + kidsN n = (j + kidsN n) + k by omega, cntV_add R (j + kidsN n) k]
    | false => rw [cntV_wrong h, cntV_wrong h]; rfl
theorem cntV_suffix : ∀ (R : List Nd) (k : Nat) {R' : List Nd}, cntV k R = some R' → R' <:+ R
  | R, 0, R', h => by rw [cntV_zero] at h; injection h with h; subst h; exact List.suffix_refl _
  | [], k + 1, R', h => by cases h
  | n :: R, k + 1, R', h => by
    cases hn : nodeV n with
    | true => rw [cntV_node hn] at h; exact (cntV_suffix R _ h).trans (List.suffix_cons n R)
    | false => rw [cntV_wrong hn] at h; cases h
theorem depV_node {n : Nd} {l : List Nd} {d : Nat} (h : nodeV n = true) (hk : kidsN n ≤ d) : depV (n :: l) d = depV l (d - kidsN n + 1) := by rw [depV, h, decide_eq_true hk]; rfl
theorem depV_wrong {n : Nd} {l : List Nd} {d : Nat} (h : nodeV n = false ∨ ¬ kidsN n ≤ d) : depV (n :: l) d = none := by
  rw [depV]
  rcases h with h | h
  · rw [h]; rfl
  · rw [decide_eq_false h, Bool.and_false]
theorem depV_append : ∀ (a b : List Nd) (d : Nat), depV (a ++ b) d = (depV a d).bind (depV b)
  | [], b, d => rfl
  | n :: a, b, d => by
    rw [List.cons_append]
    by_cases h : nodeV n = true ∧ kidsN n ≤ d
    · rw [depV_node h.1 h.2, depV_node h.1 h.2, depV_append a b]
    · have h' : nodeV n = false ∨ ¬ kidsN n ≤ d := by
        cases hn : nodeV n with
        | false => exact .inl rfl
        | true => exact .inr fun hk => h ⟨hn, hk⟩
      rw [depV_wrong h', depV_wrong h']; rfl
theorem depV_up : ∀ (a : List Nd) (d e k : Nat), depV a d = some e → depV a (d + k) = some (e + k)
  | [], d, e, k, h => by injection h with h; subst h; rfl
  | n :: a, d, e, k, h => by
    by_cases hn : nodeV n = true ∧ kidsN n ≤ d
    · rw [depV_node hn.1 hn.2] at h
      rw [depV_node hn.1 (by omega), show d + k - kidsN n + 1 = (d - kidsN n + 1) + k by omega]
      exact depV_up a _ e k h
    · have h' : nodeV n = false ∨ ¬ kidsN n ≤ d := by
        cases hm : nodeV n with
        | false => exact .inl rfl
        | true => exact .inr fun hk => hn ⟨hm, hk⟩
      rw [depV_wrong h'] at h; cases h
theorem depV_one {n : Nd} {d e : Nat} : depV [n] d = some e ↔ nodeV n = true ∧ kidsN n ≤ d ∧ e = d - kidsN n + 1 := by
  by_cases h : nodeV n = true ∧ kidsN n ≤ d
  · rw [depV_node h.1 h.2]
    show some (d - kidsN n + 1) = some e ↔ _
    constructor
    · intro h1; injection h1 with h1; exact ⟨h.1, h.2, h1.symm⟩
    · rintro ⟨_, _, h1⟩; rw [h1]
  · have h' : nodeV n = false ∨ ¬ kidsN n ≤ d := by
      cases hm : nodeV n with
      | false => exact .inl rfl
      | true => exact .inr fun hk => h ⟨hm, hk⟩
    rw [depV_wrong h']
    constructor
    · intro h1; cases h1
    · rintro ⟨h1, h2, _⟩; exact absurd ⟨h1, h2⟩ h
/-- Both ways tell the same filters. -/
theorem cnt_dep : ∀ (R : List Nd) (k : Nat), cntV k R = some [] ↔ depV R.reverse 0 = some k
  | [], 0 => by simp [cntV, depV]
  | [], k + 1 => by simp [cntV, depV]
  | n :: R, k => by
    rw [List.reverse_cons, depV_append]
    cases k with
    | zero =>
      rw [cntV_zero]
      constructor
      · intro h; cases h
      · intro h
        cases hd : depV R.reverse 0 with
        | none => rw [hd] at h; cases h
        | some d =>
          rw [hd] at h
          have := (depV_one (n := n) (d := d) (e := 0)).1 h
          omega
    | succ k =>
      cases hn : nodeV n with
      | false =>
        rw [cntV_wrong hn]
        constructor
        · intro h; cases h
        · intro h
          cases hd : depV R.reverse 0 with
          | none => rw [hd] at h; cases h
          | some d =>
            rw [hd] at h
            have := ((depV_one (n := n) (d := d) (e := k + 1)).1 h).1
            rw [hn] at this; cases this
      | true =>
        rw [cntV_node hn, cnt_dep R (k + kidsN n)]
        constructor
        · intro h
          rw [h]
          exact (depV_one (n := n)).2 ⟨hn, by omega, by omega⟩
        · intro h
          cases hd : depV R.reverse 0 with
          | none => rw [hd] at h; cases h
          | some d =>
            rw [hd] at h
            obtain ⟨_, h2, h3⟩ := (depV_one (n := n) (d := d) (e := k + 1)).1 h
            rw [show d = k + kidsN n by omega]
/-- A right filter. -/
def rightN (l : List Nd) : Bool := decide (1 ≤ l.length) && decide (l.length ≤ 32) && decide (depV l 0 = some 1)
theorem rightN_iff {l : List Nd} : rightN l = true ↔ 1 ≤ l.length ∧ l.length ≤ 32 ∧ depV l 0 = some 1 := by
  unfold rightN
  simp only [Bool.and_eq_true, decide_eq_true_eq, and_assoc]
/-- Where the filter begins whose last node stands ahead of a place; -1: it is none. -/
def begV (l : List Nd) (p : Nat) : Int := match cntV 1 (l.take p).reverse with
  | some R => (R.length : Nat)
  | none => -1
theorem rightN_beg {l : List Nd} : rightN l = (decide (1 ≤ l.length) && (decide (l.length ≤ 32) && decide (begV l l.length = 0))) := by
  have key : begV l l.length = 0 ↔ depV l 0 = some 1 := by
    have h := cnt_dep l.reverse 1
    rw [List.reverse_reverse] at h
    rw [← h]
    unfold begV
    rw [List.take_length]
    cases hc : cntV 1 l.reverse with
    | none => simp
    | some R => simp
  rw [Bool.eq_iff_iff, rightN_iff]
  simp only [Bool.and_eq_true, decide_eq_true_eq]
  rw [key]

/-! What it has. -/
abbrev TxtP := List UInt8 → Bool
def valN (n : Nd) (ks : List TxtP) : TxtP := fun s =>
  if n.op = 1 then true
  else if n.op = 3 then n.lo.isPrefixOf s
  else if n.op = 4 then hasR ⟨n.lo, n.hi, false⟩ s
  else if n.op = 5 then !ltB s n.lo
  else if n.op = 6 then !(ks.any fun k => k s)
  else if n.op = 7 then ks.all fun k => k s
  else if n.op = 8 then ks.any fun k => k s
  else false
/-- What stands open, the last one first. -/
def evV : List Nd → List TxtP → List TxtP
  | [], st => st
  | n :: l, st => evV l (valN n (st.take (kidsN n)) :: st.drop (kidsN n))
theorem evV_append : ∀ (a b : List Nd) (st : List TxtP), evV (a ++ b) st = evV b (evV a st)
  | [], _, _ => rfl
  | n :: a, b, st => by rw [List.cons_append, evV, evV, evV_append a b]
theorem evV_len : ∀ (a : List Nd) (st : List TxtP) (e : Nat), depV a st.length = some e → (evV a st).length = e
  | [], st, e, h => by injection h
  | n :: a, st, e, h => by
    by_cases hn : nodeV n = true ∧ kidsN n ≤ st.length
    · rw [depV_node hn.1 hn.2] at h
      rw [evV]
      refine evV_len a _ e ?_
      rw [List.length_cons, List.length_drop]; exact h
    · have h' : nodeV n = false ∨ ¬ kidsN n ≤ st.length := by
        cases hm : nodeV n with
        | false => exact .inl rfl
        | true => exact .inr fun hk => hn ⟨hm, hk⟩
      rw [depV_wrong h'] at h; cases h
theorem evV_up : ∀ (a : List Nd) (st tt : List TxtP) (e : Nat), depV a st.length = some e → evV a (st ++ tt) = evV a st ++ tt
  | [], _, _, _, _ => rfl
  | n :: a, st, tt, e, h => by
    by_cases hn : nodeV n = true ∧ kidsN n ≤ st.length
    · rw [depV_node hn.1 hn.2] at h
      rw [evV, evV, List.take_append_of_le_length hn.2, List.drop_append_of_le_length hn.2, ← List.cons_append]
      refine evV_up a _ tt e ?_
      rw [List.length_cons, List.length_drop]; exact h
    · have h' : nodeV n = false ∨ ¬ kidsN n ≤ st.length := by
        cases hm : nodeV n with
        | false => exact .inl rfl
        | true => exact .inr fun hk => hn ⟨hm, hk⟩
      rw [depV_wrong h'] at h; cases h
/-- What stands open behind a list's first nodes. -/
def stkV (l : List Nd) : List TxtP := evV l []
def topV (l : List Nd) : TxtP := (stkV l).headD fun _ => false
theorem stkV_snoc (l : List Nd) (n : Nd) : stkV (l ++ [n]) = valN n ((stkV l).take (kidsN n)) :: (stkV l).drop (kidsN n) := by
  unfold stkV; rw [evV_append]; rfl
theorem topV_snoc (l : List Nd) (n : Nd) : topV (l ++ [n]) = valN n ((stkV l).take (kidsN n)) := by unfold topV; rw [stkV_snoc]; rfl
/-- Filters taken off: what stood open below them. -/
theorem cnt_stk : ∀ (R : List Nd) (k d : Nat), depV R.reverse 0 = some d → k ≤ d → ∃ R', cntV k R = some R' ∧ depV R'.reverse 0 = some (d - k) ∧ stkV R'.reverse = (stkV R.reverse).drop k
  | R, 0, d, h, _ => ⟨R, cntV_zero R, h, rfl⟩
  | [], k + 1, d, h, hk => by
    have : some 0 = some d := h
    injection this with this
    omega
  | n :: R, k + 1, d, h, hk => by
    rw [List.reverse_cons, depV_append] at h
    cases hd : depV R.reverse 0 with
    | none => rw [hd] at h; cases h
    | some e =>
      rw [hd] at h
      obtain ⟨h1, h2, h3⟩ := (depV_one (n := n) (d := e) (e := d)).1 h
      obtain ⟨R', h4, h5, h6⟩ := cnt_stk R (k + kidsN n) e hd (by omega)
      refine ⟨R', by rw [cntV_node h1]; exact h4, by rw [h5]; congr 1; omega, ?_⟩
      rw [h6, List.reverse_cons, stkV_snoc, List.drop_succ_cons, List.drop_drop]
      congr 1
      omega
def matchN (l : List Nd) (s : List UInt8) : Bool := rightN l && topV l s

/-! What is built of filters. -/
def joinV (op : Int) (ls : List (List Nd)) : List Nd := ls.flatten ++ [⟨op, (ls.length : Nat), [], []⟩]
def andV (ls : List (List Nd)) : List Nd := match ls with
  | [] => [⟨1, 0, [], []⟩]
  | a :: r => joinV 7 (a :: r)
def orV (ls : List (List Nd)) : List Nd := match ls with
  | [] => [⟨2, 0, [], []⟩]
  | a :: r => joinV 8 (a :: r)
def notN (a : List Nd) : List Nd := a ++ [⟨6, 1, [], []⟩]
theorem not_right {a : List Nd} (h : rightN a = true) (hl : a.length ≤ 31) : rightN (notN a) = true ∧ ∀ s, topV (notN a) s = !topV a s := by
  obtain ⟨h1, h2, h3⟩ := rightN_iff.1 h
  have hz := evV_len a [] 1 h3
  constructor
  · rw [rightN_iff]
    unfold notN
    rw [List.length_append, depV_append, h3]
    exact ⟨by simp, by simp; omega, rfl⟩
  · intro s
    unfold notN
    rw [topV_snoc]
    unfold topV
    have hz : (stkV a).length = 1 := hz
    match hs : stkV a, hz with
    | [f], _ => simp [valN, kidsN]
theorem two_right {a b : List Nd} (ha : rightN a = true) (hb : rightN b = true) (hl : a.length + b.length ≤ 31) (op : Int) (ho : op = 7 ∨ op = 8) :
    rightN (joinV op [a, b]) = true ∧ ∀ s, topV (joinV op [a, b]) s = match decide (op = 7) with | true => topV a s && topV b s | false => topV a s || topV b s := by
  obtain ⟨h1, h2, h3⟩ := rightN_iff.1 ha
  obtain ⟨k1, k2, k3⟩ := rightN_iff.1 hb
  have hza : (stkV a).length = 1 := evV_len a [] 1 h3
  have hzb : (stkV b).length = 1 := evV_len b [] 1 k3
  have hd : depV (a ++ b) 0 = some 2 := by
    rw [depV_append, h3]
    exact depV_up b 0 1 1 k3
  have he : stkV (a ++ b) = stkV b ++ stkV a := by
    unfold stkV
    rw [evV_append]
    exact evV_up b [] (evV a []) 1 k3
  have hj : joinV op [a, b] = (a ++ b) ++ [⟨op, 2, [], []⟩] := by simp [joinV]
  have hn : nodeV ⟨op, 2, [], []⟩ = true := by rcases ho with rfl | rfl <;> rfl
  constructor
  · rw [rightN_iff, hj, List.length_append, List.length_append, depV_append, hd]
    refine ⟨by simp, by simp; omega, ?_⟩
    exact (depV_one).2 ⟨hn, Nat.le_refl _, rfl⟩
  · intro s
    rw [hj, topV_snoc, he]
    unfold topV
    match hs : stkV a, hza with
    | [f], _ => match ht : stkV b, hzb with
      | [g], _ =>
        rcases ho with rfl | rfl
        · simp [valN, kidsN, Bool.and_comm]
        · simp [valN, kidsN, Bool.or_comm]

/-! Its list of ranges. -/
def leafR (n : Nd) : Option Rng :=
  if n.op = 3 then some (prefixR n.lo) else if n.op = 4 then some ⟨n.lo, n.hi, false⟩ else if n.op = 5 then some ⟨n.lo, [], true⟩ else none
def leavesL (l : List Nd) : List Rng := l.filterMap leafR
theorem det_has {r : Rng} {E : List (List UInt8)} (h1 : r.lo ∈ E) (h2 : r.op = false → r.hi ∈ E) : Det (hasR r) E := fun s c h => by
  unfold hasR aheadR
  rw [h _ h1]
  cases ho : r.op with
  | true => rfl
  | false => rw [h _ (h2 ho)]
theorem det_leaf {n : Nd} {r : Rng} (hn : nodeV n = true) (hr : leafR n = some r) : rightR r = true ∧ ∀ ks s, valN n ks s = hasR r s := by
  unfold leafR at hr
  unfold nodeV at hn
  by_cases h3 : n.op = 3
  · rw [if_pos h3] at hr
    injection hr with hr
    subst hr
    rw [if_neg (by omega), if_pos h3] at hn
    simp only [Bool.and_eq_true, decide_eq_true_eq] at hn
    exact ⟨prefixR_right hn.2.1, fun ks s => by unfold valN; rw [if_neg (by omega), if_pos h3, prefixR_has hn.2.1]⟩
  · rw [if_neg h3] at hr
    by_cases h4 : n.op = 4
    · rw [if_pos h4] at hr
      injection hr with hr
      subst hr
      rw [if_neg (by omega), if_neg h3, if_pos h4] at hn
      simp only [Bool.and_eq_true, decide_eq_true_eq] at hn
      exact ⟨hn.2, fun ks s => by unfold valN; rw [if_neg (by omega), if_neg h3, if_pos h4]⟩
    · rw [if_neg h4] at hr
      by_cases h5 : n.op = 5
      · rw [if_pos h5] at hr
        injection hr with hr
        subst hr
        rw [if_neg (by omega), if_neg h3, if_neg h4, if_pos h5] at hn
        simp only [Bool.and_eq_true, decide_eq_true_eq] at hn
        exact ⟨rightR_iff.2 ⟨hn.2.1, by simp, fun _ => rfl, fun h => by cases h⟩, fun ks s => by unfold valN; rw [if_neg (by omega), if_neg h3, if_neg h4, if_pos h5, hasR_open hn.2.1]⟩
      · rw [if_neg h5] at hr; cases hr
theorem det_val {n : Nd} {ks : List TxtP} {E : List (List UInt8)} (hn : nodeV n = true) (hE : ∀ r, leafR n = some r → Det (hasR r) E) (hk : ∀ k ∈ ks, Det k E) : Det (valN n ks) E := fun s c h => by
  cases hr : leafR n with
  | some r => rw [(det_leaf hn hr).2, (det_leaf hn hr).2]; exact hE r hr s c h
  | none =>
    have h3 : n.op ≠ 3 := fun e => by unfold leafR at hr; rw [if_pos e] at hr; cases hr
    have h4 : n.op ≠ 4 := fun e => by unfold leafR at hr; rw [if_neg h3, if_pos e] at hr; cases hr
    have h5 : n.op ≠ 5 := fun e => by unfold leafR at hr; rw [if_neg h3, if_neg h4, if_pos e] at hr; cases hr
    have e1 : ∀ k ∈ ks, k s = k c := fun k hk' => hk k hk' s c h
    have e2 : (ks.any fun k => k s) = ks.any fun k => k c := by
      rw [Bool.eq_iff_iff, List.any_eq_true, List.any_eq_true]
      constructor
      · rintro ⟨k, hk', hs⟩; exact ⟨k, hk', by rw [← e1 k hk']; exact hs⟩
      · rintro ⟨k, hk', hs⟩; exact ⟨k, hk', by rw [e1 k hk']; exact hs⟩
    have e3 : (ks.all fun k => k s) = ks.all fun k => k c := by
      rw [Bool.eq_iff_iff, List.all_eq_true, List.all_eq_true]
      constructor
      · intro h1 k hk'; rw [← e1 k hk']; exact h1 k hk'
      · intro h1 k hk'; rw [e1 k hk']; exact h1 k hk'
    unfold valN
    rw [if_neg h3, if_neg h4, if_neg h5, if_neg h3, if_neg h4, if_neg h5, e2, e3]
theorem det_ev : ∀ (l : List Nd) (st : List TxtP) (E : List (List UInt8)) (d : Nat), (∀ n ∈ l, nodeV n = true → ∀ r, leafR n = some r → Det (hasR r) E) → (∀ k ∈ st, Det k E) → depV l st.length = some d → ∀ k ∈ evV l st, Det k E
  | [], _, _, _, _, hs, _ => hs
  | n :: l, st, E, d, hl, hs, hd => by
    by_cases hn : nodeV n = true ∧ kidsN n ≤ st.length
    · rw [depV_node hn.1 hn.2] at hd
      rw [evV]
      refine det_ev l _ E d (fun m hm => hl m (List.mem_cons_of_mem _ hm)) (fun k hk => ?_) (by rw [List.length_cons, List.length_drop]; exact hd)
      rcases List.mem_cons.1 hk with rfl | hk
      · exact det_val hn.1 (hl n (List.mem_cons_self ..) hn.1) fun k hk => hs k (List.mem_of_mem_take hk)
      · exact hs k (List.mem_of_mem_drop hk)
    · have h' : nodeV n = false ∨ ¬ kidsN n ≤ st.length := by
        cases hm : nodeV n with
        | false => exact .inl rfl
        | true => exact .inr fun hk => hn ⟨hm, hk⟩
      rw [depV_wrong h'] at hd; cases hd
def rangesN (l : List Nd) : List Rng := match rightN l with
  | true => mkR (matchN l) (edgesL (leavesL l)) none
  | false => []
theorem rangesN_ok (l : List Nd) : rightL (rangesN l) = true ∧ ∀ s, hasL (rangesN l) s = matchN l s := by
  unfold rangesN
  cases hr : rightN l with
  | false => exact ⟨rfl, fun s => by unfold matchN; rw [hr]; rfl⟩
  | true =>
    obtain ⟨_, _, h3⟩ := rightN_iff.1 hr
    obtain ⟨m, h4, h5, h6⟩ := edgesL_ok (leavesL l)
    have hd : Det (matchN l) (edgesL (leavesL l)) := fun s c h => by
      unfold matchN
      have hz : (stkV l).length = 1 := evV_len l [] 1 h3
      have hk := det_ev l [] (edgesL (leavesL l)) 1 (fun n hn hv r hr => by
        have h7 : r ∈ leavesL l := List.mem_filterMap.2 ⟨n, hn, hr⟩
        obtain ⟨h8, h9⟩ := edges_mem (leavesL l) [[]] h7 (det_leaf hv hr).1
        exact det_has h8 h9) (by simp) h3
      unfold topV
      match hs : stkV l, hz with
      | [f], _ =>
        have := hk f (by show f ∈ stkV l; rw [hs]; simp)
        show (_ && f s) = (_ && f c)
        rw [this s c h]
    rw [h4] at hd ⊢
    exact mkR_all h5 h6 hd
end Go.Proofs.YthgcbomidamcfaaDoor

/-
  Lists of a filter's nodes as values of the program; may a node be (the document's words).
-/
namespace Go.Proofs.YthgcbomidamcfaaDoor
open Go.RowKit

/-- A node's cells. -/
def ndCells (n : Nd) : List Value := [.int .i64 n.op, .int .i64 n.kids, .string (str n.lo), .string (str n.hi)]
noncomputable def kNd : Kind Tryd.prog Nd where
  ty := 22
  el := 35
  size := 4
  bytes := 48
  zero := .agg #[.int .i64 0, .int .i64 0, .string ⟨#[]⟩, .string ⟨#[]⟩]
  cells := ndCells
  len := fun _ => rfl
  one := fun r u hu => by simp [ndCells] at hu; rcases hu with rfl | rfl | rfl | rfl <;> rfl
  pos := by decide
  under := Tryd.underlying22
  info := by kernel_rfl
  zsize := rfl
/-- The cells of node k of a list. -/
theorem nds_at {w : World} {B : Nat} {A : Option Addr} {c : Nat} {l : List Nd} (h : kNd.Rd w B A c l) (hp : 0 < l.length) :
    ∃ b o, A = some ⟨b, o, none⟩ ∧ b < B ∧ ∀ k n, l[k]? = some n → w.cell? ⟨b, o + k * 4, none⟩ = some (.int .i64 n.op) ∧ w.cell? ⟨b, o + k * 4 + 1, none⟩ = some (.int .i64 n.kids) ∧ w.cell? ⟨b, o + k * 4 + 2, none⟩ = some (.string (str n.lo)) ∧ w.cell? ⟨b, o + k * 4 + 3, none⟩ = some (.string (str n.hi)) := by
  obtain ⟨b, o, h1, h2, h3⟩ := h.at_ hp
  exact ⟨b, o, h1, h2, fun k n hn => ⟨h3 k n hn 0 _ rfl, h3 k n hn 1 _ rfl, h3 k n hn 2 _ rfl, h3 k n hn 3 _ rfl⟩⟩
theorem nodeV_12 {n : Nd} (h : n.op = 1 ∨ n.op = 2) : nodeV n = ((n.kids == 0) && (n.lo.isEmpty && n.hi.isEmpty)) := by
  unfold nodeV; rw [if_pos h]; congr 1
theorem nodeV_3 {n : Nd} (h : n.op = 3) : nodeV n = ((n.kids == 0) && (decide (n.lo.length ≤ 16) && n.hi.isEmpty)) := by
  unfold nodeV; rw [if_neg (by omega), if_pos h]; congr 1
theorem nodeV_4 {n : Nd} (h : n.op = 4) : nodeV n = ((n.kids == 0) && rightR ⟨n.lo, n.hi, false⟩) := by
  unfold nodeV; rw [if_neg (by omega), if_neg (by omega), if_pos h]; congr 1
theorem nodeV_5 {n : Nd} (h : n.op = 5) : nodeV n = ((n.kids == 0) && (decide (n.lo.length ≤ 17) && n.hi.isEmpty)) := by
  unfold nodeV; rw [if_neg (by omega), if_neg (by omega), if_neg (by omega), if_pos h]; congr 1
theorem nodeV_6 {n : Nd} (h : n.op = 6) : nodeV n = (n.lo.isEmpty && (n.hi.isEmpty && (n.kids == 1))) := by
  unfold nodeV
  rw [if_neg (by omega), if_neg (by omega), if_neg (by omega), if_neg (by omega), Bool.and_assoc]
  congr 2
  rw [decide_eq_false (p := (n.op = 7 ∨ n.op = 8) ∧ 1 ≤ n.kids ∧ n.kids ≤ 32) (by omega), Bool.or_false]
  by_cases hk : n.kids = 1
  · rw [decide_eq_true ⟨h, hk⟩, hk]; rfl
  · rw [decide_eq_false (fun e => hk e.2)]; exact (beq_eq_false_iff_ne.2 hk).symm
theorem nodeV_78 {n : Nd} (h : n.op = 7 ∨ n.op = 8) : nodeV n = (n.lo.isEmpty && (n.hi.isEmpty && (decide (1 ≤ n.kids) && decide (n.kids ≤ 32)))) := by
  unfold nodeV
  rw [if_neg (by omega), if_neg (by omega), if_neg (by omega), if_neg (by omega), Bool.and_assoc]
  congr 2
  rw [decide_eq_false (p := n.op = 6 ∧ n.kids = 1) (by omega), Bool.false_or]
  by_cases h1 : 1 ≤ n.kids <;> by_cases h2 : n.kids ≤ 32 <;> simp [h, h1, h2]
theorem nodeV_no {n : Nd} (h : n.op < 1 ∨ 8 < n.op) : nodeV n = false := by
  unfold nodeV
  rw [if_neg (by omega), if_neg (by omega), if_neg (by omega), if_neg (by omega), decide_eq_false (p := n.op = 6 ∧ n.kids = 1) (by omega), decide_eq_false (p := (n.op = 7 ∨ n.op = 8) ∧ 1 ≤ n.kids ∧ n.kids ≤ 32) (by omega)]
  simp
set_option maxHeartbeats 4000000 in
theorem ref_node (n : Nd) (O K : Int) (S T : ByteArray) (hO : n.op = O) (hK : n.kids = K) (hS : str n.lo = S) (hT : str n.hi = T) (v : Bool) (hv : nodeV n = v) (w : World) :
    Calls Tryd.prog 21 #[.agg #[.int .i64 O, .int .i64 K, .string S, .string T]] w fun e w' => e = .returned (.bool v) ∧ Below w.heap.size w w' := by
  have HB := Lib.hid ((Below.refl w.heap.size w).alloc (Nat.le_refl _) (.cells #[.int .i64 O, .int .i64 K, .string S, .string T] 35))
  have eS := txt_empty hS
  have eT := txt_empty hT
  have zS : S.size = n.lo.length := by subst hS; exact str_size _
  obtain ⟨vl, hl⟩ : ∃ vl, n.lo.isEmpty = vl := ⟨_, rfl⟩
  obtain ⟨vh, hh⟩ : ∃ vh, n.hi.isEmpty = vh := ⟨_, rfl⟩
  rw [hl] at eS
  rw [hh] at eT
  obtain ⟨k0, hk0⟩ : ∃ k0, (K == 0) = k0 := ⟨_, rfl⟩
  by_cases h1 : O = 1 ∨ O = 2
  · have e := nodeV_12 (n := n) (by rw [hO]; exact h1)
    rw [hv, hl, hh, hK, hk0] at e
    subst e
    clear hv hS hT zS hl hh hK hO
    rcases h1 with rfl | rfl
    all_goals
      cases k0
      case' true =>
        cases vl
        case' true =>
          cases vh
    all_goals
      go_enter Tryd.func21, Tryd.ntmps21
      go_wp2_with fail
      go_ret
      exact ⟨rfl, HB.out⟩
  · have n1 : (O == 1) = false := beq_eq_false_iff_ne.2 fun e => h1 (.inl e)
    have n2 : (O == 2) = false := beq_eq_false_iff_ne.2 fun e => h1 (.inr e)
    by_cases h3 : O = 3
    · have e := nodeV_3 (n := n) (by rw [hO]; exact h3)
      rw [hv, hh, hK, hk0, ← zS] at e
      obtain ⟨z, hz⟩ : ∃ z, decide (S.size ≤ 16) = z := ⟨_, rfl⟩
      have hz' : decide ((S.size : Int) ≤ 16) = z := by rw [← hz]; exact decide_eq_decide.2 (by omega)
      rw [hz] at e
      subst e
      clear hv hS hT zS hl hh hK hO eS h1
      subst h3
      cases k0
      case' true =>
        cases z
        case' true =>
          cases vh
      all_goals
        go_enter Tryd.func21, Tryd.ntmps21
        go_wp2_with fail
        go_ret
        exact ⟨rfl, HB.out⟩
    · have n3 : (O == 3) = false := beq_eq_false_iff_ne.2 h3
      by_cases h4 : O = 4
      · have e := nodeV_4 (n := n) (by rw [hO]; exact h4)
        obtain ⟨z, hz⟩ : ∃ z, rightR ⟨n.lo, n.hi, false⟩ = z := ⟨_, rfl⟩
        have C := fun w => Lib.hid (ref_rright ⟨n.lo, n.hi, false⟩ S T false z ⟨hS, hT, rfl⟩ hz w)
        rw [hv, hK, hk0, hz] at e
        subst e
        clear hv hS hT zS hl hh hK hO eS eT h1 hz h3
        subst h4
        cases k0
        case' true =>
          cases z
        all_goals
          go_enter Tryd.func21, Tryd.ntmps21
          go_wp2_with ((with_reducible refine (C _).out.mono ?_); rintro e w1 ⟨rfl, hq⟩; replace HB := Lib.hid (HB.out.trans (hq.mono (by simp))); clear hq)
          go_ret
          exact ⟨rfl, HB.out⟩
      · have n4 : (O == 4) = false := beq_eq_false_iff_ne.2 h4
        by_cases h5 : O = 5
        · have e := nodeV_5 (n := n) (by rw [hO]; exact h5)
          rw [hv, hh, hK, hk0, ← zS] at e
          obtain ⟨z, hz⟩ : ∃ z, decide (S.size ≤ 17) = z := ⟨_, rfl⟩
          have hz' : decide ((S.size : Int) ≤ 17) = z := by rw [← hz]; exact decide_eq_decide.2 (by omega)
          rw [hz] at e
          subst e
          clear hv hS hT zS hl hh hK hO eS h1 h3 h4
          subst h5
          cases k0
          case' true =>
            cases z
            case' true =>
              cases vh
          all_goals
            go_enter Tryd.func21, Tryd.ntmps21
            go_wp2_with fail
            go_ret
            exact ⟨rfl, HB.out⟩
        · have n5 : (O == 5) = false := beq_eq_false_iff_ne.2 h5
          by_cases h6 : O = 6
          · have e := nodeV_6 (n := n) (by rw [hO]; exact h6)
            obtain ⟨k1, hk1⟩ : ∃ k1, (K == 1) = k1 := ⟨_, rfl⟩
            rw [hv, hl, hh, hK, hk1] at e
            subst e
            clear hv hS hT zS hl hh hK hO h1 h3 h4 h5 hk0
            subst h6
            cases vl
            case' true =>
              cases vh
              case' true =>
                cases k1
            all_goals
              go_enter Tryd.func21, Tryd.ntmps21
              go_wp2_with fail
              go_ret
              exact ⟨rfl, HB.out⟩
          · have n6 : (O == 6) = false := beq_eq_false_iff_ne.2 h6
            by_cases h7 : O = 7 ∨ O = 8
            · have e := nodeV_78 (n := n) (by rw [hO]; exact h7)
              obtain ⟨ka, hka⟩ : ∃ ka, decide (1 ≤ K) = ka := ⟨_, rfl⟩
              obtain ⟨kb, hkb⟩ : ∃ kb, decide (K ≤ 32) = kb := ⟨_, rfl⟩
              rw [hv, hl, hh, hK, hka, hkb] at e
              subst e
              clear hv hS hT zS hl hh hK hO h1 h3 h4 h5 h6 hk0
              rcases h7 with rfl | rfl
              all_goals
                cases vl
                case' true =>
                  cases vh
                  case' true =>
                    cases ka
                    case' true =>
                      cases kb
              all_goals
                go_enter Tryd.func21, Tryd.ntmps21
                go_wp2_with fail
                go_ret
                exact ⟨rfl, HB.out⟩
            · have n7 : (O == 7) = false := beq_eq_false_iff_ne.2 fun e => h7 (.inl e)
              have n8 : (O == 8) = false := beq_eq_false_iff_ne.2 fun e => h7 (.inr e)
              have e := nodeV_no (n := n) (by rw [hO]; omega)
              rw [hv] at e
              subst e
              clear hv hS hT zS hl hh hK hO h1 h3 h4 h5 h6 h7 hk0
              cases vl
              case' true =>
                cases vh
              all_goals
                go_enter Tryd.func21, Tryd.ntmps21
                go_wp2_with fail
                go_ret
                exact ⟨rfl, HB.out⟩
end Go.Proofs.YthgcbomidamcfaaDoor
