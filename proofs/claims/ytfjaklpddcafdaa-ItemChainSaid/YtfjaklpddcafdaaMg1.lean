/-
  Several texts in one: KeyPure, VrPure, ItmPure, Words, Append, Bytes, More, SpanPure, Rng, Kind, Quiet, VrA.
-/
import Derived.Lib.Bytealg
import Derived.Test.YtfjaklpddcafdaaRows
import Derived.WalkKit
import Derived.WalkSpells
import Derived.WalkLawsBesides
import Derived.Lib.Hide
import Derived.Maps.AppendAt
import Derived.Deep.AppendLies
import Derived.RegionTactic
import Derived.OwnWalk
import Derived.Laws.BytesArg
import Derived.Lib.AppendStr
import Derived.OneCell
import Derived.Outline
import Derived.Laws.OwnMore
import Derived.Deep.QuietTactic
import Derived.BigQuiet
import Derived.Laws.StructEq
import Derived.Laws.Tables
import Derived.Deep.Quiet
namespace Go.Proofs.Ytfjaklpddcafdaa

def ltB : List UInt8 → List UInt8 → Bool
  | _, [] => false
  | [], _ :: _ => true
  | x :: a, y :: b => if x = y then ltB a b else decide (x.toNat < y.toNat)

theorem ltB_nil (a : List UInt8) : ltB a [] = false := by cases a <;> rfl
theorem ltB_nil_cons (y : UInt8) (b : List UInt8) : ltB [] (y :: b) = true := rfl
theorem ltB_same (x : UInt8) (a b : List UInt8) : ltB (x :: a) (x :: b) = ltB a b := by simp [ltB]
theorem ltB_other {x y : UInt8} (h : x ≠ y) (a b : List UInt8) : ltB (x :: a) (y :: b) = decide (x.toNat < y.toNat) := by simp [ltB, h]
theorem u8_ne {x y : UInt8} (h : x ≠ y) : x.toNat ≠ y.toNat := fun e => h (UInt8.toNat_inj.1 e)
theorem ltB_irrefl : ∀ a : List UInt8, ltB a a = false
  | [] => rfl
  | x :: a => by rw [ltB_same]; exact ltB_irrefl a
theorem ltB_asymm : ∀ {a b : List UInt8}, ltB a b = true → ltB b a = false
  | a, [], h => by rw [ltB_nil] at h; cases h
  | [], y :: b, _ => rfl
  | x :: a, y :: b, h => by
    by_cases e : x = y
    · subst e; rw [ltB_same] at h ⊢; exact ltB_asymm h
    · rw [ltB_other e, decide_eq_true_eq] at h
      rw [ltB_other (Ne.symm e), decide_eq_false_iff_not]; omega
theorem ltB_total : ∀ {a b : List UInt8}, ltB a b = false → ltB b a = false → a = b
  | [], [], _, _ => rfl
  | [], y :: b, h, _ => by cases h
  | x :: a, [], _, h => by cases h
  | x :: a, y :: b, h, h' => by
    by_cases e : x = y
    · subst e; rw [ltB_same] at h h'; rw [ltB_total h h']
    · rw [ltB_other e, decide_eq_false_iff_not] at h
      rw [ltB_other (Ne.symm e), decide_eq_false_iff_not] at h'
      have := u8_ne e
      omega
theorem ltB_trans : ∀ {a b c : List UInt8}, ltB a b = true → ltB b c = true → ltB a c = true
  | a, [], c, h, _ => by rw [ltB_nil] at h; cases h
  | a, y :: b, [], _, h => by cases h
  | [], y :: b, z :: c, _, _ => rfl
  | x :: a, y :: b, z :: c, h, h' => by
    by_cases e : x = y
    · subst e
      rw [ltB_same] at h
      by_cases e' : x = z
      · subst e'; rw [ltB_same] at h' ⊢; exact ltB_trans h h'
      · rw [ltB_other e'] at h' ⊢; exact h'
    · rw [ltB_other e, decide_eq_true_eq] at h
      by_cases e' : y = z
      · subst e'; rw [ltB_other e, decide_eq_true_eq]; exact h
      · rw [ltB_other e', decide_eq_true_eq] at h'
        have e2 : x ≠ z := fun e2 => by subst e2; omega
        rw [ltB_other e2, decide_eq_true_eq]; omega
theorem ltB_of_le_of_lt {a b c : List UInt8} (h : ltB b a = false) (h' : ltB b c = true) : ltB a c = true := by
  cases hab : ltB a b with
  | true => exact ltB_trans hab h'
  | false => rw [ltB_total hab h]; exact h'
theorem ltB_of_lt_of_le {a b c : List UInt8} (h : ltB a b = true) (h' : ltB c b = false) : ltB a c = true := by
  cases hbc : ltB b c with
  | true => exact ltB_trans h hbc
  | false => rw [← ltB_total hbc h']; exact h
theorem leB_trans {a b c : List UInt8} (h : ltB b a = false) (h' : ltB c b = false) : ltB c a = false := by
  cases hc : ltB c a with
  | false => rfl
  | true => rw [ltB_of_lt_of_le hc h] at h'; cases h'
theorem cmp_ltB : ∀ (a b : List UInt8), Lib.compareBytes a b = if ltB a b = true then -1 else if ltB b a = true then 1 else 0
  | [], [] => rfl
  | [], _ :: _ => rfl
  | _ :: _, [] => rfl
  | x :: a, y :: b => by
    unfold Lib.compareBytes
    by_cases e : x = y
    · subst e
      rw [if_neg (UInt8.lt_irrefl x), if_neg (UInt8.lt_irrefl x), ltB_same, ltB_same]; exact cmp_ltB a b
    · rw [ltB_other e, ltB_other (Ne.symm e)]
      simp only [decide_eq_true_eq, UInt8.lt_iff_toNat_lt]
      have := u8_ne e
      by_cases h : x.toNat < y.toNat
      · rw [if_pos h, if_pos h]
      · rw [if_neg h, if_neg h, if_pos (by omega), if_pos (by omega)]
theorem cmp_lt {a b : List UInt8} (h : ltB a b = true) : Lib.compareBytes a b = -1 := by rw [cmp_ltB, if_pos h]
theorem cmp_gt {a b : List UInt8} (h : ltB b a = true) : Lib.compareBytes a b = 1 := by rw [cmp_ltB, if_neg (by rw [ltB_asymm h]; exact Bool.false_ne_true), if_pos h]
theorem cmp_self (a : List UInt8) : Lib.compareBytes a a = 0 := by rw [cmp_ltB, ltB_irrefl]; rfl
theorem ltB_three (a b : List UInt8) : (ltB a b = true ∧ ltB b a = false ∧ a ≠ b) ∨ (ltB a b = false ∧ ltB b a = true ∧ a ≠ b) ∨ (ltB a b = false ∧ ltB b a = false ∧ a = b) := by
  cases h : ltB a b with
  | true => exact .inl ⟨rfl, ltB_asymm h, fun e => by rw [e, ltB_irrefl] at h; cases h⟩
  | false => cases h' : ltB b a with
    | true => exact .inr (.inl ⟨rfl, rfl, fun e => by rw [e, ltB_irrefl] at h'; cases h'⟩)
    | false => exact .inr (.inr ⟨rfl, rfl, ltB_total h h'⟩)

theorem ltB_step {a b : List UInt8} {k : Nat} (ha : k < a.length) (hb : k < b.length) (h : a.getD k 0 = b.getD k 0) : ltB (a.drop k) (b.drop k) = ltB (a.drop (k + 1)) (b.drop (k + 1)) := by
  rw [List.drop_eq_getElem_cons ha, List.drop_eq_getElem_cons hb]
  simp only [List.getD, List.getElem?_eq_getElem ha, List.getElem?_eq_getElem hb, Option.getD_some] at h
  rw [h, ltB_same]
theorem ltB_stop {a b : List UInt8} {k : Nat} (ha : k < a.length) (hb : k < b.length) (h : a.getD k 0 ≠ b.getD k 0) : ltB (a.drop k) (b.drop k) = decide ((a.getD k 0).toNat < (b.getD k 0).toNat) := by
  rw [List.drop_eq_getElem_cons ha, List.drop_eq_getElem_cons hb]
  simp only [List.getD, List.getElem?_eq_getElem ha, List.getElem?_eq_getElem hb, Option.getD_some] at h ⊢
  rw [ltB_other h]
theorem ltB_out {a b : List UInt8} {k : Nat} (h : b.length ≤ k) : ltB (a.drop k) (b.drop k) = false := by rw [List.drop_eq_nil_of_le h, ltB_nil]
theorem ltB_end {a b : List UInt8} {k : Nat} (ha : a.length = k) (hb : k ≤ b.length) : ltB (a.drop k) (b.drop k) = decide (k < b.length) := by
  rw [List.drop_eq_nil_of_le (by omega)]
  by_cases h : k < b.length
  · rw [List.drop_eq_getElem_cons h, ltB_nil_cons, decide_eq_true h]
  · rw [List.drop_eq_nil_of_le (by omega), ltB_nil, decide_eq_false h]

end Go.Proofs.Ytfjaklpddcafdaa

namespace Go.Proofs.Ytfjaklpddcafdaa

structure Vr where
  rep : Int
  cnt : Int
def rightVr (v : Vr) : Bool := decide (1 ≤ v.rep) && (decide (v.rep ≤ 16) && (decide (1 ≤ v.cnt) && decide (v.cnt ≤ 1099511627776)))
def lessVr (a b : Vr) : Bool := decide (a.rep < b.rep) || (decide (a.rep = b.rep) && decide (a.cnt < b.cnt))
theorem lessVr_iff {a b : Vr} : lessVr a b = true ↔ a.rep < b.rep ∨ a.rep = b.rep ∧ a.cnt < b.cnt := by
  unfold lessVr; simp only [Bool.or_eq_true, Bool.and_eq_true, decide_eq_true_eq]
theorem vr_ext {a b : Vr} (h1 : a.rep = b.rep) (h2 : a.cnt = b.cnt) : a = b := by cases a; cases b; simp_all
def cmpVr (a b : Vr) : Int := match lessVr a b with | true => -1 | false => match lessVr b a with | true => 1 | false => 0
theorem cmpVr_three (a b : Vr) : (cmpVr a b = -1 ∧ cmpVr b a = 1 ∧ lessVr a b = true ∧ lessVr b a = false) ∨ (cmpVr a b = 1 ∧ cmpVr b a = -1 ∧ lessVr a b = false ∧ lessVr b a = true) ∨ (cmpVr a b = 0 ∧ cmpVr b a = 0 ∧ lessVr a b = false ∧ lessVr b a = false ∧ a = b) := by
  unfold cmpVr
  cases h : lessVr a b <;> cases h' : lessVr b a
  · refine .inr (.inr ⟨rfl, rfl, rfl, rfl, ?_⟩)
    have e1 : ¬ (a.rep < b.rep ∨ a.rep = b.rep ∧ a.cnt < b.cnt) := fun e => by rw [lessVr_iff.2 e] at h; cases h
    have e2 : ¬ (b.rep < a.rep ∨ b.rep = a.rep ∧ b.cnt < a.cnt) := fun e => by rw [lessVr_iff.2 e] at h'; cases h'
    exact vr_ext (by omega) (by omega)
  · exact .inr (.inl ⟨rfl, rfl, rfl, rfl⟩)
  · exact .inl ⟨rfl, rfl, rfl, rfl⟩
  · have e1 := lessVr_iff.1 h
    have e2 := lessVr_iff.1 h'
    omega
theorem lessVr_irrefl (a : Vr) : lessVr a a = false := by
  cases h : lessVr a a with
  | false => rfl
  | true => rw [lessVr_iff] at h; omega
def digC (n : Nat) : UInt8 := UInt8.ofNat (48 + n)
def digF : Nat → Nat → List UInt8
  | 0, n => [digC (n % 10)]
  | f + 1, n => match decide (n < 10) with | true => [digC n] | false => digF f (n / 10) ++ [digC (n % 10)]
def digN (n : Nat) : List UInt8 := digF 20 n
theorem digF_small {f n : Nat} (h : n < 10) : digF f n = [digC n] := by
  cases f with
  | zero => rw [digF, Nat.mod_eq_of_lt h]
  | succ f => rw [digF, decide_eq_true h]
theorem digF_big {f n : Nat} (h : 10 ≤ n) : digF (f + 1) n = digF f (n / 10) ++ [digC (n % 10)] := by rw [digF, decide_eq_false (by omega)]
theorem digF_len : ∀ (f n : Nat), (digF f n).length ≤ f + 1
  | 0, n => by simp [digF]
  | f + 1, n => by
    by_cases hn : n < 10
    · rw [digF_small hn]; simp
    · rw [digF_big (by omega), List.length_append, List.length_singleton]
      have := digF_len f (n / 10)
      omega
def DigSt (n : Nat) (s : List UInt8) (r : Nat) : Prop := ∃ f, r < 10 ^ (f + 1) ∧ ((s = [] ∧ digN n = digF f r) ∨ (s ≠ [] ∧ digN n = (match decide (r = 0) with | true => [] | false => digF f r) ++ s))
theorem DigSt.start {n : Nat} (h : n ≤ 1099511627776) : DigSt n [] n := ⟨20, by omega, .inl ⟨rfl, rfl⟩⟩
theorem DigSt.step {n r : Nat} {s : List UInt8} (h : DigSt n s r) (hc : s = [] ∨ 0 < r) : DigSt n (digC (r % 10) :: s) (r / 10) := by
  obtain ⟨f, hf, h⟩ := h
  have e : digN n = digF f r ++ s := by
    rcases h with ⟨h1, h2⟩ | ⟨h1, h2⟩
    · rw [h2, h1, List.append_nil]
    · rw [h2, decide_eq_false (by rcases hc with hc | hc; exact absurd hc h1; omega)]
  by_cases hr : r < 10
  · refine ⟨0, by omega, .inr ⟨by simp, ?_⟩⟩
    rw [decide_eq_true (show r / 10 = 0 by omega), e, digF_small hr, Nat.mod_eq_of_lt hr]; rfl
  · cases f with
    | zero => simp at hf; omega
    | succ f =>
      refine ⟨f, by rw [Nat.pow_succ] at hf; omega, .inr ⟨by simp, ?_⟩⟩
      rw [decide_eq_false (show ¬ r / 10 = 0 by omega), e, digF_big (by omega), List.append_assoc]; rfl
theorem DigSt.done {n : Nat} {s : List UInt8} (h : DigSt n s 0) (hs : s ≠ []) : s = digN n := by
  obtain ⟨f, _, h⟩ := h
  rcases h with ⟨h1, _⟩ | ⟨_, h2⟩
  · exact absurd h1 hs
  · exact h2.symm

def RiseVr (l : List Vr) : Prop := l.Pairwise fun a b => lessVr a b = true
structure SortVr (l r : List Vr) : Prop where
  rise : RiseVr r
  mem : ∀ v, v ∈ r ↔ v ∈ l ∧ rightVr v = true
theorem SortVr.one {v : Vr} {r : List Vr} (h : SortVr [v, v] r) (hv : rightVr v = true) : r = [v] := by
  have h1 : ∀ x ∈ r, x = v := fun x hx => by have := ((h.mem x).1 hx).1; simpa using this
  match r, h with
  | [], h => have := (h.mem v).2 ⟨by simp, hv⟩; cases this
  | [x], h => rw [h1 x (List.mem_singleton.2 rfl)]
  | x :: y :: r, h =>
    have h2 := (List.pairwise_cons.1 h.rise).1 y (List.mem_cons_self ..)
    rw [h1 x (List.mem_cons_self ..), h1 y (by simp), lessVr_irrefl] at h2
    cases h2
theorem SortVr.next {l r : List Vr} (h : SortVr l r) {k : Nat} {a b : Vr} (ha : r[k]? = some a) (hb : r[k + 1]? = some b) : lessVr a b = true := by
  obtain ⟨h1, rfl⟩ := List.getElem?_eq_some_iff.1 ha
  obtain ⟨h2, rfl⟩ := List.getElem?_eq_some_iff.1 hb
  exact List.pairwise_iff_getElem.1 h.rise k (k + 1) h1 h2 (by omega)
end Go.Proofs.Ytfjaklpddcafdaa

namespace Go.Proofs.Ytfjaklpddcafdaa

structure Itm where
  key : List UInt8
  ver : Vr
  rank : Int
  prio : Int
  dead : Bool
  body : List UInt8
theorem itm_ext {a b : Itm} (h1 : a.key = b.key) (h2 : a.ver = b.ver) (h3 : a.rank = b.rank) (h4 : a.prio = b.prio) (h5 : a.dead = b.dead) (h6 : a.body = b.body) : a = b := by
  cases a; cases b; simp_all
def rightI (x : Itm) : Bool := decide (1 ≤ x.key.length) && (decide (x.key.length ≤ 16) && (rightVr x.ver && (decide (1 ≤ x.rank) && (decide (x.rank ≤ 1099511627776) && (decide (0 ≤ x.prio) && (decide (x.prio ≤ 255) && (decide (x.body.length ≤ 64) && !(x.dead && decide (0 < x.body.length)))))))))
def beatsI (a b : Itm) : Bool := match decide (a.rank = b.rank) with
  | false => decide (b.rank < a.rank)
  | true => lessVr b.ver a.ver
theorem beatsI_iff {a b : Itm} : beatsI a b = true ↔ b.rank < a.rank ∨ a.rank = b.rank ∧ (b.ver.rep < a.ver.rep ∨ b.ver.rep = a.ver.rep ∧ b.ver.cnt < a.ver.cnt) := by
  unfold beatsI
  by_cases h : a.rank = b.rank
  · rw [decide_eq_true h]
    show lessVr b.ver a.ver = true ↔ _
    rw [lessVr_iff]
    omega
  · rw [decide_eq_false h]
    show decide (b.rank < a.rank) = true ↔ _
    rw [decide_eq_true_eq]
    omega
theorem beatsI_no {a b : Itm} : beatsI a b = false ↔ ¬ (b.rank < a.rank ∨ a.rank = b.rank ∧ (b.ver.rep < a.ver.rep ∨ b.ver.rep = a.ver.rep ∧ b.ver.cnt < a.ver.cnt)) := by
  rw [← beatsI_iff, Bool.not_eq_true]
theorem beatsI_irrefl (a : Itm) : beatsI a a = false := beatsI_no.2 (by omega)
theorem beatsI_asymm {a b : Itm} (h : beatsI a b = true) : beatsI b a = false := by
  have := beatsI_iff.1 h
  exact beatsI_no.2 (by omega)
def cmpIm (a b : Itm) : Int := match beatsI a b with
  | true => 1
  | false => match beatsI b a with
    | true => -1
    | false => 0
def combO : Option Itm → Option Itm → Option Itm
  | none, y => y
  | some x, none => some x
  | some x, some y => match beatsI y x with
    | true => some y
    | false => some x
theorem combO_none (x : Option Itm) : combO x none = x := by cases x <;> rfl
theorem combO_yes {x y : Itm} (h : beatsI y x = true) : combO (some x) (some y) = some y := by
  show (match beatsI y x with | true => some y | false => some x) = some y
  rw [h]
theorem combO_no {x y : Itm} (h : beatsI y x = false) : combO (some x) (some y) = some x := by
  show (match beatsI y x with | true => some y | false => some x) = some x
  rw [h]
theorem combO_assoc (x y z : Option Itm) : combO (combO x y) z = combO x (combO y z) := by
  cases x with
  | none => rfl
  | some x =>
    cases y with
    | none => rfl
    | some y =>
      cases z with
      | none => rw [combO_none, combO_none]
      | some z =>
        cases h1 : beatsI y x <;> cases h2 : beatsI z y
        · rw [combO_no h1, combO_no h2, combO_no h1]
          rw [beatsI_no] at h1 h2
          exact combO_no (beatsI_no.2 (by omega))
        · rw [combO_no h1, combO_yes h2]
        · rw [combO_yes h1, combO_no h2, combO_yes h1]
        · rw [combO_yes h1, combO_yes h2]
          rw [beatsI_iff] at h1 h2
          exact (combO_yes (beatsI_iff.2 (by omega))).symm
theorem combO_self (x : Option Itm) : combO x x = x := by
  cases x with
  | none => rfl
  | some x => exact combO_no (beatsI_irrefl x)
theorem combO_left (x y : Option Itm) : combO (combO x y) x = combO x y := by
  cases x with
  | none => rw [combO_none]
  | some x =>
    cases y with
    | none => exact combO_self _
    | some y =>
      cases h : beatsI y x
      · rw [combO_no h]; exact combO_self _
      · rw [combO_yes h]; exact combO_no (beatsI_asymm h)
theorem combO_right (x y : Option Itm) : combO (combO x y) y = combO x y := by rw [combO_assoc, combO_self]
def keepO (p : Itm → Bool) (x : Itm) : Option Itm := match p x with
  | true => some x
  | false => none
theorem keepO_yes {p : Itm → Bool} {x : Itm} (h : p x = true) : keepO p x = some x := by unfold keepO; rw [h]
theorem keepO_no {p : Itm → Bool} {x : Itm} (h : p x = false) : keepO p x = none := by unfold keepO; rw [h]
def bestF (p : Itm → Bool) (l : List Itm) : Option Itm := l.foldl (fun o x => combO o (keepO p x)) none
theorem bestF_from (p : Itm → Bool) : ∀ (l : List Itm) (o : Option Itm), l.foldl (fun o x => combO o (keepO p x)) o = combO o (bestF p l)
  | [], o => (combO_none o).symm
  | x :: l, o => by
    unfold bestF
    rw [List.foldl_cons, List.foldl_cons, bestF_from p l, bestF_from p l, combO_assoc]; rfl
theorem bestF_append (p : Itm → Bool) (a b : List Itm) : bestF p (a ++ b) = combO (bestF p a) (bestF p b) := by
  unfold bestF
  rw [List.foldl_append]
  exact bestF_from p b _
theorem bestF_one (p : Itm → Bool) (x : Itm) : bestF p [x] = keepO p x := rfl
theorem bestF_take {p : Itm → Bool} {l : List Itm} {k : Nat} {x : Itm} (h : l[k]? = some x) : bestF p (l.take (k + 1)) = combO (bestF p (l.take k)) (keepO p x) := by
  rw [List.take_add_one, h, Option.toList_some, bestF_append, bestF_one]
theorem bestF_mem {p : Itm → Bool} : ∀ {l : List Itm} {x : Itm}, bestF p l = some x → x ∈ l ∧ p x = true := by
  intro l
  induction l with
  | nil => intro x h; cases h
  | cons y l ih =>
    intro x h
    rw [show y :: l = [y] ++ l from rfl, bestF_append, bestF_one] at h
    cases hp : p y with
    | false =>
      rw [keepO_no hp] at h
      exact ⟨List.mem_cons_of_mem _ (ih h).1, (ih h).2⟩
    | true =>
      rw [keepO_yes hp] at h
      cases hb : bestF p l with
      | none =>
        rw [hb, combO_none] at h
        cases h
        exact ⟨List.mem_cons_self .., hp⟩
      | some z =>
        rw [hb] at h
        cases hz : beatsI z y
        · rw [combO_no hz] at h; cases h; exact ⟨List.mem_cons_self .., hp⟩
        · rw [combO_yes hz] at h; cases h; exact ⟨List.mem_cons_of_mem _ (ih hb).1, (ih hb).2⟩
def ofK (k : List UInt8) (x : Itm) : Bool := rightI x && decide (x.key = k)
theorem ofK_iff {k : List UInt8} {x : Itm} : ofK k x = true ↔ rightI x = true ∧ x.key = k := by
  unfold ofK; rw [Bool.and_eq_true, decide_eq_true_eq]
def bestK (l : List Itm) (k : List UInt8) : Option Itm := bestF (ofK k) l
def listI : List Itm → Bool
  | [] => true
  | [x] => rightI x
  | x :: y :: l => rightI x && (ltB x.key y.key && listI (y :: l))
theorem listI_head {x : Itm} {l : List Itm} (h : listI (x :: l) = true) : rightI x = true := by
  cases l with
  | nil => exact h
  | cons y l => rw [listI, Bool.and_eq_true] at h; exact h.1
theorem listI_tail {x : Itm} {l : List Itm} (h : listI (x :: l) = true) : listI l = true := by
  cases l with
  | nil => rfl
  | cons y l => rw [listI, Bool.and_eq_true, Bool.and_eq_true] at h; exact h.2.2
theorem listI_above : ∀ {l : List Itm} {x y : Itm}, listI (x :: l) = true → y ∈ l → ltB x.key y.key = true
  | [], _, _, _, h => by cases h
  | z :: l, x, y, h, hy => by
    have h0 := h
    rw [listI, Bool.and_eq_true, Bool.and_eq_true] at h
    rcases List.mem_cons.1 hy with rfl | hy
    · exact h.2.1
    · exact ltB_trans h.2.1 (listI_above h.2.2 hy)
theorem listI_cons {x : Itm} {l : List Itm} (hx : rightI x = true) (hl : listI l = true) (h : ∀ y ∈ l, ltB x.key y.key = true) : listI (x :: l) = true := by
  cases l with
  | nil => exact hx
  | cons y l => rw [listI, hx, hl, h y (List.mem_cons_self ..)]; rfl
def findK (l : List Itm) (k : List UInt8) : Option Itm := l.find? fun x => decide (x.key = k)
theorem findK_nil (k : List UInt8) : findK [] k = none := rfl
theorem findK_yes {x : Itm} {l : List Itm} {k : List UInt8} (h : x.key = k) : findK (x :: l) k = some x := by unfold findK; rw [List.find?_cons, decide_eq_true h]
theorem findK_no {x : Itm} {l : List Itm} {k : List UInt8} (h : x.key ≠ k) : findK (x :: l) k = findK l k := by unfold findK; rw [List.find?_cons, decide_eq_false h]
theorem findK_mem {l : List Itm} {k : List UInt8} {x : Itm} (h : findK l k = some x) : x ∈ l ∧ x.key = k := by
  unfold findK at h
  exact ⟨List.mem_of_find?_eq_some h, by simpa using List.find?_some h⟩
theorem findK_has : ∀ {l : List Itm} {x : Itm}, listI l = true → x ∈ l → findK l x.key = some x
  | [], _, _, h => by cases h
  | y :: l, x, h, hx => by
    rcases List.mem_cons.1 hx with rfl | hx
    · exact findK_yes rfl
    · rw [findK_no fun e => by have := listI_above h hx; rw [e, ltB_irrefl] at this; cases this]
      exact findK_has (listI_tail h) hx
theorem ltB_neq {a b : List UInt8} (h : ltB a b = true) : a ≠ b := fun e => by rw [e, ltB_irrefl] at h; cases h
theorem listI_unique : ∀ {a b : List Itm}, listI a = true → listI b = true → (∀ k, findK a k = findK b k) → a = b
  | [], [], _, _, _ => rfl
  | [], y :: b, _, _, h => by have := h y.key; rw [findK_yes rfl] at this; cases this
  | x :: a, [], _, _, h => by have := h x.key; rw [findK_yes rfl] at this; cases this
  | x :: a, y :: b, ha, hb, h => by
    have e : x = y := by
      have h1 := h x.key
      have h2 := h y.key
      rw [findK_yes rfl] at h1 h2
      rcases List.mem_cons.1 (findK_mem h1.symm).1 with e | hm
      · exact e
      · rcases List.mem_cons.1 (findK_mem h2).1 with e | hm'
        · exact e.symm
        · have g1 := listI_above hb hm
          have g2 := listI_above ha hm'
          rw [ltB_asymm g1] at g2; cases g2
    subst e
    rw [listI_unique (listI_tail ha) (listI_tail hb) fun k => by
      by_cases hk : x.key = k
      · have n1 : findK a k = none := by
          cases hf : findK a k with
          | none => rfl
          | some z => exact absurd (hk.trans (findK_mem hf).2.symm) (ltB_neq (listI_above ha (findK_mem hf).1))
        have n2 : findK b k = none := by
          cases hf : findK b k with
          | none => rfl
          | some z => exact absurd (hk.trans (findK_mem hf).2.symm) (ltB_neq (listI_above hb (findK_mem hf).1))
        rw [n1, n2]
      · have := h k
        rwa [findK_no hk, findK_no hk] at this]
theorem bestK_list : ∀ {l : List Itm}, listI l = true → ∀ k, bestK l k = findK l k
  | [], _, _ => rfl
  | x :: l, h, k => by
    unfold bestK
    rw [show x :: l = [x] ++ l from rfl, bestF_append, bestF_one]
    have ih := bestK_list (listI_tail h) k
    unfold bestK at ih
    rw [ih, show [x] ++ l = x :: l from rfl]
    by_cases hk : x.key = k
    · have n1 : findK l k = none := by
        cases hf : findK l k with
        | none => rfl
        | some z => exact absurd (hk.trans (findK_mem hf).2.symm) (ltB_neq (listI_above h (findK_mem hf).1))
      rw [keepO_yes (ofK_iff.2 ⟨listI_head h, hk⟩), findK_yes hk, n1]; rfl
    · have : ofK k x = false := by unfold ofK; rw [decide_eq_false hk, Bool.and_false]
      rw [keepO_no this, findK_no hk]; rfl
def putIm : List Itm → Itm → List Itm
  | [], x => [x]
  | y :: l, x => match ltB x.key y.key with
    | true => x :: y :: l
    | false => match decide (x.key = y.key) with
      | true => (match beatsI x y with | true => x :: l | false => y :: l)
      | false => y :: putIm l x
theorem putIm_mem {l : List Itm} {x y : Itm} (h : y ∈ putIm l x) : y = x ∨ y ∈ l := by
  induction l with
  | nil => simp [putIm] at h; exact .inl h
  | cons z l ih =>
    rw [putIm] at h
    cases h1 : ltB x.key z.key
    · rw [h1] at h
      replace h : y ∈ (match decide (x.key = z.key) with | true => (match beatsI x z with | true => x :: l | false => z :: l) | false => z :: putIm l x) := h
      by_cases h2 : x.key = z.key
      · rw [decide_eq_true h2] at h
        replace h : y ∈ (match beatsI x z with | true => x :: l | false => z :: l) := h
        cases h3 : beatsI x z
        · rw [h3] at h; exact .inr h
        · rw [h3] at h
          rcases List.mem_cons.1 h with rfl | h
          · exact .inl rfl
          · exact .inr (List.mem_cons_of_mem _ h)
      · rw [decide_eq_false h2] at h
        rcases List.mem_cons.1 h with rfl | h
        · exact .inr (List.mem_cons_self ..)
        · rcases ih h with e | h
          · exact .inl e
          · exact .inr (List.mem_cons_of_mem _ h)
    · rw [h1] at h
      rcases List.mem_cons.1 h with rfl | h
      · exact .inl rfl
      · exact .inr h
theorem putIm_list {l : List Itm} {x : Itm} (hl : listI l = true) (hx : rightI x = true) : listI (putIm l x) = true := by
  induction l with
  | nil => exact hx
  | cons z l ih =>
    rw [putIm]
    cases h1 : ltB x.key z.key
    · show listI (match decide (x.key = z.key) with | true => (match beatsI x z with | true => x :: l | false => z :: l) | false => z :: putIm l x) = true
      by_cases h2 : x.key = z.key
      · rw [decide_eq_true h2]
        show listI (match beatsI x z with | true => x :: l | false => z :: l) = true
        cases beatsI x z
        · exact hl
        · exact listI_cons hx (listI_tail hl) fun y hy => by rw [h2]; exact listI_above hl hy
      · rw [decide_eq_false h2]
        refine listI_cons (listI_head hl) (ih (listI_tail hl)) fun y hy => ?_
        rcases putIm_mem hy with rfl | hy
        · rcases ltB_three y.key z.key with h | h | h
          · rw [h.1] at h1; cases h1
          · exact h.2.1
          · exact absurd h.2.2 h2
        · exact listI_above hl hy
    · exact listI_cons hx hl fun y hy => by
        rcases List.mem_cons.1 hy with rfl | hy
        · exact h1
        · exact ltB_trans h1 (listI_above hl hy)
theorem putIm_find {l : List Itm} {x : Itm} (hl : listI l = true) (k : List UInt8) : findK (putIm l x) k = match decide (x.key = k) with | true => combO (findK l k) (some x) | false => findK l k := by
  induction l with
  | nil =>
    by_cases hk : x.key = k
    · rw [decide_eq_true hk]; exact findK_yes hk
    · rw [decide_eq_false hk]; exact findK_no hk
  | cons z l ih =>
    have ih := ih (listI_tail hl)
    rw [putIm]
    cases h1 : ltB x.key z.key
    · show findK (match decide (x.key = z.key) with | true => (match beatsI x z with | true => x :: l | false => z :: l) | false => z :: putIm l x) k = _
      by_cases h2 : x.key = z.key
      · rw [decide_eq_true h2]
        show findK (match beatsI x z with | true => x :: l | false => z :: l) k = _
        by_cases hk : x.key = k
        · rw [decide_eq_true hk, findK_yes (h2.symm.trans hk)]
          cases h3 : beatsI x z
          · show findK (z :: l) k = combO (some z) (some x)
            rw [findK_yes (h2.symm.trans hk), combO_no h3]
          · show findK (x :: l) k = combO (some z) (some x)
            rw [findK_yes hk, combO_yes h3]
        · rw [decide_eq_false hk]
          cases beatsI x z
          · rfl
          · show findK (x :: l) k = findK (z :: l) k
            rw [findK_no hk, findK_no fun e => hk (h2.trans e)]
      · rw [decide_eq_false h2]
        show findK (z :: putIm l x) k = _
        by_cases hz : z.key = k
        · rw [findK_yes hz, decide_eq_false fun e => h2 (e.trans hz.symm), findK_yes hz]
        · rw [findK_no hz, ih]
          by_cases hk : x.key = k
          · rw [decide_eq_true hk, findK_no hz]
          · rw [decide_eq_false hk, findK_no hz]
    · show findK (x :: z :: l) k = _
      by_cases hk : x.key = k
      · rw [decide_eq_true hk, findK_yes hk]
        have n1 : findK (z :: l) k = none := by
          cases hf : findK (z :: l) k with
          | none => rfl
          | some y =>
            obtain ⟨m1, m2⟩ := findK_mem hf
            have : ltB x.key y.key = true := by
              rcases List.mem_cons.1 m1 with rfl | m1
              · exact h1
              · exact ltB_trans h1 (listI_above hl m1)
            exact absurd (hk.trans m2.symm) (ltB_neq this)
        rw [n1]; rfl
      · rw [decide_eq_false hk, findK_no hk]
def addI (l : List Itm) (x : Itm) : List Itm := match rightI x with
  | true => putIm l x
  | false => l
def mergeI (l : List Itm) : List Itm := l.foldl addI []
theorem mergeI_from : ∀ (l u : List Itm), listI u = true → listI (l.foldl addI u) = true ∧ ∀ k, findK (l.foldl addI u) k = combO (findK u k) (bestK l k)
  | [], u, h => ⟨h, fun k => (combO_none _).symm⟩
  | x :: l, u, h => by
    rw [List.foldl_cons]
    cases hx : rightI x with
    | false =>
      have e : addI u x = u := by unfold addI; rw [hx]
      rw [e]
      obtain ⟨h1, h2⟩ := mergeI_from l u h
      refine ⟨h1, fun k => ?_⟩
      rw [h2]
      unfold bestK
      have hk : ofK k x = false := by unfold ofK; rw [hx]; rfl
      rw [show x :: l = [x] ++ l from rfl, bestF_append, bestF_one, keepO_no hk]; rfl
    | true =>
      have e : addI u x = putIm u x := by unfold addI; rw [hx]
      rw [e]
      obtain ⟨h1, h2⟩ := mergeI_from l (putIm u x) (putIm_list h hx)
      refine ⟨h1, fun k => ?_⟩
      rw [h2, putIm_find h]
      unfold bestK
      rw [show x :: l = [x] ++ l from rfl, bestF_append, bestF_one]
      by_cases hk : x.key = k
      · rw [decide_eq_true hk, keepO_yes (ofK_iff.2 ⟨hx, hk⟩)]
        exact combO_assoc _ _ _
      · have hk' : ofK k x = false := by unfold ofK; rw [decide_eq_false hk, Bool.and_false]
        rw [decide_eq_false hk, keepO_no hk']; rfl
theorem mergeI_list (l : List Itm) : listI (mergeI l) = true := (mergeI_from l [] rfl).1
theorem mergeI_find (l : List Itm) (k : List UInt8) : findK (mergeI l) k = bestK l k := (mergeI_from l [] rfl).2 k
theorem mergeI_unique {l u : List Itm} (h : listI u = true) (hf : ∀ k, findK u k = bestK l k) : u = mergeI l := listI_unique h (mergeI_list l) fun k => by rw [hf, mergeI_find]
theorem bestK_append (a b : List Itm) (k : List UInt8) : bestK (a ++ b) k = combO (bestK a k) (bestK b k) := bestF_append _ _ _
theorem bestK_merge (l : List Itm) (k : List UInt8) : bestK (mergeI l) k = bestK l k := by rw [bestK_list (mergeI_list l), mergeI_find]
theorem mergeI_same {a b : List Itm} (h : ∀ k, bestK a k = bestK b k) : mergeI a = mergeI b := listI_unique (mergeI_list a) (mergeI_list b) fun k => by rw [mergeI_find, mergeI_find, h]
theorem mergeI_self {l : List Itm} (h : listI l = true) : mergeI l = l := (mergeI_unique h fun k => (bestK_list h k).symm).symm
theorem mergeI_left (a b : List Itm) : mergeI (mergeI a ++ b) = mergeI (a ++ b) := mergeI_same fun k => by rw [bestK_append, bestK_append, bestK_merge]
theorem mergeI_right (a b : List Itm) : mergeI (a ++ mergeI b) = mergeI (a ++ b) := mergeI_same fun k => by rw [bestK_append, bestK_append, bestK_merge]
theorem mergeI_twice (a : List Itm) : mergeI (mergeI a ++ mergeI a) = mergeI a := by
  rw [← mergeI_self (mergeI_list a)]
  refine mergeI_same fun k => ?_
  rw [mergeI_self (mergeI_list a), bestK_append, combO_self]
theorem mergeI_again (a b : List Itm) : mergeI (mergeI (a ++ b) ++ (a ++ (b ++ mergeI (a ++ b)))) = mergeI (a ++ b) := mergeI_same fun k => by
  rw [bestK_append, bestK_append, bestK_append, bestK_merge, bestK_append]
  rw [← combO_assoc, combO_left, ← combO_assoc, combO_right, combO_self]
end Go.Proofs.Ytfjaklpddcafdaa

namespace Go.Proofs.Ytfjaklpddcafdaa
open Go.RowKit

def RowAt (w : World) (B : Nat) (A : Option Addr) (xs : List Value) : Prop :=
  xs = [] ∨ ∃ b o, A = some ⟨b, o, none⟩ ∧ b < B ∧ ∀ k u, xs[k]? = some u → w.cell? ⟨b, o + k, none⟩ = some u

theorem RowAt.nil (w : World) (B : Nat) (A : Option Addr) : RowAt w B A [] := .inl rfl
theorem RowAt.keep {w w' : World} {B : Nat} {A : Option Addr} {xs : List Value} (h : RowAt w B A xs) (hk : ∀ p : Addr, p.block < B → w'.cell? p = w.cell? p) : RowAt w' B A xs := by
  rcases h with h | ⟨b, o, h1, h2, h3⟩
  · exact .inl h
  · exact .inr ⟨b, o, h1, h2, fun k u hu => (hk _ h2).trans (h3 k u hu)⟩
theorem RowAt.below {w w' : World} {B : Nat} {A : Option Addr} {xs : List Value} (h : RowAt w B A xs) (hb : Below B w w') : RowAt w' B A xs := h.keep fun _ hp => hb.cell hp
theorem RowAt.more {w : World} {B B' : Nat} {A : Option Addr} {xs : List Value} (h : RowAt w B A xs) (hB : B ≤ B') : RowAt w B' A xs := by
  rcases h with h | ⟨b, o, h1, h2, h3⟩
  · exact .inl h
  · exact .inr ⟨b, o, h1, by omega, h3⟩

def AllI64 (l : List Int) : Prop := ∀ x ∈ l, -9223372036854775808 ≤ x ∧ x ≤ 9223372036854775807
theorem AllI64.at_ {l : List Int} (h : AllI64 l) {k : Nat} (hk : k < l.length) : -9223372036854775808 ≤ l.getD k 0 ∧ l.getD k 0 ≤ 9223372036854775807 := by
  have := h (l[k]) (List.getElem_mem hk)
  simpa [List.getD, List.getElem?_eq_getElem hk] using this
theorem ret_bool {a b : Bool} (h : a = b) : Ending.returned (.bool a) = .returned (.bool b) := by rw [h]
end Go.Proofs.Ytfjaklpddcafdaa

namespace Go.Proofs.Ytfjaklpddcafdaa
open Go.RowKit

section
variable {P : Program} (w : World)

theorem append_row (base : Nat) (t ty e : TypeId) (i : TypeInfo) (z : Value) (size bytes : Nat) (ht : P.underlying t = some (.slice e)) (hi : P.info? e = some i) (hz : i.zero = some z)
    (hsize : i.size = size) (hby : i.bytes = bytes) (hzs : z.cells.size = size) (hsz : 0 < size)
    (v : Value) (n : Nat) (xs : List Value) (hown : w.ownsRow base e size v n xs)
    (B : Nat) (A : Option Addr) (m c : Nat) (news : List Value) (hl : news.length = m * size) (hr : RowAt w B A news) (h1 : ∀ u ∈ news, u.oneCell' = true)
    (h63 : n + m ≤ maxLen) (hbytes : (n + m) * bytes ≤ 140737488355328) (hbase : base ≤ w.heap.size) :
    ∃ v' w', (Builtin.append_ #[t, t] ty #[v, .slice A m c]).run P w = .ok v' w' ∧ w'.ownsRow base e size v' (n + m) (xs ++ news) ∧ w.grownBy w' v.ownBlock ∧
      (v'.ownBlock = v.ownBlock ∨ v'.ownBlock = some w.heap.size) := by
  cases A with
  | none =>
    have hn : news = [] := by
      rcases hr with h | ⟨b, o, h, _⟩
      · exact h
      · cases h
    have hm : m = 0 := by
      rw [hn] at hl
      rcases Nat.eq_zero_or_pos m with h | h
      · exact h
      · have := Nat.mul_pos h hsz
        simp at hl
        omega
    subst hm
    subst hn
    refine ⟨v, w, ?_, by simpa using hown, World.grownBy.refl w _, .inl rfl⟩
    rcases hown.2 with ⟨rfl, rfl⟩ | ⟨g, cap, cur, rfl, _, _, hnc, _⟩
    · simp [Builtin.append_, run_underlying ht, sizeOf, typeInfo, hi, Builtin.lenOf, Builtin.firstCells]
    · simp [Builtin.append_, run_underlying ht, sizeOf, typeInfo, hi, Builtin.lenOf, Builtin.firstCells, hnc, storeCells]
  | some ad =>
    have hcells : ∀ j u, news[j]? = some u → w.cell? (ad.add j) = some u := by
      intro j u hu
      rcases hr with h | ⟨b, o, h, _, hc⟩
      · rw [h] at hu; simp at hu
      · injection h with h
        subst h
        rw [Go.WideShapes.add_plain]
        exact hc j u hu
    obtain ⟨v', w', hrun, h2, h3, -, h5⟩ := run_append_own_at (P := P) w base t ty e i z size bytes ht hi hz hsize hby hzs hsz v n xs hown ad m c news hl hcells h1 h63 hbytes hbase
    exact ⟨v', w', hrun, h2, h3, h5⟩

theorem wp_append_row {o : Oper} {a : Act} {K : Act → World → Prop} {Q : Exit → Act → World → Prop} (s x : Operand) (t : TypeId)
    (ho : o.op = .call { callee := .builtin .append, args := #[s, x], argTypes := #[t, t] })
    (base : Nat) (e : TypeId) (i : TypeInfo) (z : Value) (size bytes : Nat) (ht : P.underlying t = some (.slice e)) (hi : P.info? e = some i) (hz : i.zero = some z)
    (hsize : i.size = size) (hby : i.bytes = bytes) (hzs : z.cells.size = size) (hsz : 0 < size)
    (v : Value) (n : Nat) (xs : List Value) (hs : a.eval s = v) (hown : w.ownsRow base e size v n xs)
    (B : Nat) (A : Option Addr) (m c : Nat) (news : List Value) (hx : a.eval x = .slice A m c) (hl : news.length = m * size) (hr : RowAt w B A news) (h1 : ∀ u ∈ news, u.oneCell' = true)
    (h63 : n + m ≤ maxLen) (hbytes : (n + m) * bytes ≤ 140737488355328) (hbase : base ≤ w.heap.size)
    (h : ∀ v' w', w'.ownsRow base e size v' (n + m) (xs ++ news) → w.grownBy w' v.ownBlock → (v'.ownBlock = v.ownBlock ∨ v'.ownBlock = some w.heap.size) → K (a.put o.dst v') w') : o.wp P a w K Q := by
  obtain ⟨v', w', hrun, h2, h3, h4⟩ := append_row (P := P) w base t o.type e i z size bytes ht hi hz hsize hby hzs hsz v n xs hown B A m c news hl hr h1 h63 hbytes hbase
  unfold Oper.wp execOp
  simp only [ho, resolve, invoke, builtin, Sem.run_bind, Sem.run_pure, Result.andThen_ok, List.map_toArray, List.map_cons, List.map_nil, hs, hx, hrun]
  exact h v' w' h2 h3 h4

end

theorem RowAt.of_own {w : World} {base : Nat} {e : TypeId} {size n c : Nat} {A : Option Addr} {xs : List Value} (h : w.ownsRow base e size (.slice A n c) n xs) : RowAt w w.heap.size A xs := by
  rcases h.2 with ⟨_, h0⟩ | ⟨g, cap, cur, hv, _, hg, _, _, _, ht⟩
  · left
    have := h.1
    rw [h0, Nat.zero_mul] at this
    exact List.eq_nil_of_length_eq_zero this
  · injection hv with hA _ _
    have hlt : g < w.heap.size := by
      rcases Nat.lt_or_ge g w.heap.size with hlt | hge
      · exact hlt
      · rw [Array.getElem?_eq_none hge] at hg; cases hg
    refine .inr ⟨g, 0, hA, hlt, fun k u hu => ?_⟩
    rw [cell_of_row _ _ _ cur e (0, 0) hg, ← Array.getElem?_toList]
    rw [← ht] at hu
    rw [List.getElem?_take] at hu
    split at hu
    · simpa using hu
    · cases hu
theorem own_form {w : World} {base : Nat} {e : TypeId} {size n : Nat} {v : Value} {xs : List Value} (h : w.ownsRow base e size v n xs) : ∃ A c, v = .slice A n c ∧ n ≤ c := by
  rcases h.2 with ⟨rfl, rfl⟩ | ⟨g, cap, cur, rfl, _, _, hc, _⟩
  · exact ⟨none, 0, rfl, Nat.le_refl _⟩
  · exact ⟨_, cap, rfl, hc⟩
end Go.Proofs.Ytfjaklpddcafdaa

namespace Go.Proofs.Ytfjaklpddcafdaa
open Go.RowKit

abbrev bytes (l : List UInt8) : List Value := l.map fun c => Value.int .u8 (c.toNat : Int)
theorem bytes_len (l : List UInt8) : (bytes l).length = l.length * 1 := by simp
def str (l : List UInt8) : ByteArray := ⟨l.toArray⟩
theorem str_size (l : List UInt8) : (str l).size = l.length := by simp [str, ByteArray.size]
theorem str_data (l : List UInt8) : (str l).data.toList = l := by simp [str]
theorem str_toList (l : List UInt8) : (str l).toList = l := by rw [ByteArray.toList_eq, str_data]
theorem str_of (s : ByteArray) : str s.data.toList = s := by simp [str]
theorem str_get (l : List UInt8) (k : Nat) (h : k < l.length) : (str l)[k]'(by rw [str_size]; exact h) = l.getD k 0 := by
  show l.toArray[k]'(by simpa using h) = _
  simp [List.getD, List.getElem?_eq_getElem h]
def OwnB (w : World) (base : Nat) (v : Value) (l : List UInt8) : Prop := w.ownsRow base 5 1 v l.length (bytes l)
theorem OwnB.row {w : World} {base : Nat} {v : Value} {l : List UInt8} (h : OwnB w base v l) : w.ownsRow base 5 1 v l.length (bytes l) := h
theorem OwnB.of_row {w : World} {base n : Nat} {v : Value} {l : List UInt8} (h : w.ownsRow base 5 1 v n (bytes l)) : OwnB w base v l := by
  have := h.1
  rw [bytes_len] at this
  obtain rfl : l.length = n := by omega
  exact h
theorem OwnB.form {w : World} {base : Nat} {v : Value} {l : List UInt8} (h : OwnB w base v l) : ∃ A c, v = .slice A l.length c ∧ l.length ≤ c ∧ c ≤ maxLen ∧ RowAt w w.heap.size A (bytes l) ∧ (∀ k, v.ownBlock = some k → base ≤ k ∧ k < w.heap.size) := by
  obtain ⟨A, c, rfl, hc⟩ := own_form h
  refine ⟨A, c, rfl, hc, ?_, RowAt.of_own h, World.ownsRow.lt h⟩
  rcases h.2 with ⟨hv, _⟩ | ⟨g, cap, cur, hv, _, _, _, hm, _⟩
  · injection hv with _ _ h3
    subst h3
    exact Nat.zero_le _
  · injection hv with _ _ h3
    subst h3
    exact hm
structure RdB (w : World) (B : Nat) (A : Option Addr) (c : Nat) (l : List UInt8) : Prop where
  row : RowAt w B A (bytes l)
  room : l.length ≤ c
  cap : c ≤ maxLen
theorem RdB.keep {w w' : World} {B : Nat} {A : Option Addr} {c : Nat} {l : List UInt8} (h : RdB w B A c l) (hk : ∀ p : Addr, p.block < B → w'.cell? p = w.cell? p) : RdB w' B A c l := ⟨h.row.keep hk, h.room, h.cap⟩
theorem RdB.below {w w' : World} {B : Nat} {A : Option Addr} {c : Nat} {l : List UInt8} (h : RdB w B A c l) (hb : Below B w w') : RdB w' B A c l := ⟨h.row.below hb, h.room, h.cap⟩
theorem RdB.more {w : World} {B B' : Nat} {A : Option Addr} {c : Nat} {l : List UInt8} (h : RdB w B A c l) (hB : B ≤ B') : RdB w B' A c l := ⟨h.row.more hB, h.room, h.cap⟩
theorem OwnB.read {w : World} {base : Nat} {v : Value} {l : List UInt8} (h : OwnB w base v l) : ∃ A c, v = .slice A l.length c ∧ RdB w w.heap.size A c l := by
  obtain ⟨A, c, h1, h2, h3, h4, _⟩ := h.form
  exact ⟨A, c, h1, h4, h2, h3⟩
theorem heap_new (w : World) (o : Obj) (g : Nat) (h : g = w.heap.size) : (w.alloc o).heap[g]? = some o := by subst h; exact heap_alloc_new w o
theorem RowAt.of_block {w : World} {g : Nat} {cs : Array Value} {t : TypeId} {f : Nat × Nat} (h : w.heap[g]? = some (.cells cs t f)) : RowAt w (g + 1) (some ⟨g, 0, none⟩) cs.toList := by
  refine .inr ⟨g, 0, rfl, by omega, fun k u hu => ?_⟩
  rw [cell_of_row _ _ _ cs t f h]
  simpa using hu
theorem own_none (w : World) (e : TypeId) (size : Nat) : (w.alloc (.cells #[] e)).ownsRow w.heap.size e size (.slice (some ⟨w.heap.size, 0, none⟩) 0 0) 0 [] :=
  ⟨by simp, .inr ⟨w.heap.size, 0, #[], rfl, Nat.le_refl _, heap_alloc_new w _, Nat.le_refl _, Nat.zero_le _, by simp, by simp⟩⟩
theorem bcell {B : Nat} {W w1 : World} (hb : Below B W w1) : (∀ b o, b < B → w1.cell? ⟨b, o, none⟩ = W.cell? ⟨b, o, none⟩) ∧ (∀ b o, b < B → w1.frozen? ⟨b, o, none⟩ = W.frozen? ⟨b, o, none⟩) :=
  ⟨fun b o h => hb.cell (p := ⟨b, o, none⟩) h, fun b o h => hb.frozen (p := ⟨b, o, none⟩) h⟩
theorem grown_of_below {w w' : World} (h : Below w.heap.size w w') (row : Option Nat) : w.grownBy w' row := ⟨h.os, h.tape, h.output, h.size, fun k hk _ => h.block k hk⟩

theorem OwnB.alloc {w : World} {base : Nat} {v : Value} {l : List UInt8} (h : OwnB w base v l) (o : Obj) : OwnB (w.alloc o) base v l := World.ownsRow.alloc h o
theorem OwnB.kept {w w' : World} {row : Option Nat} {base : Nat} {v : Value} {l : List UInt8} (h : OwnB w base v l) (hg : w.grownBy w' row) (hne : v.ownBlock = none ∨ v.ownBlock ≠ row) : OwnB w' base v l := World.ownsRow.kept h hg hne
theorem OwnB.lt {w : World} {base : Nat} {v : Value} {l : List UInt8} (h : OwnB w base v l) : ∀ k, v.ownBlock = some k → base ≤ k ∧ k < w.heap.size := World.ownsRow.lt h
theorem OwnB.below {w w' : World} {base : Nat} {v : Value} {l : List UInt8} (h : OwnB w base v l) (hb : Below w.heap.size w w') : OwnB w' base v l :=
  h.kept (grown_of_below hb none) (by cases hv : v.ownBlock <;> simp)
theorem OwnB.mono {w : World} {base base' : Nat} {v : Value} {l : List UInt8} (h : OwnB w base v l) (hb : base' ≤ base) : OwnB w base' v l := by
  obtain ⟨h1, h2⟩ := h
  refine ⟨h1, ?_⟩
  rcases h2 with h2 | ⟨g, cap, cur, hv, hg, r⟩
  · exact .inl h2
  · exact .inr ⟨g, cap, cur, hv, by omega, r⟩

end Go.Proofs.Ytfjaklpddcafdaa

namespace Go.Proofs.Ytfjaklpddcafdaa
open Go.RowKit

theorem grownBy_set (w : World) (b o : Nat) (v : Value) : w.grownBy (w.setCell ⟨b, o, none⟩ v) (some b) :=
  ⟨rfl, rfl, rfl, by simp [World.setCell], fun k _ hne => Below.heap_setCell _ _ _ _ (fun e => hne (by rw [e]))⟩
theorem below_drewN {B : Nat} {a w : World} (h : Below B a w) (n : Nat) : Below B a (w.drewN n) := ⟨h.os, h.tape, h.output, h.size, h.block⟩
theorem below_quiet {B : Nat} {w w' : World} {n : Nat} (h : w' = w.drewN n) : Below B w w' := h ▸ below_drewN (Below.refl _ _) _
theorem RdB.quiet {w w' : World} {B c : Nat} {A : Option Addr} {l : List UInt8} (h : RdB w B A c l) (hg : w.grownBy w' none) (hB : B ≤ w.heap.size) : RdB w' B A c l :=
  h.keep fun p hp => World.cell?_of_block (hg.block p.block (by omega) (by simp))
theorem OwnB.other {w w' : World} {base r : Nat} {v : Value} {l : List UInt8} (h : OwnB w base v l) (hg : w.grownBy w' (some r)) (hr : r < base) : OwnB w' base v l :=
  h.kept hg (by
    cases hv : v.ownBlock with
    | none => exact .inl rfl
    | some k => exact .inr (fun e => by have := (h.lt k hv).1; injection e with e; omega))
theorem OwnB.read_n {w : World} {base n : Nat} {v : Value} {l : List UInt8} (h : OwnB w base v l) (hn : n = l.length) : ∃ A c, v = .slice A n c ∧ RdB w w.heap.size A c l := by
  subst hn; exact h.read
theorem OwnB.stored {w : World} {base g n c : Nat} {l : List UInt8} (h : OwnB w base (.slice (some ⟨g, 0, none⟩) n c) l) (hn : n = l.length) (j : Nat) (x : UInt8) :
    OwnB (w.setCell ⟨g, j, none⟩ (.int .u8 (x.toNat : Int))) base (.slice (some ⟨g, 0, none⟩) n c) (l.set j x) := by
  subst hn
  have := (World.ownsRow.stored h j (.int .u8 (x.toNat : Int))).1
  rw [show (bytes l).set j (.int .u8 (x.toNat : Int)) = bytes (l.set j x) by simp [bytes, List.map_set]] at this
  exact OwnB.of_row this
end Go.Proofs.Ytfjaklpddcafdaa

namespace Go.Proofs.Ytfjaklpddcafdaa

structure Rng where
  lo : List UInt8
  hi : List UInt8
  op : Bool
def zeroR : Rng := ⟨[], [], false⟩
def rightR (r : Rng) : Bool := decide (r.lo.length ≤ 17) && (match r.op with | true => r.hi.isEmpty | false => decide (r.hi.length ≤ 17) && ltB r.lo r.hi)
def aheadR (r : Rng) (s : List UInt8) : Bool := r.op || ltB s r.hi
def hasR (r : Rng) (s : List UInt8) : Bool := rightR r && !ltB s r.lo && aheadR r s
theorem rightR_open {r : Rng} (h : r.op = true) : rightR r = (decide (r.lo.length ≤ 17) && r.hi.isEmpty) := by unfold rightR; rw [h]
theorem rightR_shut {r : Rng} (h : r.op = false) : rightR r = (decide (r.lo.length ≤ 17) && (decide (r.hi.length ≤ 17) && ltB r.lo r.hi)) := by unfold rightR; rw [h]
theorem rightR_lo {r : Rng} (h : rightR r = true) : r.lo.length ≤ 17 := by
  unfold rightR at h; simp only [Bool.and_eq_true, decide_eq_true_eq] at h; exact h.1
theorem rightR_hi {r : Rng} (h : rightR r = true) : r.hi.length ≤ 17 := by
  cases ho : r.op with
  | true => rw [rightR_open ho] at h; simp only [Bool.and_eq_true, List.isEmpty_iff] at h; rw [h.2]; simp
  | false => rw [rightR_shut ho] at h; simp only [Bool.and_eq_true, decide_eq_true_eq] at h; exact h.2.1
theorem rightR_op {r : Rng} (h : rightR r = true) (ho : r.op = true) : r.hi = [] := by
  rw [rightR_open ho] at h; simp only [Bool.and_eq_true, List.isEmpty_iff] at h; exact h.2
theorem rightR_lt {r : Rng} (h : rightR r = true) (ho : r.op = false) : ltB r.lo r.hi = true := by
  rw [rightR_shut ho] at h; simp only [Bool.and_eq_true, decide_eq_true_eq] at h; exact h.2.2
theorem rightR_iff {r : Rng} : rightR r = true ↔ r.lo.length ≤ 17 ∧ r.hi.length ≤ 17 ∧ (r.op = true → r.hi = []) ∧ (r.op = false → ltB r.lo r.hi = true) := by
  constructor
  · intro h; exact ⟨rightR_lo h, rightR_hi h, rightR_op h, rightR_lt h⟩
  · rintro ⟨h1, h2, h3, h4⟩
    cases ho : r.op with
    | true => rw [rightR_open ho, decide_eq_true h1, h3 ho]; rfl
    | false => rw [rightR_shut ho, decide_eq_true h1, decide_eq_true h2, h4 ho]; rfl
theorem rightR_first {r : Rng} (h : rightR r = true) : aheadR r r.lo = true := by
  unfold aheadR
  cases ho : r.op with
  | true => rfl
  | false => rw [rightR_lt h ho]; rfl
def endLt (r t : Rng) : Bool := !r.op && (t.op || ltB r.hi t.hi)
def endsR (r t : Rng) : Int := match rightR r && rightR t with
  | true => (match endLt r t with | true => -1 | false => (match endLt t r with | true => 1 | false => 0))
  | false => 0
theorem endLt_asymm {r t : Rng} (h : endLt r t = true) : endLt t r = false := by
  unfold endLt at h ⊢
  cases ho : r.op <;> cases hp : t.op <;> rw [ho, hp] at h <;> first | (cases h; done) | rfl | skip
  simp only [Bool.not_false, Bool.true_and, Bool.false_or] at h ⊢
  exact ltB_asymm h
theorem endsR_lt {r t : Rng} (hr : rightR r = true) (ht : rightR t = true) (h : endLt r t = true) : endsR r t = -1 := by unfold endsR; rw [hr, ht, h]; rfl
theorem endsR_gt {r t : Rng} (hr : rightR r = true) (ht : rightR t = true) (h : endLt t r = true) : endsR r t = 1 := by unfold endsR; rw [hr, ht, h, endLt_asymm h]; rfl
theorem endsR_eq {r t : Rng} (h : endLt r t = false) (h' : endLt t r = false) : endsR r t = 0 := by unfold endsR; rw [h, h']; cases rightR r && rightR t <;> rfl
theorem endsR_wrong {r t : Rng} (h : (rightR r && rightR t) = false) : endsR r t = 0 := by unfold endsR; rw [h]
theorem end_same {r t : Rng} (hr : rightR r = true) (ht : rightR t = true) (h : endLt r t = false) (h' : endLt t r = false) : r.hi = t.hi ∧ r.op = t.op := by
  unfold endLt at h h'
  cases ho : r.op <;> cases hp : t.op <;> rw [ho, hp] at h h' <;> first | (cases h; done) | (cases h'; done) | skip
  · simp only [Bool.not_false, Bool.true_and, Bool.false_or] at h h'
    exact ⟨ltB_total h h', rfl⟩
  · exact ⟨by rw [rightR_op hr ho, rightR_op ht hp], rfl⟩
end Go.Proofs.Ytfjaklpddcafdaa

namespace Go.Proofs.Ytfjaklpddcafdaa
open Go.RowKit

structure IsR (r : Rng) (S T : ByteArray) (o : Bool) : Prop where
  lo : str r.lo = S
  hi : str r.hi = T
  op : r.op = o
theorem IsR.mk' (r : Rng) : IsR r (str r.lo) (str r.hi) r.op := ⟨rfl, rfl, rfl⟩
theorem below_set3 {B g : Nat} {a w : World} (h : Below B a w) (hg : B ≤ g) (u v x : Value) : Below B a (((w.setCell ⟨g, 0, none⟩ u).setCell ⟨g, 1, none⟩ v).setCell ⟨g, 2, none⟩ x) :=
  ((h.setCell (p := ⟨g, 0, none⟩) hg u).setCell (p := ⟨g, 1, none⟩) hg v).setCell (p := ⟨g, 2, none⟩) hg x
def RgAt (w : World) (g : Nat) (S T : ByteArray) (o : Bool) : Prop := w.cell? ⟨g, 0, none⟩ = some (.string S) ∧ w.cell? ⟨g, 1, none⟩ = some (.string T) ∧ w.cell? ⟨g, 2, none⟩ = some (.bool o) ∧ ∀ k, w.frozen? ⟨g, k, none⟩ = false
theorem RgAt.lt {w : World} {g : Nat} {S T : ByteArray} {o : Bool} (h : RgAt w g S T o) : g < w.heap.size := World.block_lt_of_cell? w _ h.1
theorem RgAt.drew {w : World} {g : Nat} {S T : ByteArray} {o : Bool} (h : RgAt w g S T o) : RgAt w.drew g S T o := h
theorem RgAt.below {w w' : World} {g : Nat} {S T : ByteArray} {o : Bool} (h : RgAt w g S T o) (hb : Below w.heap.size w w') : RgAt w' g S T o := by
  obtain ⟨hc, hf⟩ := bcell hb
  have hl := h.lt
  obtain ⟨h0, h1, h2, h3⟩ := h
  exact ⟨(hc _ _ hl).trans h0, (hc _ _ hl).trans h1, (hc _ _ hl).trans h2, fun k => (hf _ _ hl).trans (h3 k)⟩
theorem RgAt.grown {w w' : World} {row : Option Nat} {g : Nat} {S T : ByteArray} {o : Bool} (h : RgAt w g S T o) (hg : w.grownBy w' row) (hne : some g ≠ row) : RgAt w' g S T o :=
  ⟨hg.cell h.1 hne, hg.cell h.2.1 hne, hg.cell h.2.2.1 hne, fun k => (hg.frozen_far ⟨g, k, none⟩ h.lt hne).trans (h.2.2.2 k)⟩
theorem RgAt.keep {w : World} {g : Nat} {S T : ByteArray} {o : Bool} (h : RgAt w g S T o) (x : Obj) : RgAt (w.alloc x) g S T o := h.below ((Below.refl _ _).alloc (Nat.le_refl _) x)
theorem rgAt_new (w : World) (S T : ByteArray) (o : Bool) (t : TypeId) : RgAt (w.alloc (.cells #[.string S, .string T, .bool o] t)) w.heap.size S T o := by
  have h := heap_new w (.cells #[.string S, .string T, .bool o] t) _ rfl
  refine ⟨?_, ?_, ?_, fun k => ?_⟩
  · rw [cell_of_row _ _ _ _ _ _ h]; rfl
  · rw [cell_of_row _ _ _ _ _ _ h]; rfl
  · rw [cell_of_row _ _ _ _ _ _ h]; rfl
  · unfold World.frozen?; rw [h]; simp
theorem set_other {w : World} {a b : Addr} {u : Value} (h : w.cell? b = some u) (hne : a ≠ b) (v : Value) : (w.setCell a v).cell? b = some u := (World.cell?_setCell_other w a b v hne).trans h
theorem set_same {w : World} {a : Addr} {u : Value} (h : w.cell? a = some u) (v : Value) : (w.setCell a v).cell? a = some v := World.cell?_setCell_same w a v h
theorem addr_block {g g' i j : Nat} (h : g ≠ g') : (⟨g, i, none⟩ : Addr) ≠ ⟨g', j, none⟩ := fun e => h (by injection e)
theorem addr_off {g i j : Nat} (h : i ≠ j) : (⟨g, i, none⟩ : Addr) ≠ ⟨g, j, none⟩ := fun e => h (by injection e)
theorem RgAt.other {w : World} {g : Nat} {S T : ByteArray} {o : Bool} (h : RgAt w g S T o) {g' k : Nat} (hne : g' ≠ g) (v : Value) : RgAt (w.setCell ⟨g', k, none⟩ v) g S T o :=
  ⟨set_other h.1 (addr_block hne) v, set_other h.2.1 (addr_block hne) v, set_other h.2.2.1 (addr_block hne) v, fun j => by rw [World.frozen?_setCell]; exact h.2.2.2 j⟩
theorem RgAt.set0 {w : World} {g : Nat} {S T : ByteArray} {o : Bool} (h : RgAt w g S T o) (X : ByteArray) : RgAt (w.setCell ⟨g, 0, none⟩ (.string X)) g X T o :=
  ⟨set_same h.1 _, set_other h.2.1 (addr_off (i := 0) (j := 1) (by decide)) _, set_other h.2.2.1 (addr_off (i := 0) (j := 2) (by decide)) _, fun j => by rw [World.frozen?_setCell]; exact h.2.2.2 j⟩
theorem RgAt.set1 {w : World} {g : Nat} {S T : ByteArray} {o : Bool} (h : RgAt w g S T o) (X : ByteArray) : RgAt (w.setCell ⟨g, 1, none⟩ (.string X)) g S X o :=
  ⟨set_other h.1 (addr_off (i := 1) (j := 0) (by decide)) _, set_same h.2.1 _, set_other h.2.2.1 (addr_off (i := 1) (j := 2) (by decide)) _, fun j => by rw [World.frozen?_setCell]; exact h.2.2.2 j⟩
theorem RgAt.set2 {w : World} {g : Nat} {S T : ByteArray} {o : Bool} (h : RgAt w g S T o) (p : Bool) : RgAt (w.setCell ⟨g, 2, none⟩ (.bool p)) g S T p :=
  ⟨set_other h.1 (addr_off (i := 2) (j := 0) (by decide)) _, set_other h.2.1 (addr_off (i := 2) (j := 1) (by decide)) _, set_same h.2.2.1 _, fun j => by rw [World.frozen?_setCell]; exact h.2.2.2 j⟩
theorem RgAt.set3 {w : World} {g : Nat} {S T : ByteArray} {o : Bool} (h : RgAt w g S T o) (X Y : ByteArray) (p : Bool) : RgAt (((w.setCell ⟨g, 0, none⟩ (.string X)).setCell ⟨g, 1, none⟩ (.string Y)).setCell ⟨g, 2, none⟩ (.bool p)) g X Y p := ((h.set0 X).set1 Y).set2 p
theorem size1 (w : World) (o : Obj) : (w.alloc o).heap.size = w.heap.size + 1 := by simp

theorem eq_rng (a b c d : ByteArray) (o p : Bool) (w : World) : (Op.equalIn 10000 56 (.agg #[.string a, .string b, .bool o]) (.agg #[.string c, .string d, .bool p])).run Try.prog w = .ok (a.toList == c.toList && b.toList == d.toList && o == p) w := by
  have u3 := Try.underlying9
  have a3 := Try.isAgg9
  have z3 := Try.sizeOf9
  have u4 := Try.underlying4
  have a4 := Try.isAgg4
  have z4 := Try.sizeOf4
  have hS : Try.prog.underlying 56 = some (.struct (Try.prog.fieldsOf 56)) := by kernel_rfl
  have hp : Try.prog.stoodInHeld 56 = false := by kernel_rfl
  rw [show (10000 : Nat) = 9999 + 1 from rfl, run_equalIn_agg w 9999 56 _ _ hS hp]
  simp only [Program.fieldsOf, Try.underlying56]
  go_simp
  by_cases h1 : a.toList = c.toList <;> by_cases h2 : b.toList = d.toList <;> cases o <;> cases p <;> simp [h1, h2]
theorem eq_rng_is (a b c d : ByteArray) (o p q : Bool) (hq : (a.toList == c.toList && b.toList == d.toList && o == p) = q) (w : World) : (Op.equalIn 10000 56 (.agg #[.string a, .string b, .bool o]) (.agg #[.string c, .string d, .bool p])).run Try.prog w = .ok q w := by
  subst hq; exact eq_rng a b c d o p w
end Go.Proofs.Ytfjaklpddcafdaa

namespace Go.Proofs.Ytfjaklpddcafdaa
open Go.RowKit

theorem below_new (w : World) (o : Obj) : Below w.heap.size w (w.alloc o) := (Below.refl _ _).alloc (Nat.le_refl _) o
structure Kind (P : Program) (α : Type) where
  ty : TypeId
  el : TypeId
  size : Nat
  bytes : Nat
  zero : Value
  cells : α → List Value
  len : ∀ x, (cells x).length = size
  one : ∀ x, ∀ u ∈ cells x, u.oneCell' = true
  pos : 0 < size
  under : P.underlying ty = some (.slice el)
  info : (P.info? el).map (fun i => (i.zero, i.size, i.bytes)) = some (some zero, size, bytes)
  zsize : zero.cells.size = size

namespace Kind
variable {P : Program} {α : Type} (k : Kind P α)

def row (l : List α) : List Value := l.flatMap k.cells
theorem row_cons (x : α) (l : List α) : k.row (x :: l) = k.cells x ++ k.row l := rfl
theorem row_append (a b : List α) : k.row (a ++ b) = k.row a ++ k.row b := by simp [row]
theorem row_one (x : α) : k.row [x] = k.cells x := by simp [row]
theorem row_len : ∀ l : List α, (k.row l).length = l.length * k.size
  | [] => by simp [row]
  | x :: l => by rw [row_cons, List.length_append, k.len, row_len l, List.length_cons, Nat.succ_mul, Nat.add_comm]
theorem row_cells (l : List α) : ∀ u ∈ k.row l, u.oneCell' = true := fun u hu => by
  obtain ⟨x, _, hx⟩ := List.mem_flatMap.1 hu
  exact k.one x u hx
theorem row_get : ∀ {l : List α} {i j : Nat} {x : α}, l[i]? = some x → j < k.size → (k.row l)[i * k.size + j]? = (k.cells x)[j]?
  | [], i, j, x, h, _ => by cases h
  | y :: l, 0, j, x, h, hj => by
    simp only [List.getElem?_cons_zero, Option.some.injEq] at h
    subst h
    rw [row_cons, Nat.zero_mul, Nat.zero_add, List.getElem?_append_left (by rw [k.len]; exact hj)]
  | y :: l, i + 1, j, x, h, hj => by
    rw [List.getElem?_cons_succ] at h
    rw [row_cons, List.getElem?_append_right (by rw [k.len, Nat.succ_mul]; omega), k.len, ← row_get h hj, Nat.succ_mul]
    congr 1; omega
theorem row_set : ∀ {l : List α} {i j : Nat} {x y : α} {v : Value}, l[i]? = some x → j < k.size → (k.cells x).set j v = k.cells y → (k.row l).set (i * k.size + j) v = k.row (l.set i y)
  | [], i, j, x, y, v, h, _, _ => by cases h
  | z :: l, 0, j, x, y, v, h, hj, he => by
    simp only [List.getElem?_cons_zero, Option.some.injEq] at h
    subst h
    rw [row_cons, Nat.zero_mul, Nat.zero_add, List.set_append_left _ _ (by rw [k.len]; exact hj), he, List.set_cons_zero, row_cons]
  | z :: l, i + 1, j, x, y, v, h, hj, he => by
    rw [List.getElem?_cons_succ] at h
    rw [row_cons, List.set_append_right _ _ (by rw [k.len, Nat.succ_mul]; omega), List.set_cons_succ, row_cons, ← row_set h hj he, k.len]
    congr 2
    rw [Nat.succ_mul]; omega

theorem row_take : ∀ (l : List α) (i : Nat), k.row (l.take i) = (k.row l).take (i * k.size)
  | [], i => by simp [row]
  | x :: l, 0 => by simp [row]
  | x :: l, i + 1 => by
    have e : (i + 1) * k.size = (k.cells x).length + i * k.size := by rw [k.len, Nat.succ_mul, Nat.add_comm]
    rw [List.take_succ_cons, row_cons, row_cons, row_take l i, e, List.take_length_add_append]
theorem row_drop : ∀ (l : List α) (i : Nat), k.row (l.drop i) = (k.row l).drop (i * k.size)
  | [], i => by simp [row]
  | x :: l, 0 => by simp [row]
  | x :: l, i + 1 => by
    have e : (i + 1) * k.size = (k.cells x).length + i * k.size := by rw [k.len, Nat.succ_mul, Nat.add_comm]
    rw [List.drop_succ_cons, row_cons, row_drop l i, e, List.drop_length_add_append]

structure Rd (w : World) (B : Nat) (A : Option Addr) (c : Nat) (l : List α) : Prop where
  row : RowAt w B A (k.row l)
  room : l.length ≤ c
  cap : c ≤ maxLen
variable {k}
theorem Rd.keep {w w' : World} {B : Nat} {A : Option Addr} {c : Nat} {l : List α} (h : k.Rd w B A c l) (hk : ∀ p : Addr, p.block < B → w'.cell? p = w.cell? p) : k.Rd w' B A c l := ⟨h.row.keep hk, h.room, h.cap⟩
theorem Rd.below {w w' : World} {B : Nat} {A : Option Addr} {c : Nat} {l : List α} (h : k.Rd w B A c l) (hb : Below B w w') : k.Rd w' B A c l := ⟨h.row.below hb, h.room, h.cap⟩
theorem Rd.more {w : World} {B B' : Nat} {A : Option Addr} {c : Nat} {l : List α} (h : k.Rd w B A c l) (hB : B ≤ B') : k.Rd w B' A c l := ⟨h.row.more hB, h.room, h.cap⟩
theorem Rd.call {w w' : World} {A : Option Addr} {c : Nat} {l : List α} (h : k.Rd w w.heap.size A c l) (hb : Below w.heap.size w w') : k.Rd w' w'.heap.size A c l := (h.below hb).more hb.size
theorem Rd.drewN {w : World} {B : Nat} {A : Option Addr} {c : Nat} {l : List α} (h : k.Rd w B A c l) (n : Nat) : k.Rd (w.drewN n) B A c l := ⟨h.row, h.room, h.cap⟩
theorem Rd.nil (w : World) (B : Nat) : k.Rd w B none 0 [] := ⟨.inl rfl, Nat.le_refl _, Nat.zero_le _⟩
theorem Rd.at_ {w : World} {B : Nat} {A : Option Addr} {c : Nat} {l : List α} (h : k.Rd w B A c l) (hp : 0 < l.length) :
    ∃ b o, A = some ⟨b, o, none⟩ ∧ b < B ∧ ∀ i x, l[i]? = some x → ∀ j u, (k.cells x)[j]? = some u → w.cell? ⟨b, o + (i * k.size + j), none⟩ = some u := by
  rcases h.row with h0 | ⟨b, o, h1, h2, h3⟩
  · exfalso
    have := congrArg List.length h0
    rw [k.row_len, List.length_nil] at this
    have := Nat.mul_pos hp k.pos
    omega
  · refine ⟨b, o, h1, h2, fun i x hx j u hu => h3 _ _ ?_⟩
    have hj : j < k.size := by
      rw [← k.len x]
      exact (List.getElem?_eq_some_iff.1 hu).1
    rw [k.row_get hx hj]; exact hu

def Own (k : Kind P α) (w : World) (base : Nat) (v : Value) (l : List α) : Prop := w.ownsRow base k.el k.size v l.length (k.row l)
theorem Own.of_row {w : World} {base n : Nat} {v : Value} {l : List α} (h : w.ownsRow base k.el k.size v n (k.row l)) : k.Own w base v l := by
  have h1 := h.1
  rw [k.row_len] at h1
  obtain rfl : l.length = n := Nat.eq_of_mul_eq_mul_right k.pos h1
  exact h
theorem Own.nil (w : World) (base : Nat) : k.Own w base (.slice none 0 0) [] := ⟨by simp [row], .inl ⟨rfl, rfl⟩⟩
theorem Own.alloc {w : World} {base : Nat} {v : Value} {l : List α} (h : k.Own w base v l) (o : Obj) : k.Own (w.alloc o) base v l := World.ownsRow.alloc h o
theorem Own.kept {w w' : World} {r : Option Nat} {base : Nat} {v : Value} {l : List α} (h : k.Own w base v l) (hg : w.grownBy w' r) (hne : v.ownBlock = none ∨ v.ownBlock ≠ r) : k.Own w' base v l := World.ownsRow.kept h hg hne
theorem Own.lt {w : World} {base : Nat} {v : Value} {l : List α} (h : k.Own w base v l) : ∀ g, v.ownBlock = some g → base ≤ g ∧ g < w.heap.size := World.ownsRow.lt h
theorem Own.below {w w' : World} {base : Nat} {v : Value} {l : List α} (h : k.Own w base v l) (hb : Below w.heap.size w w') : k.Own w' base v l :=
  h.kept (grown_of_below hb none) (by cases hv : v.ownBlock <;> simp)
theorem Own.other {w w' : World} {base r : Nat} {v : Value} {l : List α} (h : k.Own w base v l) (hg : w.grownBy w' (some r)) (hr : r < base) : k.Own w' base v l :=
  h.kept hg (by
    cases hv : v.ownBlock with
    | none => exact .inl rfl
    | some g => exact .inr (fun e => by have := (h.lt g hv).1; injection e with e; omega))
theorem Own.mono {w : World} {base base' : Nat} {v : Value} {l : List α} (h : k.Own w base v l) (hb : base' ≤ base) : k.Own w base' v l := by
  obtain ⟨h1, h2⟩ := h
  refine ⟨h1, ?_⟩
  rcases h2 with h2 | ⟨g, cap, cur, hv, hg, r⟩
  · exact .inl h2
  · exact .inr ⟨g, cap, cur, hv, by omega, r⟩
theorem Own.form {w : World} {base : Nat} {v : Value} {l : List α} (h : k.Own w base v l) : ∃ A c, v = .slice A l.length c ∧ k.Rd w w.heap.size A c l := by
  obtain ⟨A, c, rfl, hc⟩ := own_form h
  refine ⟨A, c, rfl, RowAt.of_own h, hc, ?_⟩
  rcases h.2 with ⟨hv, _⟩ | ⟨g, cap, cur, hv, _, _, _, hm, _⟩
  · injection hv with _ _ h3; subst h3; exact Nat.zero_le _
  · injection hv with _ _ h3; subst h3; exact hm
theorem Own.rd {w : World} {base n c : Nat} {A : Option Addr} {l : List α} (h : k.Own w base (.slice A n c) l) : k.Rd w w.heap.size A c l := by
  obtain ⟨A', c', hv, hr⟩ := h.form
  injection hv with h1 _ h3
  subst h1 h3
  exact hr
theorem Own.read_n {w : World} {base n : Nat} {v : Value} {l : List α} (h : k.Own w base v l) (hn : n = l.length) : ∃ A c, v = .slice A n c ∧ k.Rd w w.heap.size A c l := by subst hn; exact h.form
theorem Own.some_ {w : World} {base n : Nat} {v : Value} {l : List α} (h : k.Own w base v l) (hn : n = l.length) (hp : 0 < n) :
    ∃ g c, v = .slice (some ⟨g, 0, none⟩) n c ∧ n ≤ c ∧ base ≤ g ∧ g < w.heap.size ∧ (∀ j, w.frozen? ⟨g, j, none⟩ = false) ∧ ∀ i x, l[i]? = some x → ∀ j u, (k.cells x)[j]? = some u → w.cell? ⟨g, i * k.size + j, none⟩ = some u := by
  subst hn
  rcases h.2 with ⟨_, h0⟩ | ⟨g, cap, cur, hv, hg, hb, hc, _, _, ht⟩
  · omega
  · refine ⟨g, cap, hv, hc, hg, lt_of_block hb, fun j => by simp [World.frozen?, hb], fun i x hx j u hu => ?_⟩
    rw [cell_of_row _ _ _ cur _ (0, 0) hb, ← Array.getElem?_toList]
    have hj : j < k.size := by
      rw [← k.len x]
      exact (List.getElem?_eq_some_iff.1 hu).1
    have h1 := k.row_get hx hj
    rw [hu, ← ht, List.getElem?_take] at h1
    split at h1
    · exact h1
    · cases h1
theorem Own.at_g {w : World} {base g n c : Nat} {l : List α} (h : k.Own w base (.slice (some ⟨g, 0, none⟩) n c) l) (hn : n = l.length) (hp : 0 < n) :
    base ≤ g ∧ g < w.heap.size ∧ (∀ j, w.frozen? ⟨g, j, none⟩ = false) ∧ ∀ i x, l[i]? = some x → ∀ j u, (k.cells x)[j]? = some u → w.cell? ⟨g, i * k.size + j, none⟩ = some u := by
  obtain ⟨g', c', hv, _, h1, h2, h3, h4⟩ := h.some_ hn hp
  injection hv with hA
  injection hA with hA
  injection hA with hA
  subst hA
  exact ⟨h1, h2, h3, h4⟩
theorem Own.stored {w : World} {base g n c : Nat} {l : List α} (h : k.Own w base (.slice (some ⟨g, 0, none⟩) n c) l) (hn : n = l.length) {i j : Nat} {x y : α} {v : Value} (hx : l[i]? = some x) (hj : j < k.size) (he : (k.cells x).set j v = k.cells y) :
    k.Own (w.setCell ⟨g, i * k.size + j, none⟩ v) base (.slice (some ⟨g, 0, none⟩) n c) (l.set i y) := by
  subst hn
  have := (World.ownsRow.stored h (i * k.size + j) v).1
  rw [k.row_set hx hj he] at this
  exact Own.of_row this
theorem rd_new {w : World} {cs : Array Value} {l : List α} {t : TypeId} {n : Nat} (hl : cs.toList = k.row l) (hn : n = l.length) (hm : l.length ≤ 1000000) : k.Rd (w.alloc (.cells cs t)) (w.heap.size + 1) (some ⟨w.heap.size, 0, none⟩) n l := by
  subst hn
  exact ⟨hl ▸ RowAt.of_block (heap_new w _ _ rfl), Nat.le_refl _, by unfold maxLen; omega⟩
end Kind

theorem wpList_app_k {P : Program} {α : Type} (k : Kind P α) {w : World} {ops : Array Oper} {rest : List Oper} {o : Oper} {a : Act} {Q : Exit → Act → World → Prop} (hgd : Region.wanted o (yielded ops a.tmps) = true) (s x : Operand)
    (ho : o.op = .call { callee := .builtin .append, args := #[s, x], argTypes := #[k.ty, k.ty] })
    (base : Nat) (v : Value) (xs : List α) (hs : a.eval s = v) (hown : k.Own w base v xs)
    (B : Nat) (A : Option Addr) (c n : Nat) (ys : List α) (hn : n = ys.length) (hx : a.eval x = .slice A n c) (hr : RowAt w B A (k.row ys)) (hlen : xs.length + ys.length ≤ 1000000) (hby : k.bytes ≤ 1000) (hbase : base ≤ w.heap.size)
    (h : ∀ v' w', k.Own w' base v' (xs ++ ys) → w.grownBy w' v.ownBlock → Below base w w' → (v'.ownBlock = v.ownBlock ∨ v'.ownBlock = some w.heap.size) → wpList P ops Q rest (a.put o.dst v') w') : wpList P ops Q (o :: rest) a w := by
  obtain ⟨i0, hi0, hz0, hz1, hz2⟩ := info_parts k.info
  subst hn
  refine wpList_step fun K hK => ?_
  rw [if_pos hgd]
  refine wp_append_row w s x _ ho base k.el i0 _ k.size k.bytes k.under hi0 hz0 hz1 hz2 k.zsize k.pos v xs.length (k.row xs) hs hown B A ys.length c (k.row ys) hx (k.row_len ys) hr (k.row_cells ys) (by unfold maxLen; omega) ?_ hbase fun v' w' h1 h2 h3 => hK _ _ ?_
  · have := Nat.mul_le_mul hlen hby
    omega
  · refine h v' w' ?_ h2 ((Below.refl _ _).grown h2 hbase (fun g hg => (World.ownsRow.lt hown g hg).1)) h3
    rw [← k.row_append] at h1
    exact Kind.Own.of_row h1
theorem op_app_k {P : Program} {α : Type} (k : Kind P α) {w : World} {o : Oper} {a : Act} {K : Act → World → Prop} {Q : Exit → Act → World → Prop} (s x : Operand)
    (ho : o.op = .call { callee := .builtin .append, args := #[s, x], argTypes := #[k.ty, k.ty] })
    (base : Nat) (v : Value) (xs : List α) (hs : a.eval s = v) (hown : k.Own w base v xs)
    (B : Nat) (A : Option Addr) (c n : Nat) (ys : List α) (hn : n = ys.length) (hx : a.eval x = .slice A n c) (hr : RowAt w B A (k.row ys)) (hlen : xs.length + ys.length ≤ 1000000) (hby : k.bytes ≤ 1000) (hbase : base ≤ w.heap.size)
    (h : ∀ v' w', k.Own w' base v' (xs ++ ys) → w.grownBy w' v.ownBlock → Below base w w' → (v'.ownBlock = v.ownBlock ∨ v'.ownBlock = some w.heap.size) → K (a.put o.dst v') w') : Oper.wp P o a w K Q := by
  obtain ⟨i0, hi0, hz0, hz1, hz2⟩ := info_parts k.info
  subst hn
  refine wp_append_row w s x _ ho base k.el i0 _ k.size k.bytes k.under hi0 hz0 hz1 hz2 k.zsize k.pos v xs.length (k.row xs) hs hown B A ys.length c (k.row ys) hx (k.row_len ys) hr (k.row_cells ys) (by unfold maxLen; omega) ?_ hbase fun v' w' h1 h2 h3 => h v' w' ?_ h2 ((Below.refl _ _).grown h2 hbase (fun g hg => (World.ownsRow.lt hown g hg).1)) h3
  · have := Nat.mul_le_mul hlen hby
    omega
  · rw [← k.row_append] at h1
    exact Kind.Own.of_row h1
end Go.Proofs.Ytfjaklpddcafdaa

namespace Go.Proofs.Ytfjaklpddcafdaa
open Go.RowKit

section
variable {P : Program} {C : World → Prop} {a : Act} {o : Oper}
theorem q_region {id : Nat} {Q : Exit → Act → World → Prop} {a : Act} {w : World} {l : List Oper} (C : World → Prop) (hm : P.follows .mixedOrders = true) (hB : Region.lexB .any l.toArray = true) (hC : C w.drew)
    (h : wpQuiet P l.toArray C (fun a' => ∀ w', C w' → Q .normal a' w') l a) : (Code.region id l.toArray true).wp P Q a w :=
  wp_region_quiet (C := C) hm hB hC (by simpa using h)
theorem q_take {v : Value} {K : Act → Prop} (hy : ∀ w, C w → (execOp a.eval o).run P w = .ok (.value v) w) (hk : K (a.put o.dst v)) : o.quiet P a C K :=
  ⟨v, fun w hC => by unfold Oper.quietAt; rw [hy w hC]; exact ⟨rfl, rfl⟩, hk⟩
theorem q_call {v : Value} {K : Act → Prop} {f : FuncId} {args : Array Value} (hc : ∀ w, C w → Calls P f args w fun e w' => e = .returned v ∧ C w') (he : ∀ w, C w → (execOp a.eval o).run P w = .ok (.enter f args) w) (hk : K (a.put o.dst v)) : o.quiet P a C K :=
  ⟨v, fun w hC => by unfold Oper.quietAt; rw [he w hC]; exact ⟨rfl, hc w hC⟩, hk⟩
end

def CellL (a : World) : List (Addr × Value) → World → Prop
  | [], w => Below a.heap.size a w
  | (p, v) :: l, w => w.cell? p = some v ∧ CellL a l w
theorem cellL_size {a w : World} : ∀ {l : List (Addr × Value)}, CellL a l w → Below a.heap.size a w
  | [], h => h
  | _ :: _, h => cellL_size h.2
theorem cellL_call {a w w' : World} (hb : Below w.heap.size w w') : ∀ {l : List (Addr × Value)}, CellL a l w → CellL a l w'
  | [], h => Below.trans h (hb.mono (Below.size h))
  | (p, _) :: _, h => ⟨(hb.cell (p := p) (World.block_lt_of_cell? w p h.1)).trans h.1, cellL_call hb h.2⟩
theorem cellL_drew {a w : World} : ∀ {l : List (Addr × Value)}, CellL a l w → CellL a l w.drew
  | [], h => Below.drew h
  | _ :: _, h => ⟨h.1, cellL_drew h.2⟩
theorem cellL_of {P : Program} {f : FuncId} {args : Array Value} {v : Value} {a : World} {l : List (Addr × Value)} (h : ∀ w, Calls P f args w fun e w' => e = .returned v ∧ Below w.heap.size w w') :
    ∀ w, CellL a l w → Calls P f args w fun e w' => e = .returned v ∧ CellL a l w' := fun w hC => (h w).mono fun _ _ ⟨h1, h2⟩ => ⟨h1, cellL_call h2 hC⟩
end Go.Proofs.Ytfjaklpddcafdaa

namespace Go.Proofs.Ytfjaklpddcafdaa
open Go.RowKit

def vrCells (v : Vr) : List Value := [.int .i64 v.rep, .int .i64 v.cnt]
theorem eq_vr (i j k m : Int) (q : Bool) (hq : (i == k && j == m) = q) (w : World) :
    (Op.equalIn 10000 24 (.agg #[.int .i64 i, .int .i64 j]) (.agg #[.int .i64 k, .int .i64 m])).run Try.prog w = .ok q w := by
  subst hq
  have u2 := Try.underlying3
  have a2 := Try.isAgg3
  have z2 := Try.sizeOf3
  have hS : Try.prog.underlying 24 = some (.struct (Try.prog.fieldsOf 24)) := by kernel_rfl
  have hp : Try.prog.stoodInHeld 24 = false := by kernel_rfl
  rw [show (10000 : Nat) = 9999 + 1 from rfl, run_equalIn_agg w 9999 24 _ _ hS hp]
  simp only [Program.fieldsOf, Try.underlying24]
  go_simp
  by_cases h1 : i = k <;> by_cases h2 : j = m <;> simp [h1, h2]
theorem ref_vrright (v : Vr) (x y : Int) (hx : v.rep = x) (hy : v.cnt = y) (z : Bool) (hz : rightVr v = z) (w : World) :
    Calls Try.prog 29 #[.agg #[.int .i64 x, .int .i64 y]] w fun e w' => e = .returned (.bool z) ∧ Below w.heap.size w w' := by
  unfold rightVr at hz
  rw [hx, hy] at hz
  have HB := Lib.hid (below_new w (.cells #[.int .i64 x, .int .i64 y] 24))
  obtain ⟨b1, h1⟩ : ∃ b, decide (1 ≤ x) = b := ⟨_, rfl⟩
  obtain ⟨b2, h2⟩ : ∃ b, decide (x ≤ 16) = b := ⟨_, rfl⟩
  obtain ⟨b3, h3⟩ : ∃ b, decide (1 ≤ y) = b := ⟨_, rfl⟩
  obtain ⟨b4, h4⟩ : ∃ b, decide (y ≤ 1099511627776) = b := ⟨_, rfl⟩
  rw [h1, h2, h3, h4] at hz
  subst hz
  clear hx hy
  cases b1
  case' true =>
    cases b2
    case' true =>
      cases b3
      case' true =>
        cases b4
  all_goals
    go_enter Try.func29, Try.ntmps29
    go_wp2_with fail
    go_ret
    exact ⟨rfl, HB.out⟩
theorem ref_vrless (a b : Vr) (x y u v : Int) (hx : a.rep = x) (hy : a.cnt = y) (hu : b.rep = u) (hv : b.cnt = v) (z : Bool) (hz : lessVr a b = z) (w : World) :
    Calls Try.prog 25 #[.agg #[.int .i64 x, .int .i64 y], .agg #[.int .i64 u, .int .i64 v]] w fun e w' => e = .returned (.bool z) ∧ Below w.heap.size w w' := by
  unfold lessVr at hz
  rw [hx, hy, hu, hv] at hz
  have HB := Lib.hid ((below_new w (.cells #[.int .i64 x, .int .i64 y] 24)).alloc (by simp) (.cells #[.int .i64 u, .int .i64 v] 24))
  obtain ⟨b1, h1⟩ : ∃ b, decide (x < u) = b := ⟨_, rfl⟩
  obtain ⟨b2, h2⟩ : ∃ b, (x == u) = b := ⟨_, rfl⟩
  obtain ⟨b3, h3⟩ : ∃ b, decide (y < v) = b := ⟨_, rfl⟩
  have h2' : decide (x = u) = b2 := by rw [← h2]; rfl
  rw [h1, h2', h3] at hz
  subst hz
  clear hx hy hu hv h2'
  cases b1
  case' false =>
    cases b2
    case' true =>
      cases b3
  all_goals
    go_enter Try.func25, Try.ntmps25
    go_wp2_with fail
    go_ret
    exact ⟨rfl, HB.out⟩
end Go.Proofs.Ytfjaklpddcafdaa
