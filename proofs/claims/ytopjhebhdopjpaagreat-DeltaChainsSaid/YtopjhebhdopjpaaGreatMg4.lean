/-
  Several texts in one: Rng, RgsPure, Rgs, OpenRngs, RgsSets, KnwPure, KnwSets, VstB, VstC, VrA, VstD, Deep.
-/
import Derived.Laws.StructEq
import Derived.Laws.Tables
import Derived.Deep.Strs
import Derived.BigQuiet
import Derived.Deep.RegionHeld3
import Derived.Test.YtopjhebhdopjpaaGreatMg3
namespace Go.Proofs.YtopjhebhdopjpaaGreat
open Go.RowKit

structure IsR (r : Rng) (S T : ByteArray) (o : Bool) : Prop where
  lo : str r.lo = S
  hi : str r.hi = T
  op : r.op = o
theorem IsR.mk' (r : Rng) : IsR r (str r.lo) (str r.hi) r.op := ⟨rfl, rfl, rfl⟩
def RgAt (w : World) (g : Nat) (S T : ByteArray) (o : Bool) : Prop := w.cell? ⟨g, 0, none⟩ = some (.string S) ∧ w.cell? ⟨g, 1, none⟩ = some (.string T) ∧ w.cell? ⟨g, 2, none⟩ = some (.bool o) ∧ ∀ k, w.frozen? ⟨g, k, none⟩ = false
theorem RgAt.lt {w : World} {g : Nat} {S T : ByteArray} {o : Bool} (h : RgAt w g S T o) : g < w.heap.size := World.block_lt_of_cell? w _ h.1
theorem RgAt.drew {w : World} {g : Nat} {S T : ByteArray} {o : Bool} (h : RgAt w g S T o) : RgAt w.drew g S T o := h
theorem RgAt.below {w w' : World} {g : Nat} {S T : ByteArray} {o : Bool} (h : RgAt w g S T o) (hb : Below w.heap.size w w') : RgAt w' g S T o := by
  obtain ⟨hc, hf⟩ := bcell hb
  have hl := h.lt
  obtain ⟨h0, h1, h2, h3⟩ := h
  exact ⟨(hc _ _ hl).trans h0, (hc _ _ hl).trans h1, (hc _ _ hl).trans h2, fun k => (hf _ _ hl).trans (h3 k)⟩
theorem RgAt.grown {w w' : World} {row : Option Nat} {g : Nat} {S T : ByteArray} {o : Bool} (h : RgAt w g S T o) (hg : w.grownBy w' row) (hne : some g ≠ row) : RgAt w' g S T o :=
  ⟨hg.cell h.1 hne, hg.cell h.2.1 hne, hg.cell h.2.2.1 hne, fun k => (hg.frozen_far ⟨g, k, none⟩ h.lt hne).trans (h.2.2.2 k)⟩
theorem RgAt.keep {w : World} {g : Nat} {S T : ByteArray} {o : Bool} (h : RgAt w g S T o) (x : Obj) : RgAt (w.alloc x) g S T o := h.below ((Below.refl _ _).alloc (Nat.le_refl _) x)
theorem rgAt_new (w : World) (S T : ByteArray) (o : Bool) (t : TypeId) : RgAt (w.alloc (.cells #[.string S, .string T, .bool o] t)) w.heap.size S T o := by
  have h := heap_new w (.cells #[.string S, .string T, .bool o] t) _ rfl
  refine ⟨?_, ?_, ?_, fun k => ?_⟩
  · rw [cell_of_row _ _ _ _ _ _ h]; rfl
  · rw [cell_of_row _ _ _ _ _ _ h]; rfl
  · rw [cell_of_row _ _ _ _ _ _ h]; rfl
  · unfold World.frozen?; rw [h]; simp
theorem set_other {w : World} {a b : Addr} {u : Value} (h : w.cell? b = some u) (hne : a ≠ b) (v : Value) : (w.setCell a v).cell? b = some u := (World.cell?_setCell_other w a b v hne).trans h
theorem set_same {w : World} {a : Addr} {u : Value} (h : w.cell? a = some u) (v : Value) : (w.setCell a v).cell? a = some v := World.cell?_setCell_same w a v h
theorem addr_block {g g' i j : Nat} (h : g ≠ g') : (⟨g, i, none⟩ : Addr) ≠ ⟨g', j, none⟩ := fun e => h (by injection e)
theorem addr_off {g i j : Nat} (h : i ≠ j) : (⟨g, i, none⟩ : Addr) ≠ ⟨g, j, none⟩ := fun e => h (by injection e)
theorem RgAt.other {w : World} {g : Nat} {S T : ByteArray} {o : Bool} (h : RgAt w g S T o) {g' k : Nat} (hne : g' ≠ g) (v : Value) : RgAt (w.setCell ⟨g', k, none⟩ v) g S T o :=
  ⟨set_other h.1 (addr_block hne) v, set_other h.2.1 (addr_block hne) v, set_other h.2.2.1 (addr_block hne) v, fun j => by rw [World.frozen?_setCell]; exact h.2.2.2 j⟩
theorem RgAt.set0 {w : World} {g : Nat} {S T : ByteArray} {o : Bool} (h : RgAt w g S T o) (X : ByteArray) : RgAt (w.setCell ⟨g, 0, none⟩ (.string X)) g X T o :=
  ⟨set_same h.1 _, set_other h.2.1 (addr_off (i := 0) (j := 1) (by decide)) _, set_other h.2.2.1 (addr_off (i := 0) (j := 2) (by decide)) _, fun j => by rw [World.frozen?_setCell]; exact h.2.2.2 j⟩
theorem RgAt.set1 {w : World} {g : Nat} {S T : ByteArray} {o : Bool} (h : RgAt w g S T o) (X : ByteArray) : RgAt (w.setCell ⟨g, 1, none⟩ (.string X)) g S X o :=
  ⟨set_other h.1 (addr_off (i := 1) (j := 0) (by decide)) _, set_same h.2.1 _, set_other h.2.2.1 (addr_off (i := 1) (j := 2) (by decide)) _, fun j => by rw [World.frozen?_setCell]; exact h.2.2.2 j⟩
theorem RgAt.set2 {w : World} {g : Nat} {S T : ByteArray} {o : Bool} (h : RgAt w g S T o) (p : Bool) : RgAt (w.setCell ⟨g, 2, none⟩ (.bool p)) g S T p :=
  ⟨set_other h.1 (addr_off (i := 2) (j := 0) (by decide)) _, set_other h.2.1 (addr_off (i := 2) (j := 1) (by decide)) _, set_same h.2.2.1 _, fun j => by rw [World.frozen?_setCell]; exact h.2.2.2 j⟩
theorem RgAt.set3 {w : World} {g : Nat} {S T : ByteArray} {o : Bool} (h : RgAt w g S T o) (X Y : ByteArray) (p : Bool) : RgAt (((w.setCell ⟨g, 0, none⟩ (.string X)).setCell ⟨g, 1, none⟩ (.string Y)).setCell ⟨g, 2, none⟩ (.bool p)) g X Y p := ((h.set0 X).set1 Y).set2 p
theorem size1 (w : World) (o : Obj) : (w.alloc o).heap.size = w.heap.size + 1 := by simp

theorem rgAt_new1 (w : World) (x : Obj) (S T : ByteArray) (o : Bool) (t : TypeId) : RgAt ((w.alloc x).alloc (.cells #[.string S, .string T, .bool o] t)) (w.heap.size + 1) S T o := by
  have := rgAt_new (w.alloc x) S T o t
  rwa [size1] at this
theorem eq_rng (a b c d : ByteArray) (o p : Bool) (w : World) : (Op.equalIn 10000 45 (.agg #[.string a, .string b, .bool o]) (.agg #[.string c, .string d, .bool p])).run Tryz.prog w = .ok (a.toList == c.toList && b.toList == d.toList && o == p) w := by
  have u3 := Tryz.underlying9
  have a3 := Tryz.isAgg9
  have z3 := Tryz.sizeOf9
  have u4 := Tryz.underlying4
  have a4 := Tryz.isAgg4
  have z4 := Tryz.sizeOf4
  have hS : Tryz.prog.underlying 45 = some (.struct (Tryz.prog.fieldsOf 45)) := by kernel_rfl
  have hp : Tryz.prog.stoodInHeld 45 = false := by kernel_rfl
  rw [show (10000 : Nat) = 9999 + 1 from rfl, run_equalIn_agg w 9999 45 _ _ hS hp]
  simp only [Program.fieldsOf, Tryz.underlying45]
  go_simp
  by_cases h1 : a.toList = c.toList <;> by_cases h2 : b.toList = d.toList <;> cases o <;> cases p <;> simp [h1, h2]
theorem eq_rng_is (a b c d : ByteArray) (o p q : Bool) (hq : (a.toList == c.toList && b.toList == d.toList && o == p) = q) (w : World) : (Op.equalIn 10000 45 (.agg #[.string a, .string b, .bool o]) (.agg #[.string c, .string d, .bool p])).run Tryz.prog w = .ok q w := by
  subst hq; exact eq_rng a b c d o p w
end Go.Proofs.YtopjhebhdopjpaaGreat

namespace Go.Proofs.YtopjhebhdopjpaaGreat

def hasL (l : List Rng) (s : List UInt8) : Bool := l.any fun r => hasR r s
def gapR (r t : Rng) : Bool := !r.op && ltB r.hi t.lo
def rightL : List Rng → Bool
  | [] => true
  | [r] => rightR r
  | r :: t :: l => rightR r && gapR r t && rightL (t :: l)
theorem hasL_cons (r : Rng) (l : List Rng) (s : List UInt8) : hasL (r :: l) s = (hasR r s || hasL l s) := by simp [hasL]
theorem rightL_head {r : Rng} {l : List Rng} (h : rightL (r :: l) = true) : rightR r = true := by
  cases l with
  | nil => exact h
  | cons t l => unfold rightL at h; simp only [Bool.and_eq_true] at h; exact h.1.1
theorem rightL_tail {r : Rng} {l : List Rng} (h : rightL (r :: l) = true) : rightL l = true := by
  cases l with
  | nil => rfl
  | cons t l => unfold rightL at h; simp only [Bool.and_eq_true] at h; exact h.2
theorem rightL_gap {r t : Rng} {l : List Rng} (h : rightL (r :: t :: l) = true) : r.op = false ∧ ltB r.hi t.lo = true := by
  unfold rightL gapR at h; simp only [Bool.and_eq_true, Bool.not_eq_true'] at h; exact h.1.2
theorem hasR_lo {r : Rng} (h : rightR r = true) : hasR r r.lo = true := by
  unfold hasR; rw [h, ltB_irrefl, rightR_first h]; rfl
theorem hasR_ge {r : Rng} {s : List UInt8} (h : hasR r s = true) : ltB s r.lo = false := by
  unfold hasR at h; simp only [Bool.and_eq_true, Bool.not_eq_true'] at h; exact h.1.2
theorem hasR_right {r : Rng} {s : List UInt8} (h : hasR r s = true) : rightR r = true := by
  unfold hasR at h; simp only [Bool.and_eq_true] at h; exact h.1.1
theorem hasR_ahead {r : Rng} {s : List UInt8} (h : hasR r s = true) : aheadR r s = true := by
  unfold hasR at h; simp only [Bool.and_eq_true] at h; exact h.2
theorem hasL_ge : ∀ {l : List Rng} {r : Rng} {s : List UInt8}, rightL (r :: l) = true → hasL (r :: l) s = true → ltB s r.lo = false
  | [], r, s, _, hs => by
    rw [hasL_cons] at hs
    simp only [hasL, List.any_nil, Bool.or_false] at hs
    exact hasR_ge hs
  | t :: l, r, s, h, hs => by
    rw [hasL_cons] at hs
    cases hr : hasR r s with
    | true => exact hasR_ge hr
    | false =>
      rw [hr, Bool.false_or] at hs
      have h1 := hasL_ge (rightL_tail h) hs
      have h2 := rightL_gap h
      have h3 := rightR_lt (rightL_head h) h2.1
      cases hc : ltB s r.lo with
      | false => rfl
      | true => rw [ltB_trans hc (ltB_trans h3 h2.2)] at h1; cases h1
theorem rng_ext {r t : Rng} (h1 : r.lo = t.lo) (h2 : r.hi = t.hi) (h3 : r.op = t.op) : r = t := by cases r; cases t; simp_all
def mkR (f : List UInt8 → Bool) : List (List UInt8) → Option (List UInt8) → List Rng
  | [], none => []
  | [], some lo => [⟨lo, [], true⟩]
  | e :: es, none => match f e with | true => mkR f es (some e) | false => mkR f es none
  | e :: es, some lo => match f e with | true => mkR f es (some lo) | false => ⟨lo, e, false⟩ :: mkR f es none
def risingB : List UInt8 → List (List UInt8) → Bool
  | _, [] => true
  | e, x :: l => ltB e x && risingB x l
theorem rising_head {c x : List UInt8} {l : List (List UInt8)} (h : risingB c (x :: l) = true) : ltB c x = true ∧ risingB x l = true := by
  unfold risingB at h; simpa using h
theorem rising_all : ∀ {l : List (List UInt8)} {c : List UInt8}, risingB c l = true → ∀ x ∈ l, ltB c x = true
  | [], _, _, x, hx => by cases hx
  | y :: l, c, h, x, hx => by
    obtain ⟨h1, h2⟩ := rising_head h
    rcases List.mem_cons.1 hx with rfl | hx
    · exact h1
    · exact ltB_trans h1 (rising_all h2 x hx)
def floorV (f : List UInt8 → Bool) : Bool → List (List UInt8) → List UInt8 → Bool
  | v, [], _ => v
  | v, x :: l, s => match ltB s x with | true => v | false => floorV f (f x) l s
theorem floorV_low {f : List UInt8 → Bool} {v : Bool} {l : List (List UInt8)} {s : List UInt8} (h : ∀ x ∈ l, ltB s x = true) : floorV f v l s = v := by
  cases l with
  | nil => rfl
  | cons x l => unfold floorV; rw [h x (List.mem_cons_self ..)]
theorem hasR_open {lo s : List UInt8} (h : lo.length ≤ 17) : hasR ⟨lo, [], true⟩ s = !ltB s lo := by
  have h1 : rightR ⟨lo, [], true⟩ = true := rightR_iff.2 ⟨h, by simp, fun _ => rfl, (fun h => by cases h)⟩
  unfold hasR aheadR; rw [h1]; simp
theorem right_shut {lo e : List UInt8} (h : lo.length ≤ 17) (he : e.length ≤ 17) (hl : ltB lo e = true) : rightR ⟨lo, e, false⟩ = true :=
  rightR_iff.2 ⟨h, he, (fun h => by cases h), fun _ => hl⟩
theorem hasR_shut {lo e s : List UInt8} (h : lo.length ≤ 17) (he : e.length ≤ 17) (hl : ltB lo e = true) : hasR ⟨lo, e, false⟩ s = (!ltB s lo && ltB s e) := by
  unfold hasR aheadR; rw [right_shut h he hl]; simp
theorem mkR_low (f : List UInt8 → Bool) : ∀ (es : List (List UInt8)) (o : Option (List UInt8)) (c s : List UInt8), risingB c es = true → (∀ lo, o = some lo → ltB s lo = true) → (o = none → ltB c s = false) → (∀ lo, o = some lo → ltB c lo = false) → hasL (mkR f es o) s = false
  | [], none, _, _, _, _, _, _ => rfl
  | [], some lo, c, s, _, h, _, _ => by
    unfold mkR; rw [hasL_cons]
    have : hasR ⟨lo, [], true⟩ s = false := by unfold hasR; rw [h lo rfl]; simp
    rw [this]; rfl
  | e :: es, none, c, s, hr, _, h2, _ => by
    obtain ⟨h3, h4⟩ := rising_head hr
    have hse : ltB s e = true := ltB_of_le_of_lt (h2 rfl) h3
    unfold mkR
    cases f e with
    | true => exact mkR_low f es (some e) e s h4 (fun lo h => by injection h with h; subst h; exact hse) (fun h => by cases h) (fun lo h => by injection h with h; subst h; exact ltB_irrefl _)
    | false => exact mkR_low f es none e s h4 (fun lo h => by cases h) (fun _ => ltB_asymm hse) (fun lo h => by cases h)
  | e :: es, some lo, c, s, hr, h, _, hc => by
    obtain ⟨h3, h4⟩ := rising_head hr
    have h5 : ltB lo e = true := ltB_of_le_of_lt (hc lo rfl) h3
    have hse : ltB s e = true := ltB_trans (h lo rfl) h5
    unfold mkR
    cases f e with
    | true => exact mkR_low f es (some lo) e s h4 (fun lo' h' => by injection h' with h'; subst h'; exact h lo rfl) (fun h => by cases h) (fun lo' h' => by injection h' with h'; subst h'; exact ltB_asymm h5)
    | false =>
      show hasL (⟨lo, e, false⟩ :: mkR f es none) s = false
      rw [hasL_cons]
      have : hasR ⟨lo, e, false⟩ s = false := by unfold hasR; rw [h lo rfl]; simp
      rw [this, Bool.false_or]
      exact mkR_low f es none e s h4 (fun lo h => by cases h) (fun _ => ltB_asymm hse) (fun lo h => by cases h)
theorem mkR_has (f : List UInt8 → Bool) : ∀ (es : List (List UInt8)) (o : Option (List UInt8)) (c s : List UInt8), risingB c es = true → (∀ x ∈ es, x.length ≤ 17) → (∀ lo, o = some lo → lo.length ≤ 17 ∧ ltB c lo = false ∧ ltB s lo = false) → hasL (mkR f es o) s = floorV f o.isSome es s
  | [], none, _, _, _, _, _ => rfl
  | [], some lo, c, s, _, _, h => by
    obtain ⟨h1, _, h3⟩ := h lo rfl
    unfold mkR; rw [hasL_cons, hasR_open h1, h3]; rfl
  | e :: es, none, c, s, hr, hl, _ => by
    obtain ⟨h3, h4⟩ := rising_head hr
    have hl' : ∀ x ∈ es, x.length ≤ 17 := fun x hx => hl x (List.mem_cons_of_mem _ hx)
    have he := hl e (List.mem_cons_self ..)
    unfold mkR floorV
    cases hse : ltB s e with
    | true =>
      cases f e with
      | true => exact mkR_low f es (some e) e s h4 (fun lo h => by injection h with h; subst h; exact hse) (fun h => by cases h) (fun lo h => by injection h with h; subst h; exact ltB_irrefl _)
      | false => exact mkR_low f es none e s h4 (fun lo h => by cases h) (fun _ => ltB_asymm hse) (fun lo h => by cases h)
    | false =>
      cases f e with
      | true => exact mkR_has f es (some e) e s h4 hl' (fun lo h => by injection h with h; subst h; exact ⟨he, ltB_irrefl _, hse⟩)
      | false => exact mkR_has f es none e s h4 hl' (fun lo h => by cases h)
  | e :: es, some lo, c, s, hr, hl, h => by
    obtain ⟨h3, h4⟩ := rising_head hr
    obtain ⟨k1, k2, k3⟩ := h lo rfl
    have hl' : ∀ x ∈ es, x.length ≤ 17 := fun x hx => hl x (List.mem_cons_of_mem _ hx)
    have he := hl e (List.mem_cons_self ..)
    have h5 : ltB lo e = true := ltB_of_le_of_lt k2 h3
    unfold mkR floorV
    cases hf : f e with
    | true =>
      have := mkR_has f es (some lo) e s h4 hl' (fun lo' h' => by injection h' with h'; subst h'; exact ⟨k1, ltB_asymm h5, k3⟩)
      show hasL (mkR f es (some lo)) s = _
      rw [this]
      cases hse : ltB s e with
      | true => exact floorV_low fun x hx => ltB_trans hse (rising_all h4 x hx)
      | false => rfl
    | false =>
      show hasL (⟨lo, e, false⟩ :: mkR f es none) s = _
      rw [hasL_cons, hasR_shut k1 he h5, k3]
      cases hse : ltB s e with
      | true => rfl
      | false => exact mkR_has f es none e s h4 hl' (fun lo h => by cases h)
theorem mkR_first (f : List UInt8 → Bool) : ∀ (es : List (List UInt8)) (o : Option (List UInt8)) (c : List UInt8) (t : Rng) (m : List Rng), risingB c es = true → mkR f es o = t :: m → (∀ lo, o = some lo → t.lo = lo) ∧ (o = none → ltB c t.lo = true)
  | [], none, _, _, _, _, h => by cases h
  | [], some lo, _, t, m, _, h => by
    unfold mkR at h; injection h with h h'; subst h
    exact ⟨(fun lo' e => by injection e), (fun e => by cases e)⟩
  | e :: es, none, c, t, m, hr, h => by
    obtain ⟨h3, h4⟩ := rising_head hr
    refine ⟨(fun lo e => by cases e), fun _ => ?_⟩
    unfold mkR at h
    cases hf : f e with
    | true => rw [hf] at h; rw [(mkR_first f es (some e) e t m h4 h).1 e rfl]; exact h3
    | false => rw [hf] at h; exact ltB_trans h3 ((mkR_first f es none e t m h4 h).2 rfl)
  | e :: es, some lo, c, t, m, hr, h => by
    obtain ⟨h3, h4⟩ := rising_head hr
    refine ⟨fun lo' e' => ?_, (fun e => by cases e)⟩
    injection e' with e'; subst e'
    unfold mkR at h
    cases hf : f e with
    | true => rw [hf] at h; exact (mkR_first f es (some lo) e t m h4 h).1 lo rfl
    | false => rw [hf] at h; injection h with h h'; subst h; rfl
theorem mkR_right (f : List UInt8 → Bool) : ∀ (es : List (List UInt8)) (o : Option (List UInt8)) (c : List UInt8), risingB c es = true → (∀ x ∈ es, x.length ≤ 17) → (∀ lo, o = some lo → lo.length ≤ 17 ∧ ltB c lo = false) → rightL (mkR f es o) = true
  | [], none, _, _, _, _ => rfl
  | [], some lo, _, _, _, h => rightR_iff.2 ⟨(h lo rfl).1, by simp, fun _ => rfl, (fun h => by cases h)⟩
  | e :: es, none, c, hr, hl, _ => by
    obtain ⟨h3, h4⟩ := rising_head hr
    have hl' : ∀ x ∈ es, x.length ≤ 17 := fun x hx => hl x (List.mem_cons_of_mem _ hx)
    have he := hl e (List.mem_cons_self ..)
    unfold mkR
    cases f e with
    | true => exact mkR_right f es (some e) e h4 hl' (fun lo h => by injection h with h; subst h; exact ⟨he, ltB_irrefl _⟩)
    | false => exact mkR_right f es none e h4 hl' (fun lo h => by cases h)
  | e :: es, some lo, c, hr, hl, h => by
    obtain ⟨h3, h4⟩ := rising_head hr
    obtain ⟨k1, k2⟩ := h lo rfl
    have hl' : ∀ x ∈ es, x.length ≤ 17 := fun x hx => hl x (List.mem_cons_of_mem _ hx)
    have he := hl e (List.mem_cons_self ..)
    have h5 : ltB lo e = true := ltB_of_le_of_lt k2 h3
    unfold mkR
    cases f e with
    | true => exact mkR_right f es (some lo) e h4 hl' (fun lo' h' => by injection h' with h'; subst h'; exact ⟨k1, ltB_asymm h5⟩)
    | false =>
      have h6 := mkR_right f es none e h4 hl' (fun lo h => by cases h)
      show rightL (⟨lo, e, false⟩ :: mkR f es none) = true
      cases hm : mkR f es none with
      | nil => exact right_shut k1 he h5
      | cons t m =>
        rw [hm] at h6
        have h7 := (mkR_first f es none e t m h4 hm).2 rfl
        unfold rightL gapR
        rw [right_shut k1 he h5, h6, h7]; rfl
def Det (f : List UInt8 → Bool) (E : List (List UInt8)) : Prop := ∀ s c, (∀ x ∈ E, ltB s x = ltB c x) → f s = f c
theorem floorV_det (f : List UInt8 → Bool) (s : List UInt8) : ∀ (es D : List (List UInt8)) (c : List UInt8), risingB c es = true → (∀ x ∈ D, ltB c x = false) → ltB s c = false → Det f (D ++ es) → floorV f (f c) es s = f s
  | [], D, c, _, hD, hs, h => by
    refine (h s c fun x hx => ?_).symm
    rw [List.append_nil] at hx
    rw [hD x hx]
    exact leB_trans (hD x hx) hs
  | x :: l, D, c, hr, hD, hs, h => by
    obtain ⟨h3, h4⟩ := rising_head hr
    unfold floorV
    cases hx : ltB s x with
    | true =>
      refine (h s c fun y hy => ?_).symm
      rcases List.mem_append.1 hy with hy | hy
      · rw [hD y hy]; exact leB_trans (hD y hy) hs
      · have h5 := rising_all hr y hy
        rw [h5]
        rcases List.mem_cons.1 hy with rfl | hy
        · exact hx
        · exact ltB_trans hx (rising_all h4 y hy)
    | false =>
      refine floorV_det f s l (D ++ [x]) x h4 (fun y hy => ?_) hx (by rw [List.append_assoc]; exact h)
      rcases List.mem_append.1 hy with hy | hy
      · exact ltB_asymm (ltB_of_le_of_lt (hD y hy) h3)
      · rw [List.mem_singleton.1 hy]; exact ltB_irrefl _
theorem mkR_all {f : List UInt8 → Bool} {es : List (List UInt8)} (hr : risingB [] es = true) (hl : ∀ x ∈ es, x.length ≤ 17) (hd : Det f ([] :: es)) :
    rightL (mkR f ([] :: es) none) = true ∧ ∀ s, hasL (mkR f ([] :: es) none) s = f s := by
  have hn : ∀ s, ltB s [] = false := ltB_nil
  constructor
  · unfold mkR
    cases f [] with
    | true => exact mkR_right f es (some []) [] hr hl (fun lo h => by injection h with h; subst h; exact ⟨by simp, ltB_nil _⟩)
    | false => exact mkR_right f es none [] hr hl (fun lo h => by cases h)
  · intro s
    have h1 : hasL (mkR f ([] :: es) none) s = floorV f (f []) es s := by
      unfold mkR
      cases hf : f [] with
      | true => exact mkR_has f es (some []) [] s hr hl (fun lo h => by injection h with h; subst h; exact ⟨by simp, ltB_nil _, ltB_nil _⟩)
      | false => exact mkR_has f es none [] s hr hl (fun lo h => by cases h)
    rw [h1]
    exact floorV_det f s es [[]] [] hr (fun x hx => by rw [List.mem_singleton.1 hx]; exact ltB_nil _) (ltB_nil _) hd

def putL : List (List UInt8) → List UInt8 → List (List UInt8)
  | [], s => [s]
  | x :: l, s => match ltB x s with | true => x :: putL l s | false => match decide (x = s) with | true => x :: l | false => s :: x :: l
theorem putL_behind {x : List UInt8} {l : List (List UInt8)} {s : List UInt8} (h : ltB x s = true) : putL (x :: l) s = x :: putL l s := by rw [putL, h]
theorem putL_there {x : List UInt8} {l : List (List UInt8)} : putL (x :: l) x = x :: l := by rw [putL, ltB_irrefl, decide_eq_true rfl]
theorem putL_here {x : List UInt8} {l : List (List UInt8)} {s : List UInt8} (h : ltB x s = false) (h' : x ≠ s) : putL (x :: l) s = s :: x :: l := by rw [putL, h, decide_eq_false h']
theorem putL_mem : ∀ {l : List (List UInt8)} {s x : List UInt8}, x ∈ putL l s ↔ x = s ∨ x ∈ l
  | [], s, x => by simp [putL]
  | y :: l, s, x => by
    cases h : ltB y s with
    | true => rw [putL_behind h, List.mem_cons, List.mem_cons, putL_mem]; constructor <;> (rintro (h | h | h) <;> simp [h])
    | false =>
      by_cases h' : y = s
      · subst h'; rw [putL_there]; constructor
        · exact .inr
        · rintro (rfl | h)
          · exact List.mem_cons_self ..
          · exact h
      · rw [putL_here h h', List.mem_cons]
theorem putL_rising : ∀ {l : List (List UInt8)} {c s : List UInt8}, risingB c l = true → ltB c s = true → risingB c (putL l s) = true
  | [], c, s, _, h => by simp [putL, risingB, h]
  | x :: l, c, s, hr, hs => by
    obtain ⟨h1, h2⟩ := rising_head hr
    cases h : ltB x s with
    | true => rw [putL_behind h]; unfold risingB; rw [h1, putL_rising h2 h]; rfl
    | false =>
      by_cases h' : x = s
      · subst h'; rw [putL_there]; exact hr
      · have h3 : ltB s x = true := by
          cases hc : ltB s x with
          | true => rfl
          | false => exact absurd (ltB_total h hc) h'
        rw [putL_here h h']; unfold risingB risingB; rw [hs, h3, h2]; rfl
theorem putL_first {l : List (List UInt8)} {s : List UInt8} (h : risingB [] l = true) : ∃ m, putL ([] :: l) s = [] :: m ∧ risingB [] m = true := by
  cases s with
  | nil => exact ⟨l, putL_there, h⟩
  | cons x s => exact ⟨putL l (x :: s), putL_behind (ltB_nil_cons x s), putL_rising h (ltB_nil_cons x s)⟩
def addE (E : List (List UInt8)) (r : Rng) : List (List UInt8) := match rightR r with
  | true => (match r.op with | true => putL E r.lo | false => putL (putL E r.lo) r.hi)
  | false => E
def edgesL (l : List Rng) : List (List UInt8) := l.foldl addE [[]]
theorem edgesL_snoc (l : List Rng) (r : Rng) : edgesL (l ++ [r]) = addE (edgesL l) r := by simp [edgesL]
def EdgesOk (E : List (List UInt8)) : Prop := ∃ m, E = [] :: m ∧ risingB [] m = true ∧ ∀ x ∈ m, x.length ≤ 17
theorem EdgesOk.put {E : List (List UInt8)} (h : EdgesOk E) {s : List UInt8} (hs : s.length ≤ 17) : EdgesOk (putL E s) := by
  obtain ⟨m, rfl, h1, h2⟩ := h
  obtain ⟨m', h3, h4⟩ := putL_first (s := s) h1
  refine ⟨m', h3, h4, fun x hx => ?_⟩
  have h5 : x ∈ putL ([] :: m) s := by rw [h3]; exact List.mem_cons_of_mem _ hx
  rcases putL_mem.1 h5 with rfl | h5
  · exact hs
  · rcases List.mem_cons.1 h5 with rfl | h5
    · simp
    · exact h2 x h5
theorem EdgesOk.add {E : List (List UInt8)} (h : EdgesOk E) (r : Rng) : EdgesOk (addE E r) := by
  unfold addE
  cases hr : rightR r with
  | false => exact h
  | true => cases r.op with
    | true => exact h.put (rightR_lo hr)
    | false => exact (h.put (rightR_lo hr)).put (rightR_hi hr)
theorem edges_ok : ∀ (l : List Rng) (E : List (List UInt8)), EdgesOk E → EdgesOk (l.foldl addE E)
  | [], _, h => h
  | r :: l, E, h => edges_ok l (addE E r) (h.add r)
theorem addE_keep {E : List (List UInt8)} {r : Rng} {x : List UInt8} (h : x ∈ E) : x ∈ addE E r := by
  unfold addE
  cases rightR r with
  | false => exact h
  | true => cases r.op with
    | true => exact putL_mem.2 (.inr h)
    | false => exact putL_mem.2 (.inr (putL_mem.2 (.inr h)))
theorem edges_keep : ∀ (l : List Rng) (E : List (List UInt8)) {x : List UInt8}, x ∈ E → x ∈ l.foldl addE E
  | [], _, _, h => h
  | r :: l, E, _, h => edges_keep l (addE E r) (addE_keep h)
theorem edges_mem : ∀ (l : List Rng) (E : List (List UInt8)) {r : Rng}, r ∈ l → rightR r = true → r.lo ∈ l.foldl addE E ∧ (r.op = false → r.hi ∈ l.foldl addE E)
  | [], _, _, h, _ => by cases h
  | t :: l, E, r, h, hr => by
    rcases List.mem_cons.1 h with rfl | h
    · constructor
      · refine edges_keep l _ ?_
        unfold addE; rw [hr]
        cases r.op with
        | true => exact putL_mem.2 (.inl rfl)
        | false => exact putL_mem.2 (.inr (putL_mem.2 (.inl rfl)))
      · intro ho
        refine edges_keep l _ ?_
        unfold addE; rw [hr, ho]
        exact putL_mem.2 (.inl rfl)
    · exact edges_mem l (addE E t) h hr
theorem edgesL_ok (l : List Rng) : EdgesOk (edgesL l) := edges_ok l [[]] ⟨[], rfl, rfl, by simp⟩
theorem hasR_det {r : Rng} {E : List (List UInt8)} (h : rightR r = true → r.lo ∈ E ∧ (r.op = false → r.hi ∈ E)) : Det (hasR r) E := fun s c hs => by
  cases hr : rightR r with
  | false => unfold hasR; rw [hr]; rfl
  | true =>
    obtain ⟨h1, h2⟩ := h hr
    unfold hasR aheadR
    rw [hs _ h1]
    cases ho : r.op with
    | true => rfl
    | false => rw [hs _ (h2 ho)]
theorem hasL_det : ∀ {l : List Rng} {E : List (List UInt8)}, (∀ r ∈ l, rightR r = true → r.lo ∈ E ∧ (r.op = false → r.hi ∈ E)) → Det (hasL l) E
  | [], _, _ => fun _ _ _ => rfl
  | r :: l, E, h => fun s c hs => by
    rw [hasL_cons, hasL_cons, hasR_det (h r (List.mem_cons_self ..)) s c hs, hasL_det (fun t ht => h t (List.mem_cons_of_mem _ ht)) s c hs]
theorem make_ok (a b : List Rng) (g : Bool → Bool → Bool) : rightL (mkR (fun s => g (hasL a s) (hasL b s)) (edgesL (a ++ b)) none) = true ∧ ∀ s, hasL (mkR (fun s => g (hasL a s) (hasL b s)) (edgesL (a ++ b)) none) s = g (hasL a s) (hasL b s) := by
  obtain ⟨m, hm, h1, h2⟩ := edgesL_ok (a ++ b)
  have ha : Det (hasL a) (edgesL (a ++ b)) := hasL_det fun r hr hR => edges_mem (a ++ b) [[]] (List.mem_append.2 (.inl hr)) hR
  have hb : Det (hasL b) (edgesL (a ++ b)) := hasL_det fun r hr hR => edges_mem (a ++ b) [[]] (List.mem_append.2 (.inr hr)) hR
  rw [hm] at ha hb ⊢
  exact mkR_all h1 h2 fun s c hs => by simp only [ha s c hs, hb s c hs]
end Go.Proofs.YtopjhebhdopjpaaGreat

namespace Go.Proofs.YtopjhebhdopjpaaGreat
open Go.RowKit

def rngCells (r : Rng) : List Value := [.string (str r.lo), .string (str r.hi), .bool r.op]
noncomputable def kRng : Kind Tryz.prog Rng where
  ty := 57
  el := 45
  size := 3
  bytes := 40
  zero := .agg #[.string ⟨#[]⟩, .string ⟨#[]⟩, .bool false]
  cells := rngCells
  len := fun _ => rfl
  one := fun r u hu => by simp [rngCells] at hu; rcases hu with rfl | rfl | rfl <;> rfl
  pos := by decide
  under := Tryz.underlying57
  info := by kernel_rfl
  zsize := rfl
noncomputable def kStr : Kind Tryz.prog (List UInt8) where
  ty := 78
  el := 9
  size := 1
  bytes := 16
  zero := .string ⟨#[]⟩
  cells := fun s => [.string (str s)]
  len := fun _ => rfl
  one := fun s u hu => by simp at hu; subst hu; rfl
  pos := by decide
  under := Tryz.underlying78
  info := by kernel_rfl
  zsize := rfl
theorem rngs_at {w : World} {B : Nat} {A : Option Addr} {c : Nat} {l : List Rng} (h : kRng.Rd w B A c l) (hp : 0 < l.length) :
    ∃ b o, A = some ⟨b, o, none⟩ ∧ b < B ∧ ∀ k r, l[k]? = some r → w.cell? ⟨b, o + k * 3, none⟩ = some (.string (str r.lo)) ∧ w.cell? ⟨b, o + k * 3 + 1, none⟩ = some (.string (str r.hi)) ∧ w.cell? ⟨b, o + k * 3 + 2, none⟩ = some (.bool r.op) := by
  obtain ⟨b, o, h1, h2, h3⟩ := h.at_ hp
  exact ⟨b, o, h1, h2, fun k r hr => ⟨h3 k r hr 0 _ rfl, h3 k r hr 1 _ rfl, h3 k r hr 2 _ rfl⟩⟩
theorem texts_at {w : World} {B : Nat} {A : Option Addr} {c : Nat} {l : List (List UInt8)} (h : kStr.Rd w B A c l) (hp : 0 < l.length) :
    ∃ b o, A = some ⟨b, o, none⟩ ∧ b < B ∧ ∀ k s, l[k]? = some s → w.cell? ⟨b, o + k, none⟩ = some (.string (str s)) := by
  obtain ⟨b, o, h1, h2, h3⟩ := h.at_ hp
  refine ⟨b, o, h1, h2, fun k s hs => ?_⟩
  have := h3 k s hs 0 _ rfl
  rwa [show o + (k * kStr.size + 0) = o + k by show o + (k * 1 + 0) = o + k; omega] at this
theorem get_some {α : Type} {l : List α} {k : Nat} (h : k < l.length) : ∃ x, l[k]? = some x ∧ l.drop k = x :: l.drop (k + 1) ∧ x ∈ l := ⟨l[k], List.getElem?_eq_getElem h, List.drop_eq_getElem_cons h, List.getElem_mem h⟩
end Go.Proofs.YtopjhebhdopjpaaGreat

namespace Go.Proofs.YtopjhebhdopjpaaGreat
open Go.ChangeShapes Go.WideShapes Go.ChangeAt Go.RowKit

theorem cells_string : Tryz.prog.cellsOf 9 = 1 := by kernel_rfl
theorem cells_bool : Tryz.prog.cellsOf 4 = 1 := by kernel_rfl
end Go.Proofs.YtopjhebhdopjpaaGreat

namespace Go.Proofs.YtopjhebhdopjpaaGreat

def gV (op : Int) (x y : Bool) : Bool :=
  match decide (op = 1) with
  | true => x || y
  | false => match decide (op = 2) with
    | true => x && y
    | false => match decide (op = 3) with
      | true => x && !y
      | false => !x && !y
def inV (op : Int) (a b : List Rng) (s : List UInt8) : Bool := gV op (hasL a s) (hasL b s)
def makeV (op : Int) (a b : List Rng) : List Rng := mkR (inV op a b) (edgesL (a ++ b)) none
theorem makeV_right (op : Int) (a b : List Rng) : rightL (makeV op a b) = true := (make_ok a b (gV op)).1
theorem makeV_has (op : Int) (a b : List Rng) (s : List UInt8) : hasL (makeV op a b) s = gV op (hasL a s) (hasL b s) := (make_ok a b (gV op)).2 s
theorem gV1 (x y : Bool) : gV 1 x y = (x || y) := rfl
theorem hasL_nil (s : List UInt8) : hasL [] s = false := rfl
def normV (a : List Rng) : List Rng := makeV 1 a []
theorem normV_has (a : List Rng) (s : List UInt8) : hasL (normV a) s = hasL a s := by rw [normV, makeV_has, gV1, hasL_nil, Bool.or_false]
instance : DecidableEq Rng := fun r t => match decEq r.lo t.lo, decEq r.hi t.hi, decEq r.op t.op with
  | .isTrue h1, .isTrue h2, .isTrue h3 => .isTrue (rng_ext h1 h2 h3)
  | .isFalse h, _, _ => .isFalse fun e => h (by rw [e])
  | _, .isFalse h, _ => .isFalse fun e => h (by rw [e])
  | _, _, .isFalse h => .isFalse fun e => h (by rw [e])
def SmallL (n : Nat) (l : List Rng) : Prop := l.length ≤ n ∧ ∀ r ∈ l, r.lo.length ≤ 1000 ∧ r.hi.length ≤ 1000
theorem putL_len : ∀ (l : List (List UInt8)) (s : List UInt8), (putL l s).length ≤ l.length + 1
  | [], s => by simp [putL]
  | x :: l, s => by
    have := putL_len l s
    rw [putL]
    cases ltB x s with
    | true => simp; omega
    | false => cases decide (x = s) <;> simp
theorem addE_len (E : List (List UInt8)) (r : Rng) : (addE E r).length ≤ E.length + 2 := by
  unfold addE
  have h1 := putL_len E r.lo
  have h2 := putL_len (putL E r.lo) r.hi
  cases rightR r with
  | false => simp
  | true => cases r.op <;> simp <;> omega
theorem edges_len : ∀ (l : List Rng) (E : List (List UInt8)), (l.foldl addE E).length ≤ E.length + 2 * l.length
  | [], E => by simp
  | r :: l, E => by
    have h1 := edges_len l (addE E r)
    have h2 := addE_len E r
    simp only [List.foldl_cons, List.length_cons]
    omega
theorem edgesL_len (l : List Rng) : (edgesL l).length ≤ 1 + 2 * l.length := edges_len l [[]]
theorem SmallL.mono {n m : Nat} {l : List Rng} (h : SmallL n l) (hm : n ≤ m) : SmallL m l := ⟨Nat.le_trans h.1 hm, h.2⟩
end Go.Proofs.YtopjhebhdopjpaaGreat

namespace Go.Proofs.YtopjhebhdopjpaaGreat

instance : DecidableEq Rn := fun r t => match decEq r.fr t.fr, decEq r.to t.to with
  | .isTrue h1, .isTrue h2 => .isTrue (rn_ext h1 h2)
  | .isFalse h, _ => .isFalse fun e => h (by rw [e])
  | _, .isFalse h => .isFalse fun e => h (by rw [e])
instance : DecidableEq Kn := fun r t => match decEq r.rep t.rep, decEq r.runs t.runs with
  | .isTrue h1, .isTrue h2 => .isTrue (kn_ext h1 h2)
  | .isFalse h, _ => .isFalse fun e => h (by rw [e])
  | _, .isFalse h => .isFalse fun e => h (by rw [e])
structure Pc where
  rng : Rng
  set : List Kn
theorem pc_ext {a b : Pc} (h1 : a.rng = b.rng) (h2 : a.set = b.set) : a = b := by cases a; cases b; simp_all
theorem hasK_append (a b : List Kn) (r n : Int) : hasK (a ++ b) r n = (hasK a r n || hasK b r n) := by
  unfold hasK
  rw [runsV_append, hasC_append]
  cases decide (1 ≤ r) <;> cases decide (r ≤ 16) <;> rfl
def setP (p : Pc) (s : List UInt8) : List Kn := match hasR p.rng s with
  | true => p.set
  | false => []
theorem setP_yes {p : Pc} {s : List UInt8} (h : hasR p.rng s = true) : setP p s = p.set := by unfold setP; rw [h]
theorem setP_no {p : Pc} {s : List UInt8} (h : hasR p.rng s = false) : setP p s = [] := by unfold setP; rw [h]
def catK : List Pc → List UInt8 → List Kn
  | [], _ => []
  | p :: k, s => setP p s ++ catK k s
theorem catK_append : ∀ (a b : List Pc) (s : List UInt8), catK (a ++ b) s = catK a s ++ catK b s
  | [], _, _ => rfl
  | p :: a, b, s => by rw [List.cons_append, catK, catK, catK_append a b, List.append_assoc]
def atK (k : List Pc) (s : List UInt8) : List Kn := ofS (catK k s)
theorem ofS_self {s : List Kn} (h : rightS s = true) : ofS s = s := (ofS_unique h fun _ _ => rfl).symm
theorem ofS_nil : ofS [] = [] := ofS_self rfl

def fullK (s : List Kn) : Bool := (match s with | [] => false | _ :: _ => true) && rightS s
theorem fullK_iff {s : List Kn} : fullK s = true ↔ s ≠ [] ∧ rightS s = true := by
  unfold fullK
  cases s <;> simp
def onePc (p : Pc) : Bool := rightR p.rng && fullK p.set
theorem onePc_iff {p : Pc} : onePc p = true ↔ rightR p.rng = true ∧ p.set ≠ [] ∧ rightS p.set = true := by
  unfold onePc; rw [Bool.and_eq_true, fullK_iff]
def gapP (p q : Pc) : Bool := !p.rng.op && (!ltB q.rng.lo p.rng.hi && !(decide (p.rng.hi = q.rng.lo) && decide (p.set = q.set)))
theorem gapP_iff {p q : Pc} : gapP p q = true ↔ p.rng.op = false ∧ ltB q.rng.lo p.rng.hi = false ∧ (p.rng.hi = q.rng.lo → p.set ≠ q.set) := by
  unfold gapP
  simp only [Bool.and_eq_true, Bool.not_eq_true', Bool.and_eq_false_iff, decide_eq_false_iff_not]
  constructor
  · rintro ⟨h1, h2, h3 | h3⟩
    · exact ⟨h1, h2, fun e => absurd e h3⟩
    · exact ⟨h1, h2, fun _ => h3⟩
  · rintro ⟨h1, h2, h3⟩
    refine ⟨h1, h2, ?_⟩
    by_cases e : p.rng.hi = q.rng.lo
    · exact .inr (h3 e)
    · exact .inl e
def rightP : List Pc → Bool
  | [] => true
  | [p] => onePc p
  | p :: q :: k => onePc p && gapP p q && rightP (q :: k)
theorem rightP_head {p : Pc} {k : List Pc} (h : rightP (p :: k) = true) : onePc p = true := by
  cases k with
  | nil => exact h
  | cons q k => unfold rightP at h; simp only [Bool.and_eq_true] at h; exact h.1.1
theorem rightP_tail {p : Pc} {k : List Pc} (h : rightP (p :: k) = true) : rightP k = true := by
  cases k with
  | nil => rfl
  | cons q k => unfold rightP at h; simp only [Bool.and_eq_true] at h; exact h.2
theorem rightP_gap {p q : Pc} {k : List Pc} (h : rightP (p :: q :: k) = true) : p.rng.op = false ∧ ltB q.rng.lo p.rng.hi = false ∧ (p.rng.hi = q.rng.lo → p.set ≠ q.set) := by
  unfold rightP at h; simp only [Bool.and_eq_true] at h; exact gapP_iff.1 h.1.2
theorem rightP_all : ∀ {k : List Pc}, rightP k = true → ∀ p ∈ k, onePc p = true
  | [], _, _, h => by cases h
  | q :: k, h, p, hp => by
    rcases List.mem_cons.1 hp with rfl | hp
    · exact rightP_head h
    · exact rightP_all (rightP_tail h) p hp
theorem catK_ge : ∀ {k : List Pc} {p : Pc} {s : List UInt8}, rightP (p :: k) = true → catK (p :: k) s ≠ [] → ltB s p.rng.lo = false
  | [], p, s, _, hs => by
    cases hr : hasR p.rng s with
    | true => exact hasR_ge hr
    | false => rw [catK, setP_no hr] at hs; exact absurd rfl hs
  | q :: k, p, s, h, hs => by
    cases hr : hasR p.rng s with
    | true => exact hasR_ge hr
    | false =>
      rw [catK, setP_no hr, List.nil_append] at hs
      have h1 := catK_ge (rightP_tail h) hs
      obtain ⟨h2, h3, -⟩ := rightP_gap h
      have h4 := rightR_lt (onePc_iff.1 (rightP_head h)).1 h2
      cases hc : ltB s p.rng.lo with
      | false => rfl
      | true => rw [ltB_of_lt_of_le (ltB_trans hc h4) h3] at h1; cases h1
theorem catK_apart {p : Pc} {k : List Pc} {s : List UInt8} (h : rightP (p :: k) = true) (hs : catK k s ≠ []) : hasR p.rng s = false ∧ p.rng.op = false ∧ ltB s p.rng.hi = false := by
  cases k with
  | nil => exact absurd rfl hs
  | cons q k =>
    have h1 := catK_ge (rightP_tail h) hs
    obtain ⟨h2, h3, -⟩ := rightP_gap h
    have h4 : ltB s p.rng.hi = false := leB_trans h3 h1
    refine ⟨?_, h2, h4⟩
    cases hr : hasR p.rng s with
    | false => rfl
    | true =>
      have := hasR_ahead hr
      unfold aheadR at this
      rw [h2, Bool.false_or, h4] at this
      cases this
theorem catK_head {p : Pc} {k : List Pc} {s : List UInt8} (h : rightP (p :: k) = true) (hr : hasR p.rng s = true) : catK (p :: k) s = p.set := by
  rw [catK, setP_yes hr]
  cases hk : catK k s with
  | nil => exact List.append_nil _
  | cons x y =>
    have := (catK_apart h (by rw [hk]; exact List.cons_ne_nil _ _)).1
    rw [hr] at this; cases this
theorem catK_rest {p : Pc} {k : List Pc} {s : List UInt8} (hr : hasR p.rng s = false) : catK (p :: k) s = catK k s := by rw [catK, setP_no hr]; rfl
theorem catK_right : ∀ {k : List Pc}, rightP k = true → ∀ s, rightS (catK k s) = true
  | [], _, _ => rfl
  | p :: k, h, s => by
    cases hr : hasR p.rng s with
    | true => rw [catK_head h hr]; exact (onePc_iff.1 (rightP_head h)).2.2
    | false => rw [catK_rest hr]; exact catK_right (rightP_tail h) s
theorem atK_right {k : List Pc} (h : rightP k = true) (s : List UInt8) : atK k s = catK k s := ofS_self (catK_right h s)
theorem onePc_lo {p : Pc} (h : onePc p = true) : hasR p.rng p.rng.lo = true := hasR_lo (onePc_iff.1 h).1
theorem catK_lo {p : Pc} {k : List Pc} (h : rightP (p :: k) = true) : catK (p :: k) p.rng.lo = p.set := catK_head h (onePc_lo (rightP_head h))
theorem end_splitP {p q : Pc} {k m : List Pc} (hk : rightP (p :: k) = true) (hm : rightP (q :: m) = true) (he : p.rng.lo = q.rng.lo) (hset : p.set = q.set) (h : endLt p.rng q.rng = true) (hs : ∀ s, catK (p :: k) s = catK (q :: m) s) : False := by
  unfold endLt at h
  simp only [Bool.and_eq_true, Bool.not_eq_true'] at h
  obtain ⟨ho, h⟩ := h
  have p1 := (onePc_iff.1 (rightP_head hk)).1
  have q1 := onePc_iff.1 (rightP_head hm)
  have h1 := hs p.rng.hi
  have h2 : hasR q.rng p.rng.hi = true := by
    unfold hasR aheadR
    rw [q1.1, h, ← he, ltB_asymm (rightR_lt p1 ho)]; rfl
  rw [catK_head hm h2] at h1
  have h3 : hasR p.rng p.rng.hi = false := by
    unfold hasR aheadR; rw [ho, ltB_irrefl, Bool.false_or, Bool.and_false]
  rw [catK_rest h3] at h1
  cases k with
  | nil => exact q1.2.1 h1.symm
  | cons t k =>
    have h4 := catK_ge (rightP_tail hk) (by rw [h1]; exact q1.2.1)
    obtain ⟨-, h5, h6⟩ := rightP_gap hk
    have h7 : p.rng.hi = t.rng.lo := ltB_total h4 h5
    refine h6 h7 ?_
    rw [hset, ← h1, h7]
    exact catK_lo (rightP_tail hk)
theorem rightP_unique : ∀ {k m : List Pc}, rightP k = true → rightP m = true → (∀ s, catK k s = catK m s) → k = m
  | [], [], _, _, _ => rfl
  | [], q :: m, _, hm, h => by
    have := h q.rng.lo
    rw [catK_lo hm] at this
    exact absurd this.symm (onePc_iff.1 (rightP_head hm)).2.1
  | p :: k, [], hk, _, h => by
    have := h p.rng.lo
    rw [catK_lo hk] at this
    exact absurd this (onePc_iff.1 (rightP_head hk)).2.1
  | p :: k, q :: m, hk, hm, h => by
    have p1 := onePc_iff.1 (rightP_head hk)
    have q1 := onePc_iff.1 (rightP_head hm)
    have e1 : p.rng.lo = q.rng.lo := by
      have h1 : catK (q :: m) p.rng.lo ≠ [] := by rw [← h, catK_lo hk]; exact p1.2.1
      have h2 : catK (p :: k) q.rng.lo ≠ [] := by rw [h, catK_lo hm]; exact q1.2.1
      exact ltB_total (catK_ge hm h1) (catK_ge hk h2)
    have e0 : p.set = q.set := by
      have h1 := h p.rng.lo
      rwa [catK_lo hk, e1, catK_lo hm] at h1
    have e2 : endLt p.rng q.rng = false := by
      cases hc : endLt p.rng q.rng with
      | false => rfl
      | true => exact (end_splitP hk hm e1 e0 hc h).elim
    have e3 : endLt q.rng p.rng = false := by
      cases hc : endLt q.rng p.rng with
      | false => rfl
      | true => exact (end_splitP hm hk e1.symm e0.symm hc (fun s => (h s).symm)).elim
    obtain ⟨e4, e5⟩ := end_same p1.1 q1.1 e2 e3
    obtain rfl := pc_ext (rng_ext e1 e4 e5) e0
    have key : ∀ s, catK k s = catK m s := fun s => by
      cases hr : hasR p.rng s with
      | false => have := h s; rwa [catK_rest hr, catK_rest hr] at this
      | true =>
        have h1 : catK k s = [] := by
          cases hc : catK k s with
          | nil => rfl
          | cons x y =>
            have := (catK_apart hk (by rw [hc]; exact List.cons_ne_nil _ _)).1
            rw [hr] at this; cases this
        have h2 : catK m s = [] := by
          cases hc : catK m s with
          | nil => rfl
          | cons x y =>
            have := (catK_apart hm (by rw [hc]; exact List.cons_ne_nil _ _)).1
            rw [hr] at this; cases this
        rw [h1, h2]
    rw [rightP_unique (rightP_tail hk) (rightP_tail hm) key]

def mkP (f : List UInt8 → List Kn) : List (List UInt8) → Option (List UInt8 × List Kn) → List Pc
  | [], none => []
  | [], some (lo, S) => [⟨⟨lo, [], true⟩, S⟩]
  | e :: es, none => match f e with
    | [] => mkP f es none
    | x :: y => mkP f es (some (e, x :: y))
  | e :: es, some (lo, S) => match decide (f e = S) with
    | true => mkP f es (some (lo, S))
    | false => ⟨⟨lo, e, false⟩, S⟩ :: (match f e with
      | [] => mkP f es none
      | x :: y => mkP f es (some (e, x :: y)))
theorem mkP_none_no {f : List UInt8 → List Kn} {e : List UInt8} {es : List (List UInt8)} (h : f e = []) : mkP f (e :: es) none = mkP f es none := by rw [mkP, h]
theorem mkP_none_yes {f : List UInt8 → List Kn} {e : List UInt8} {es : List (List UInt8)} (h : f e ≠ []) : mkP f (e :: es) none = mkP f es (some (e, f e)) := by
  rw [mkP]
  cases hf : f e with
  | nil => exact absurd hf h
  | cons x y => rfl
theorem mkP_on {f : List UInt8 → List Kn} {e lo : List UInt8} {S : List Kn} {es : List (List UInt8)} (h : f e = S) : mkP f (e :: es) (some (lo, S)) = mkP f es (some (lo, S)) := by rw [mkP, decide_eq_true h]
theorem mkP_end {f : List UInt8 → List Kn} {e lo : List UInt8} {S : List Kn} {es : List (List UInt8)} (h : f e ≠ S) : mkP f (e :: es) (some (lo, S)) = ⟨⟨lo, e, false⟩, S⟩ :: mkP f (e :: es) none := by simp only [mkP, decide_eq_false h]
def floorP (f : List UInt8 → List Kn) : List Kn → List (List UInt8) → List UInt8 → List Kn
  | v, [], _ => v
  | v, x :: l, s => match ltB s x with | true => v | false => floorP f (f x) l s
theorem floorP_low {f : List UInt8 → List Kn} {v : List Kn} {l : List (List UInt8)} {s : List UInt8} (h : ∀ x ∈ l, ltB s x = true) : floorP f v l s = v := by
  cases l with
  | nil => rfl
  | cons x l => unfold floorP; rw [h x (List.mem_cons_self ..)]
def curP : Option (List UInt8 × List Kn) → List Kn
  | none => []
  | some x => x.2
theorem mkP_low (f : List UInt8 → List Kn) : ∀ (es : List (List UInt8)) (o : Option (List UInt8 × List Kn)) (c s : List UInt8), risingB c es = true → (∀ x, o = some x → ltB s x.1 = true) → (o = none → ltB c s = false) → (∀ x, o = some x → ltB c x.1 = false) → catK (mkP f es o) s = []
  | [], none, _, _, _, _, _, _ => rfl
  | [], some (lo, S), c, s, _, h, _, _ => by
    unfold mkP; rw [catK]
    have : hasR ⟨lo, [], true⟩ s = false := by unfold hasR; rw [h _ rfl]; simp
    rw [setP_no this]; rfl
  | e :: es, none, c, s, hr, _, h2, _ => by
    obtain ⟨h3, h4⟩ := rising_head hr
    have hse : ltB s e = true := ltB_of_le_of_lt (h2 rfl) h3
    by_cases hf : f e = []
    · rw [mkP_none_no hf]; exact mkP_low f es none e s h4 (fun x h => by cases h) (fun _ => ltB_asymm hse) (fun x h => by cases h)
    · rw [mkP_none_yes hf]; exact mkP_low f es _ e s h4 (fun x h => by injection h with h; subst h; exact hse) (fun h => by cases h) (fun x h => by injection h with h; subst h; exact ltB_irrefl _)
  | e :: es, some (lo, S), c, s, hr, h, _, hc => by
    obtain ⟨h3, h4⟩ := rising_head hr
    have hsl : ltB s lo = true := h _ rfl
    have h5 : ltB lo e = true := ltB_of_le_of_lt (hc _ rfl) h3
    have hse : ltB s e = true := ltB_trans hsl h5
    by_cases hf : f e = S
    · rw [mkP_on hf]; exact mkP_low f es _ e s h4 (fun x h' => by injection h' with h'; subst h'; exact hsl) (fun h => by cases h) (fun x h' => by injection h' with h'; subst h'; exact ltB_asymm h5)
    · have : hasR ⟨lo, e, false⟩ s = false := by unfold hasR; rw [hsl]; simp
      rw [mkP_end hf, catK, setP_no this, List.nil_append]
      by_cases hf : f e = []
      · rw [mkP_none_no hf]; exact mkP_low f es none e s h4 (fun x h => by cases h) (fun _ => ltB_asymm hse) (fun x h => by cases h)
      · rw [mkP_none_yes hf]; exact mkP_low f es _ e s h4 (fun x h => by injection h with h; subst h; exact hse) (fun h => by cases h) (fun x h => by injection h with h; subst h; exact ltB_irrefl _)
theorem mkP_has (f : List UInt8 → List Kn) : ∀ (es : List (List UInt8)) (o : Option (List UInt8 × List Kn)) (c s : List UInt8), risingB c es = true → (∀ x ∈ es, x.length ≤ 17) → (∀ x, o = some x → x.1.length ≤ 17 ∧ ltB c x.1 = false ∧ ltB s x.1 = false) → catK (mkP f es o) s = floorP f (curP o) es s
  | [], none, _, _, _, _, _ => rfl
  | [], some (lo, S), c, s, _, _, h => by
    obtain ⟨h1, _, h3⟩ := h _ rfl
    unfold mkP; rw [catK, setP_yes (by rw [hasR_open h1, h3]; rfl)]
    exact List.append_nil _
  | e :: es, none, c, s, hr, hl, _ => by
    obtain ⟨h3, h4⟩ := rising_head hr
    have hl' : ∀ x ∈ es, x.length ≤ 17 := fun x hx => hl x (List.mem_cons_of_mem _ hx)
    have he := hl e (List.mem_cons_self ..)
    unfold floorP
    cases hse : ltB s e with
    | true =>
      by_cases hf : f e = []
      · rw [mkP_none_no hf]; exact mkP_low f es none e s h4 (fun x h => by cases h) (fun _ => ltB_asymm hse) (fun x h => by cases h)
      · rw [mkP_none_yes hf]; exact mkP_low f es _ e s h4 (fun x h => by injection h with h; subst h; exact hse) (fun h => by cases h) (fun x h => by injection h with h; subst h; exact ltB_irrefl _)
    | false =>
      by_cases hf : f e = []
      · rw [mkP_none_no hf, hf]; exact mkP_has f es none e s h4 hl' (fun x h => by cases h)
      · rw [mkP_none_yes hf]; exact mkP_has f es (some (e, f e)) e s h4 hl' (fun x h => by injection h with h; subst h; exact ⟨he, ltB_irrefl _, hse⟩)
  | e :: es, some (lo, S), c, s, hr, hl, h => by
    obtain ⟨h3, h4⟩ := rising_head hr
    obtain ⟨k1, k2, k3⟩ := h _ rfl
    have hl' : ∀ x ∈ es, x.length ≤ 17 := fun x hx => hl x (List.mem_cons_of_mem _ hx)
    have he := hl e (List.mem_cons_self ..)
    have h5 : ltB lo e = true := ltB_of_le_of_lt k2 h3
    unfold floorP
    by_cases hf : f e = S
    · rw [mkP_on hf, mkP_has f es (some (lo, S)) e s h4 hl' (fun x h' => by injection h' with h'; subst h'; exact ⟨k1, ltB_asymm h5, k3⟩)]
      cases hse : ltB s e with
      | true => exact floorP_low fun x hx => ltB_trans hse (rising_all h4 x hx)
      | false => rw [hf]; rfl
    · rw [mkP_end hf, catK]
      have hh : hasR ⟨lo, e, false⟩ s = ltB s e := by rw [hasR_shut k1 he h5, k3]; rfl
      cases hse : ltB s e with
      | true =>
        rw [hse] at hh
        rw [setP_yes hh]
        have : catK (mkP f (e :: es) none) s = [] := by
          by_cases hf : f e = []
          · rw [mkP_none_no hf]; exact mkP_low f es none e s h4 (fun x h => by cases h) (fun _ => ltB_asymm hse) (fun x h => by cases h)
          · rw [mkP_none_yes hf]; exact mkP_low f es _ e s h4 (fun x h => by injection h with h; subst h; exact hse) (fun h => by cases h) (fun x h => by injection h with h; subst h; exact ltB_irrefl _)
        rw [this]
        exact List.append_nil _
      | false =>
        rw [hse] at hh
        rw [setP_no hh, List.nil_append]
        by_cases hf : f e = []
        · rw [mkP_none_no hf, hf]; exact mkP_has f es none e s h4 hl' (fun x h => by cases h)
        · rw [mkP_none_yes hf]; exact mkP_has f es (some (e, f e)) e s h4 hl' (fun x h => by injection h with h; subst h; exact ⟨he, ltB_irrefl _, hse⟩)
theorem mkP_first (f : List UInt8 → List Kn) : ∀ (es : List (List UInt8)) (o : Option (List UInt8 × List Kn)) (c : List UInt8) (t : Pc) (m : List Pc), risingB c es = true → mkP f es o = t :: m → (∀ x, o = some x → t.rng.lo = x.1 ∧ t.set = x.2) ∧ (o = none → ltB c t.rng.lo = true)
  | [], none, _, _, _, _, h => by cases h
  | [], some (lo, S), _, t, m, _, h => by
    unfold mkP at h; injection h with h h'; subst h
    exact ⟨(fun x e => by injection e with e; subst e; exact ⟨rfl, rfl⟩), (fun e => by cases e)⟩
  | e :: es, none, c, t, m, hr, h => by
    obtain ⟨h3, h4⟩ := rising_head hr
    refine ⟨(fun x e => by cases e), fun _ => ?_⟩
    by_cases hf : f e = []
    · rw [mkP_none_no hf] at h; exact ltB_trans h3 ((mkP_first f es none e t m h4 h).2 rfl)
    · rw [mkP_none_yes hf] at h; rw [((mkP_first f es _ e t m h4 h).1 _ rfl).1]; exact h3
  | e :: es, some (lo, S), c, t, m, hr, h => by
    obtain ⟨h3, h4⟩ := rising_head hr
    refine ⟨fun x e' => ?_, (fun e => by cases e)⟩
    injection e' with e'; subst e'
    by_cases hf : f e = S
    · rw [mkP_on hf] at h; exact (mkP_first f es _ e t m h4 h).1 _ rfl
    · rw [mkP_end hf] at h; injection h with h h'; subst h; exact ⟨rfl, rfl⟩
theorem onePc_of {r : Rng} {S : List Kn} (h1 : rightR r = true) (h2 : S ≠ []) (h3 : rightS S = true) : onePc ⟨r, S⟩ = true := onePc_iff.2 ⟨h1, h2, h3⟩
theorem mkP_right (f : List UInt8 → List Kn) (hf9 : ∀ s, rightS (f s) = true) : ∀ (es : List (List UInt8)) (o : Option (List UInt8 × List Kn)) (c : List UInt8), risingB c es = true → (∀ x ∈ es, x.length ≤ 17) → (∀ x, o = some x → x.1.length ≤ 17 ∧ ltB c x.1 = false ∧ x.2 ≠ [] ∧ rightS x.2 = true) → rightP (mkP f es o) = true
  | [], none, _, _, _, _ => rfl
  | [], some (lo, S), _, _, _, h => by
    obtain ⟨h1, -, h2, h3⟩ := h _ rfl
    exact onePc_of (rightR_iff.2 ⟨h1, by simp, fun _ => rfl, (fun h => by cases h)⟩) h2 h3
  | e :: es, none, c, hr, hl, _ => by
    obtain ⟨h3, h4⟩ := rising_head hr
    have hl' : ∀ x ∈ es, x.length ≤ 17 := fun x hx => hl x (List.mem_cons_of_mem _ hx)
    have he := hl e (List.mem_cons_self ..)
    by_cases hf : f e = []
    · rw [mkP_none_no hf]; exact mkP_right f hf9 es none e h4 hl' (fun x h => by cases h)
    · rw [mkP_none_yes hf]; exact mkP_right f hf9 es _ e h4 hl' (fun x h => by injection h with h; subst h; exact ⟨he, ltB_irrefl _, hf, hf9 e⟩)
  | e :: es, some (lo, S), c, hr, hl, h => by
    obtain ⟨h3, h4⟩ := rising_head hr
    obtain ⟨k1, k2, k3, k4⟩ := h _ rfl
    have hl' : ∀ x ∈ es, x.length ≤ 17 := fun x hx => hl x (List.mem_cons_of_mem _ hx)
    have he := hl e (List.mem_cons_self ..)
    have h5 : ltB lo e = true := ltB_of_le_of_lt k2 h3
    by_cases hf : f e = S
    · rw [mkP_on hf]; exact mkP_right f hf9 es _ e h4 hl' (fun x h' => by injection h' with h'; subst h'; exact ⟨k1, ltB_asymm h5, k3, k4⟩)
    · have hp : onePc ⟨⟨lo, e, false⟩, S⟩ = true := onePc_of (right_shut k1 he h5) k3 k4
      rw [mkP_end hf]
      by_cases hn : f e = []
      · rw [mkP_none_no hn]
        have h6 := mkP_right f hf9 es none e h4 hl' (fun x h => by cases h)
        cases hm : mkP f es none with
        | nil => exact hp
        | cons t m =>
          rw [hm] at h6
          have h7 := (mkP_first f es none e t m h4 hm).2 rfl
          have h8 : gapP ⟨⟨lo, e, false⟩, S⟩ t = true := gapP_iff.2 ⟨rfl, ltB_asymm h7, fun (e1 : e = t.rng.lo) => by rw [← e1, ltB_irrefl] at h7; cases h7⟩
          unfold rightP; rw [hp, h8, h6]; rfl
      · rw [mkP_none_yes hn]
        have h6 := mkP_right f hf9 es (some (e, f e)) e h4 hl' (fun x h => by injection h with h; subst h; exact ⟨he, ltB_irrefl _, hn, hf9 e⟩)
        cases hm : mkP f es (some (e, f e)) with
        | nil => exact hp
        | cons t m =>
          rw [hm] at h6
          obtain ⟨h7, h7'⟩ := (mkP_first f es _ e t m h4 hm).1 _ rfl
          simp only at h7 h7'
          have h8 : gapP ⟨⟨lo, e, false⟩, S⟩ t = true := gapP_iff.2 ⟨rfl, by rw [h7]; exact ltB_irrefl _, fun _ => by rw [h7']; exact fun e => hf e.symm⟩
          unfold rightP; rw [hp, h8, h6]; rfl
def DetP (f : List UInt8 → List Kn) (E : List (List UInt8)) : Prop := ∀ s c, (∀ x ∈ E, ltB s x = ltB c x) → f s = f c
theorem floorP_det (f : List UInt8 → List Kn) (s : List UInt8) : ∀ (es D : List (List UInt8)) (c : List UInt8), risingB c es = true → (∀ x ∈ D, ltB c x = false) → ltB s c = false → DetP f (D ++ es) → floorP f (f c) es s = f s
  | [], D, c, _, hD, hs, h => by
    refine (h s c fun x hx => ?_).symm
    rw [List.append_nil] at hx
    rw [hD x hx]
    exact leB_trans (hD x hx) hs
  | x :: l, D, c, hr, hD, hs, h => by
    obtain ⟨h3, h4⟩ := rising_head hr
    unfold floorP
    cases hx : ltB s x with
    | true =>
      refine (h s c fun y hy => ?_).symm
      rcases List.mem_append.1 hy with hy | hy
      · rw [hD y hy]; exact leB_trans (hD y hy) hs
      · have h5 := rising_all hr y hy
        rw [h5]
        rcases List.mem_cons.1 hy with rfl | hy
        · exact hx
        · exact ltB_trans hx (rising_all h4 y hy)
    | false =>
      refine floorP_det f s l (D ++ [x]) x h4 (fun y hy => ?_) hx (by rw [List.append_assoc]; exact h)
      rcases List.mem_append.1 hy with hy | hy
      · exact ltB_asymm (ltB_of_le_of_lt (hD y hy) h3)
      · rw [List.mem_singleton.1 hy]; exact ltB_irrefl _
theorem mkP_all {f : List UInt8 → List Kn} {E : List (List UInt8)} (hf9 : ∀ s, rightS (f s) = true) (hE : EdgesOk E) (hd : DetP f E) : rightP (mkP f E none) = true ∧ ∀ s, catK (mkP f E none) s = f s := by
  obtain ⟨es, rfl, hr, hl⟩ := hE
  by_cases hf : f [] = []
  · rw [mkP_none_no hf]
    refine ⟨mkP_right f hf9 es none [] hr hl (fun x h => by cases h), fun s => ?_⟩
    rw [mkP_has f es none [] s hr hl (fun x h => by cases h)]
    have := floorP_det f s es [[]] [] hr (fun x hx => by rw [List.mem_singleton.1 hx]; exact ltB_nil _) (ltB_nil _) hd
    rwa [hf] at this
  · rw [mkP_none_yes hf]
    refine ⟨mkP_right f hf9 es _ [] hr hl (fun x h => by injection h with h; subst h; exact ⟨Nat.zero_le _, ltB_nil _, hf, hf9 []⟩), fun s => ?_⟩
    rw [mkP_has f es (some ([], f [])) [] s hr hl (fun x h => by injection h with h; subst h; exact ⟨Nat.zero_le _, ltB_nil _, ltB_nil _⟩)]
    exact floorP_det f s es [[]] [] hr (fun x hx => by rw [List.mem_singleton.1 hx]; exact ltB_nil _) (ltB_nil _) hd
end Go.Proofs.YtopjhebhdopjpaaGreat

namespace Go.Proofs.YtopjhebhdopjpaaGreat

def whatP (op : Int) (a b : List Pc) (l : List Rng) (s : List UInt8) : List Kn :=
  match decide (op = 1) with
  | true => makeS 1 (atK a s) (atK b s)
  | false => match decide (op = 2) with
    | true => makeS 3 (atK a s) (atK b s)
    | false => match hasL l s with
      | true => atK a s
      | false => []
theorem whatP1 (a b : List Pc) (l : List Rng) (s : List UInt8) : whatP 1 a b l s = makeS 1 (atK a s) (atK b s) := rfl
theorem whatP2 (a b : List Pc) (l : List Rng) (s : List UInt8) : whatP 2 a b l s = makeS 3 (atK a s) (atK b s) := rfl
theorem whatP3_in {a b : List Pc} {l : List Rng} {s : List UInt8} (h : hasL l s = true) : whatP 3 a b l s = atK a s := by
  show (match hasL l s with | true => atK a s | false => []) = _
  rw [h]
theorem whatP3_out {a b : List Pc} {l : List Rng} {s : List UInt8} (h : hasL l s = false) : whatP 3 a b l s = [] := by
  show (match hasL l s with | true => atK a s | false => []) = _
  rw [h]
def spansP (k : List Pc) : List Rng := k.map Pc.rng
theorem spansP_mem {k : List Pc} {p : Pc} (h : p ∈ k) : p.rng ∈ spansP k := List.mem_map.2 ⟨p, h, rfl⟩
def makeP (op : Int) (a b : List Pc) (l : List Rng) : List Pc := mkP (whatP op a b l) (edgesL (spansP a ++ (spansP b ++ l))) none
theorem setP_det {p : Pc} {E : List (List UInt8)} (h : rightR p.rng = true → p.rng.lo ∈ E ∧ (p.rng.op = false → p.rng.hi ∈ E)) : DetP (setP p) E := fun s c hs => by
  unfold setP; rw [hasR_det h s c hs]
theorem catK_det : ∀ {k : List Pc} {E : List (List UInt8)}, (∀ p ∈ k, rightR p.rng = true → p.rng.lo ∈ E ∧ (p.rng.op = false → p.rng.hi ∈ E)) → DetP (catK k) E
  | [], _, _ => fun _ _ _ => rfl
  | p :: k, E, h => fun s c hs => by
    rw [catK, catK, setP_det (h p (List.mem_cons_self ..)) s c hs, catK_det (fun q hq => h q (List.mem_cons_of_mem _ hq)) s c hs]
theorem atK_det {k : List Pc} {E : List (List UInt8)} (h : ∀ p ∈ k, rightR p.rng = true → p.rng.lo ∈ E ∧ (p.rng.op = false → p.rng.hi ∈ E)) : DetP (atK k) E := fun s c hs => by
  unfold atK; rw [catK_det h s c hs]
theorem atK_is_right (k : List Pc) (s : List UInt8) : rightS (atK k s) = true := ofS_right _
theorem whatP_right (op : Int) (a b : List Pc) (l : List Rng) (s : List UInt8) : rightS (whatP op a b l s) = true := by
  unfold whatP
  cases decide (op = 1)
  · cases decide (op = 2)
    · cases hasL l s
      · rfl
      · exact atK_is_right a s
    · exact makeS_right _ _ _
  · exact makeS_right _ _ _
theorem whatP_det (op : Int) (a b : List Pc) (l : List Rng) : DetP (whatP op a b l) (edgesL (spansP a ++ (spansP b ++ l))) := fun s c hs => by
  have ha : DetP (atK a) (edgesL (spansP a ++ (spansP b ++ l))) := atK_det fun p hp hR => edges_mem (spansP a ++ (spansP b ++ l)) [[]] (List.mem_append.2 (.inl (spansP_mem hp))) hR
  have hb : DetP (atK b) (edgesL (spansP a ++ (spansP b ++ l))) := atK_det fun p hp hR => edges_mem (spansP a ++ (spansP b ++ l)) [[]] (List.mem_append.2 (.inr (List.mem_append.2 (.inl (spansP_mem hp))))) hR
  have hl : Det (hasL l) (edgesL (spansP a ++ (spansP b ++ l))) := hasL_det fun r hr hR => edges_mem (spansP a ++ (spansP b ++ l)) [[]] (List.mem_append.2 (.inr (List.mem_append.2 (.inr hr)))) hR
  unfold whatP
  rw [ha s c hs, hb s c hs, hl s c hs]
theorem makeP_ok (op : Int) (a b : List Pc) (l : List Rng) : rightP (makeP op a b l) = true ∧ ∀ s, catK (makeP op a b l) s = whatP op a b l s :=
  mkP_all (whatP_right op a b l) (edgesL_ok _) (whatP_det op a b l)
theorem makeP_right (op : Int) (a b : List Pc) (l : List Rng) : rightP (makeP op a b l) = true := (makeP_ok op a b l).1
theorem makeP_cat (op : Int) (a b : List Pc) (l : List Rng) (s : List UInt8) : catK (makeP op a b l) s = whatP op a b l s := (makeP_ok op a b l).2 s
theorem makeP_at (op : Int) (a b : List Pc) (l : List Rng) (s : List UInt8) : atK (makeP op a b l) s = whatP op a b l s := by rw [atK_right (makeP_right op a b l), makeP_cat]
def ofP (k : List Pc) : List Pc := makeP 1 k [] []
def joinP (a b : List Pc) : List Pc := makeP 1 a b []
def lessP (a b : List Pc) : List Pc := makeP 2 a b []
def restP (k : List Pc) (l : List Rng) : List Pc := makeP 3 k [] l
theorem atK_nil (s : List UInt8) : atK [] s = [] := ofS_nil
theorem atK_of (k : List Pc) (s : List UInt8) : ofS (atK k s) = atK k s := ofS_self (atK_is_right k s)
theorem ofP_at (k : List Pc) (s : List UInt8) : atK (ofP k) s = atK k s := by
  rw [ofP, makeP_at, whatP1, atK_nil]; exact atK_of k s
theorem joinP_at (a b : List Pc) (s : List UInt8) : atK (joinP a b) s = makeS 1 (atK a s) (atK b s) := by rw [joinP, makeP_at, whatP1]
theorem lessP_at (a b : List Pc) (s : List UInt8) : atK (lessP a b) s = makeS 3 (atK a s) (atK b s) := by rw [lessP, makeP_at, whatP2]
theorem restP_in {k : List Pc} {l : List Rng} {s : List UInt8} (h : hasL l s = true) : atK (restP k l) s = atK k s := by rw [restP, makeP_at, whatP3_in h]
theorem restP_out {k : List Pc} {l : List Rng} {s : List UInt8} (h : hasL l s = false) : atK (restP k l) s = [] := by rw [restP, makeP_at, whatP3_out h]
theorem atP_unique {u v : List Pc} (hu : rightP u = true) (hv : rightP v = true) (h : ∀ s, atK u s = atK v s) : u = v :=
  rightP_unique hu hv fun s => by rw [← atK_right hu, ← atK_right hv, h]
theorem ofP_iff {a b : List Pc} : ofP a = ofP b ↔ ∀ s, atK a s = atK b s :=
  ⟨fun h s => by rw [← ofP_at a, ← ofP_at b, h], fun h => atP_unique (makeP_right ..) (makeP_right ..) fun s => by rw [ofP_at, ofP_at, h]⟩
theorem ofP_self {k : List Pc} (h : rightP k = true) : ofP k = k := atP_unique (makeP_right ..) h (ofP_at k)
theorem rightP_empty {u : List Pc} (h : rightP u = true) (hs : ∀ s, atK u s = []) : u = [] := atP_unique h rfl fun s => by rw [hs, atK_nil]
theorem lessP_iff {a b : List Pc} : lessP a b = [] ↔ ∀ s, makeS 3 (atK a s) (atK b s) = [] :=
  ⟨fun h s => by rw [← lessP_at, h, atK_nil], fun h => rightP_empty (makeP_right ..) fun s => by rw [lessP_at, h]⟩
theorem joinP_comm (a b : List Pc) : joinP a b = joinP b a := atP_unique (makeP_right ..) (makeP_right ..) fun s => by rw [joinP_at, joinP_at, makeS_back1]
theorem lessP_on (a b : List Pc) : lessP a (joinP a b) = [] := lessP_iff.2 fun s => by rw [joinP_at, makeS_on]
theorem lessP_on' (a b : List Pc) : lessP b (joinP a b) = [] := by rw [joinP_comm]; exact lessP_on b a
theorem makeS_nil2 (a : List Kn) : makeS 1 a [] = ofS a := rfl
theorem makeS_nil1 (a : List Kn) : makeS 1 [] a = ofS a := makeS_back1 a []
theorem atK_append (a b : List Pc) (s : List UInt8) : atK (a ++ b) s = makeS 1 (atK a s) (atK b s) := by
  unfold atK
  rw [catK_append]
  exact makeS_unique (ofS_right _) fun r n => by rw [ofS_has, ofS_has, ofS_has, hasK_append, gC1]
theorem joinP_append (a b : List Pc) : joinP a b = ofP (a ++ b) := atP_unique (makeP_right ..) (makeP_right ..) fun s => by rw [joinP_at, ofP_at, atK_append]
theorem mkP_len (f : List UInt8 → List Kn) : ∀ (es : List (List UInt8)) (o : Option (List UInt8 × List Kn)), (mkP f es o).length ≤ es.length + (match o with | none => 0 | some _ => 1)
  | [], none => Nat.le_refl _
  | [], some (lo, S) => Nat.le_refl _
  | e :: es, none => by
    by_cases h : f e = []
    · rw [mkP_none_no h]; have := mkP_len f es none; simp only [List.length_cons] at *; omega
    · rw [mkP_none_yes h]; have := mkP_len f es (some (e, f e)); simp only [List.length_cons] at *; omega
  | e :: es, some (lo, S) => by
    by_cases h : f e = S
    · rw [mkP_on h]; have := mkP_len f es (some (lo, S)); simp only [List.length_cons] at *; omega
    · rw [mkP_end h, List.length_cons]
      by_cases h' : f e = []
      · rw [mkP_none_no h']; have := mkP_len f es none; simp only [List.length_cons] at *; omega
      · rw [mkP_none_yes h']; have := mkP_len f es (some (e, f e)); simp only [List.length_cons] at *; omega
theorem makeP_len (op : Int) (a b : List Pc) (l : List Rng) : (makeP op a b l).length ≤ 1 + 2 * (a.length + (b.length + l.length)) := by
  have h1 := mkP_len (whatP op a b l) (edgesL (spansP a ++ (spansP b ++ l))) none
  have h2 := edgesL_len (spansP a ++ (spansP b ++ l))
  simp only [List.length_append, spansP, List.length_map] at h2
  unfold makeP
  unfold spansP at h1 ⊢
  simp only at h1
  omega
end Go.Proofs.YtopjhebhdopjpaaGreat

namespace Go.Proofs.YtopjhebhdopjpaaGreat
open Go.RowKit

theorem runsV_part (s : List Kn) (k : Nat) (r : Int) : (runsV (s.take k) r).length ≤ (runsV s r).length := by
  conv => rhs; rw [← List.take_append_drop k s, runsV_append, List.length_append]
  omega
set_option maxRecDepth 100000 in
set_option maxHeartbeats 4000000 in
theorem ref_vruns (A : Option Addr) (c n : Nat) (s : List Kn) (r : Int) (hn : n = s.length) (N : Nat) (hN : (runsV s r).length = N) (hNl : N ≤ 100000) (w : World) (hr : RdK w w.heap.size A c s) :
    Calls Tryz.prog 102 #[.slice A n c, .int .i64 r] w (RetC w N (runsV s r)) := by
  have HN := Lib.hid hn
  have HR := Lib.hid hr
  have HNN := Lib.hid hN
  have hmx := rdk_max hr hn
  have hcx : n ≤ c := by rw [hn]; exact hr.room
  clear hn hr hN
  go_enter Tryz.func102, Tryz.ntmps102
  go_wp2_with fail
  go_loopw [5, 6] (fun v i wr => ∃ k : Nat, k ≤ n ∧ Hid (kRn.Own wr w.heap.size v (runsV (s.take k) r)) ∧ i = .int .i64 k ∧ Hid (Below w.heap.size w wr)) (fun _ i _ => n - (intOf i).toNat)
  case atStart => exact ⟨0, by omega, Kind.Own.nil _ _, rfl, Below.refl _ _⟩
  case round =>
    obtain ⟨k, hk, HO, rfl, HB⟩ := hrel
    by_cases hlt : k < n
    · obtain ⟨x, hg, -, -⟩ := cnt_get (l := s) (k := k) (by have := HN.out; omega)
      obtain ⟨b, o, rfl, hb1, hcell⟩ := knowns_at (HR.out.below HB.out) (by have := HN.out; omega)
      obtain ⟨A', n', c', hn', hrd, c0, c1⟩ := hcell k x hg
      have HT := Lib.hid (runsV_take r hg)
      have HLE := Lib.hid (show (runsV (s.take k) r).length + (partV x r).length ≤ 1000000 by
        have h1 := runsV_part s (k + 1) r
        rw [HT.out, List.length_append, HNN.out] at h1
        omega)
      have HX := Lib.hid hrd.row
      have HN' := Lib.hid hn'
      obtain ⟨R, hR⟩ : ∃ R, x.rep = R := ⟨_, rfl⟩
      rw [hR] at c0
      have hk0 : (0 : Int) ≤ (k : Int) := by omega
      have hkn : (k : Int) < (n : Int) := by omega
      by_cases he : R = r
      · have HP := Lib.hid (partV_yes (hR.trans he))
        have hd : (R == r) = true := beq_iff_eq.2 he
        rw [HP.out] at HLE HT
        clear hcell hg hrd hn' hR he
        go_wp2_with (at_builtin; refine wpList_app_k kRn rfl (.tmp 20) (.tmp 25) rfl w.heap.size _ _ rfl HO.out _ A' c' n' x.runs HN'.out rfl HX.out HLE.out (by decide) HB.out.size ?_; intro v3 w3 hown3 _ hb3 _; have HB3 := Lib.hid (HB.out.trans hb3); have HO3 := Lib.hid hown3; clear hb3 hown3)
        go_roundw
        case rel => exact ⟨k + 1, by omega, show kRn.Own _ _ _ _ from by rw [HT.out]; exact HO3.out, by go_num, HB3⟩
        case measure => simp [intOf]; omega
      · have HP := Lib.hid (partV_no (k := x) (r := r) (by rw [hR]; exact he))
        have hd : (R == r) = false := beq_eq_false_iff_ne.2 he
        rw [HP.out, List.append_nil] at HT
        clear hcell hg hrd hn' hR he
        go_wp2_with fail
        go_roundw
        case rel => exact ⟨k + 1, by omega, show kRn.Own _ _ _ _ from by rw [HT.out]; exact HO.out, by go_num, HB⟩
        case measure => simp [intOf]; omega
    · have HT := Lib.hid (show runsV (s.take k) r = runsV s r by rw [List.take_of_length_le (by have := HN.out; omega)])
      obtain ⟨A9, c9, rfl, hrd⟩ := HO.out.read_n (show N = (runsV (s.take k) r).length by rw [HT.out]; exact HNN.out.symm)
      have HF := Lib.hid (show kRn.Rd wr wr.heap.size A9 c9 (runsV s r) from HT.out ▸ hrd)
      clear hrd HO HT
      go_wp2_with fail
      go_ret
      exact ⟨A9, c9, rfl, HF.out, HB.out⟩
def longV (m : Nat) (s : List Kn) : Bool := decide (m < s.length) || s.any fun k => decide (m < k.runs.length)
theorem longV_size {m : Nat} {s : List Kn} (h : longV m s = false) : sizeV m s := by
  unfold longV at h
  simp only [Bool.or_eq_false_iff, decide_eq_false_iff_not, List.any_eq_false, decide_eq_true_eq] at h
  exact ⟨by omega, fun k hk => by have := h.2 k hk; omega⟩
set_option maxRecDepth 100000 in
set_option maxHeartbeats 4000000 in
theorem ref_vlong (m : Nat) (y : Int) (hy : (m : Int) = y) (hml : m ≤ 1000) (A : Option Addr) (c n : Nat) (s : List Kn) (hn : n = s.length) (v : Bool) (hv : longV m s = v) (w : World) (hr : RdK w w.heap.size A c s) :
    Calls Tryz.prog 18 #[.slice A n c, .int .i64 y] w fun e w' => e = .returned (.bool v) ∧ Below w.heap.size w w' := by
  subst hy
  have HN := Lib.hid hn
  have HR := Lib.hid hr
  have HV := Lib.hid hv
  have hmx := rdk_max hr hn
  have hcx : n ≤ c := by rw [hn]; exact hr.room
  by_cases h1 : m < n
  · have HV := Lib.hid (show true = v by rw [← hv]; unfold longV; rw [← hn, decide_eq_true h1]; rfl)
    have hd : decide (m < n) = true := decide_eq_true h1
    have HB := Lib.hid (Below.refl w.heap.size w)
    clear hn hr hv h1
    go_enter Tryz.func18, Tryz.ntmps18
    go_wp2_with fail
    go_ret
    exact ⟨ret_bool HV.out, HB.out⟩
  · have HV := Lib.hid (show (s.any fun k => decide (m < k.runs.length)) = v by rw [← hv]; unfold longV; rw [← hn, decide_eq_false h1]; rfl)
    have hd : decide (m < n) = false := decide_eq_false h1
    clear hn hr hv
    go_enter Tryz.func18, Tryz.ntmps18
    go_wp2_with fail
    go_loopw [5] (fun i wr => ∃ k : Nat, k ≤ n ∧ Hid (((s.drop k).any fun k => decide (m < k.runs.length)) = v) ∧ i = .int .i64 k ∧ Hid (Below w.heap.size w wr)) (fun i _ => n - (intOf i).toNat)
    case atStart => exact ⟨0, by omega, HV.out, rfl, Below.refl _ _⟩
    case round =>
      obtain ⟨k, hk, HL, rfl, HB⟩ := hrel
      by_cases hlt : k < n
      · obtain ⟨x, hg, hd2, -⟩ := cnt_get (l := s) (k := k) (by have := HN.out; omega)
        obtain ⟨b, o, rfl, hb1, hcell⟩ := knowns_at (HR.out.below HB.out) (by have := HN.out; omega)
        obtain ⟨A', n', c', hn', hrd, c0, c1⟩ := hcell k x hg
        have hmx' := rd_maxC hrd hn'
        have hL := HL.out
        rw [hd2, List.any_cons, ← hn'] at hL
        have hk0 : (0 : Int) ≤ (k : Int) := by omega
        have hkn : (k : Int) < (n : Int) := by omega
        by_cases he : m < n'
        · have HF := Lib.hid (show true = v by rw [← hL, decide_eq_true he]; rfl)
          have hdm : decide (m < n') = true := decide_eq_true he
          clear hcell hg hd2 hrd hn' hL he HL
          go_wp2_with fail
          go_ret
          exact ⟨ret_bool HF.out, HB.out⟩
        · have HF := Lib.hid (show ((s.drop (k + 1)).any fun k => decide (m < k.runs.length)) = v by rw [← hL, decide_eq_false he]; rfl)
          have hdm : decide (m < n') = false := decide_eq_false he
          clear hcell hg hd2 hrd hn' hL he HL
          go_wp2_with fail
          go_roundw
          case rel => exact ⟨k + 1, by omega, HF, by go_num, HB⟩
          case measure => simp [intOf]; omega
      · have HF := Lib.hid (show false = v by rw [← HL.out, List.drop_eq_nil_of_le (by have := HN.out; omega)]; rfl)
        go_wp2_with fail
        go_ret
        exact ⟨ret_bool HF.out, HB.out⟩
end Go.Proofs.YtopjhebhdopjpaaGreat

namespace Go.Proofs.YtopjhebhdopjpaaGreat
open Go.RowKit

theorem sameC_iff : ∀ {a b : List Rn}, sameC a b = true ↔ a = b
  | [], [] => by simp [sameC]
  | [], _ :: _ => by simp [sameC]
  | _ :: _, [] => by simp [sameC]
  | r :: a, t :: b => by
    rw [sameC, Bool.and_eq_true, Bool.and_eq_true, beq_iff_eq, beq_iff_eq, sameC_iff (a := a), List.cons.injEq]
    constructor
    · exact fun h => ⟨rn_ext h.1.1 h.1.2, h.2⟩
    · exact fun h => ⟨by rw [h.1]; exact ⟨rfl, rfl⟩, h.2⟩
theorem sameC_len {a b : List Rn} (h : a.length ≠ b.length) : sameC a b = false := by
  cases h1 : sameC a b
  · rfl
  · exact absurd (congrArg List.length (sameC_iff.1 h1)) h
set_option maxHeartbeats 2000000 in
theorem ref_csame_any (A B : Option Addr) (c d n m : Nat) (a b : List Rn) (hn : n = a.length) (hm : m = b.length) (v : Bool) (hv : sameC a b = v) (w : World) (ha : kRn.Rd w w.heap.size A c a) (hb : kRn.Rd w w.heap.size B d b) :
    Calls Tryz.prog 43 #[.slice A n c, .slice B m d] w fun e w' => e = .returned (.bool v) ∧ Below w.heap.size w w' := by
  by_cases hnm : n = m
  · subst hnm
    have HN := Lib.hid hn
    have HM := Lib.hid hm
    have HA := Lib.hid ha
    have HB := Lib.hid hb
    have HV := Lib.hid hv
    have hmx := rd_maxC ha hn
    have hcx : n ≤ c := by rw [hn]; exact ha.room
    have hcy : n ≤ d := by rw [hm]; exact hb.room
    clear hn hm ha hb hv
    go_enter Tryz.func43, Tryz.ntmps43
    go_wp2_with fail
    go_loopw [5] (fun i wr => ∃ k q : Nat, k ≤ n ∧ i = .int .i64 k ∧ Hid (sameC (a.drop k) (b.drop k) = v) ∧ wr = w.drewN q) (fun i _ => n - (intOf i).toNat)
    case atStart => exact ⟨0, 0, by omega, rfl, HV, rfl⟩
    case round =>
      obtain ⟨k, q, hk, rfl, HL, rfl⟩ := hrel
      by_cases hlt : k < n
      · obtain ⟨r, hg, hd, -⟩ := cnt_get (l := a) (k := k) (by have := HN.out; omega)
        obtain ⟨t, hgt, hdt, -⟩ := cnt_get (l := b) (k := k) (by have := HM.out; omega)
        obtain ⟨b1, o1, rfl, hb1, hcell1⟩ := rns_at HA.out (by have := HN.out; omega)
        obtain ⟨b2, o2, rfl, hb2, hcell2⟩ := rns_at HB.out (by have := HM.out; omega)
        obtain ⟨a0, a1⟩ := hcell1 k r hg
        obtain ⟨c0, c1⟩ := hcell2 k t hgt
        obtain ⟨e, he⟩ : ∃ e, (r.fr == t.fr && r.to == t.to) = e := ⟨_, rfl⟩
        have EQ := fun w => eq_rn r.fr r.to t.fr t.to e he w
        have hL := HL.out
        rw [hd, hdt, sameC, he] at hL
        have hk0 : (0 : Int) ≤ (k : Int) := by omega
        have hkn : (k : Int) < (n : Int) := by omega
        obtain ⟨X, hX⟩ : ∃ X, r.fr = X := ⟨_, rfl⟩
        obtain ⟨Y, hY⟩ : ∃ Y, r.to = Y := ⟨_, rfl⟩
        obtain ⟨Z, hZ⟩ : ∃ Z, t.fr = Z := ⟨_, rfl⟩
        obtain ⟨V, hV⟩ : ∃ V, t.to = V := ⟨_, rfl⟩
        rw [hX, hY, hZ, hV] at EQ
        rw [hX] at a0
        rw [hY] at a1
        rw [hZ] at c0
        rw [hV] at c1
        cases e
        · have HF := Lib.hid (show false = v from hL)
          clear hcell1 hcell2 hg hgt hd hdt hX hY hZ hV he hL HL
          go_wp2_with fail
          go_quiet (fail)
          go_wp2_with fail
          go_ret
          exact ⟨ret_bool HF.out, below_drewN (below_drewN (Below.refl _ _) _) _⟩
        · have HF := Lib.hid (show sameC (a.drop (k + 1)) (b.drop (k + 1)) = v from hL)
          clear hcell1 hcell2 hg hgt hd hdt hX hY hZ hV he hL HL
          go_wp2_with fail
          go_quiet (fail)
          go_wp2_with fail
          go_roundw
          case rel => exact ⟨k + 1, _, by omega, by go_num, HF, rfl⟩
          case measure => simp [intOf]; omega
      · have HF := Lib.hid (show true = v by rw [← HL.out, List.drop_eq_nil_of_le (by have := HN.out; omega), List.drop_eq_nil_of_le (by have := HM.out; omega)]; rfl)
        go_wp2_with fail
        go_ret
        exact ⟨ret_bool HF.out, below_drewN (Below.refl _ _) _⟩
  · have HF := Lib.hid (show false = v by rw [← hv, sameC_len (by omega)])
    have hd : (n == m) = false := beq_eq_false_iff_ne.2 hnm
    have HW := Lib.hid (Below.refl w.heap.size w)
    clear hn hm ha hb hv
    go_enter Tryz.func43, Tryz.ntmps43
    go_wp2_with fail
    go_ret
    exact ⟨ret_bool HF.out, HW.out⟩
def sameS : List Kn → List Kn → Bool
  | [], [] => true
  | x :: a, y :: b => ((x.rep == y.rep) && sameC x.runs y.runs) && sameS a b
  | _, _ => false
theorem sameS_iff : ∀ {a b : List Kn}, sameS a b = true ↔ a = b
  | [], [] => by simp [sameS]
  | [], _ :: _ => by simp [sameS]
  | _ :: _, [] => by simp [sameS]
  | r :: a, t :: b => by
    rw [sameS, Bool.and_eq_true, Bool.and_eq_true, beq_iff_eq, sameC_iff, sameS_iff (a := a), List.cons.injEq]
    constructor
    · exact fun h => ⟨kn_ext h.1.1 h.1.2, h.2⟩
    · exact fun h => ⟨by rw [h.1]; exact ⟨rfl, rfl⟩, h.2⟩
theorem sameS_len {a b : List Kn} (h : a.length ≠ b.length) : sameS a b = false := by
  cases h1 : sameS a b
  · rfl
  · exact absurd (congrArg List.length (sameS_iff.1 h1)) h
set_option maxRecDepth 100000 in
set_option maxHeartbeats 4000000 in
theorem ref_vsame (A B : Option Addr) (c d n m : Nat) (a b : List Kn) (hn : n = a.length) (hm : m = b.length) (v : Bool) (hv : sameS a b = v) (w : World) (ha : RdK w w.heap.size A c a) (hb : RdK w w.heap.size B d b) :
    Calls Tryz.prog 25 #[.slice A n c, .slice B m d] w fun e w' => e = .returned (.bool v) ∧ Below w.heap.size w w' := by
  by_cases hnm : n = m
  · subst hnm
    have HN := Lib.hid hn
    have HM := Lib.hid hm
    have HA := Lib.hid ha
    have HB := Lib.hid hb
    have HV := Lib.hid hv
    have hmx := rdk_max ha hn
    have hcx : n ≤ c := by rw [hn]; exact ha.room
    have hcy : n ≤ d := by rw [hm]; exact hb.room
    clear hn hm ha hb hv
    go_enter Tryz.func25, Tryz.ntmps25
    go_wp2_with fail
    go_loopw [5] (fun i wr => ∃ k : Nat, k ≤ n ∧ i = .int .i64 k ∧ Hid (sameS (a.drop k) (b.drop k) = v) ∧ Hid (Below w.heap.size w wr)) (fun i _ => n - (intOf i).toNat)
    case atStart => exact ⟨0, by omega, rfl, HV, Below.refl _ _⟩
    case round =>
      obtain ⟨k, hk, rfl, HL, HW⟩ := hrel
      by_cases hlt : k < n
      · obtain ⟨r, hg, hd, -⟩ := cnt_get (l := a) (k := k) (by have := HN.out; omega)
        obtain ⟨t, hgt, hdt, -⟩ := cnt_get (l := b) (k := k) (by have := HM.out; omega)
        obtain ⟨b1, o1, rfl, hb1, hcell1⟩ := knowns_at (HA.out.below HW.out) (by have := HN.out; omega)
        obtain ⟨b2, o2, rfl, hb2, hcell2⟩ := knowns_at (HB.out.below HW.out) (by have := HM.out; omega)
        obtain ⟨A1, n1, c1, hn1, hr1, p0, p1⟩ := hcell1 k r hg
        obtain ⟨A2, n2, c2, hn2, hr2, q0, q1⟩ := hcell2 k t hgt
        obtain ⟨e, he⟩ : ∃ e, sameC r.runs t.runs = e := ⟨_, rfl⟩
        have hL := HL.out
        rw [hd, hdt, sameS, he] at hL
        have hk0 : (0 : Int) ≤ (k : Int) := by omega
        have hkn : (k : Int) < (n : Int) := by omega
        have CS := Lib.hid (fun (L : List (Addr × Value)) => fun (W : World) (hC : CellL wr L W) => (ref_csame_any A1 A2 c1 c2 n1 n2 r.runs t.runs hn1 hn2 e he W ((hr1.more HW.out.size).call (cellL_size hC)) ((hr2.more HW.out.size).call (cellL_size hC))).mono fun (e' : Ending) (W' : World) ⟨h1, h2⟩ => (⟨h1, cellL_call h2 hC⟩ : e' = Ending.returned (.bool e) ∧ CellL wr L W'))
        obtain ⟨X, hX⟩ : ∃ X, r.rep = X := ⟨_, rfl⟩
        obtain ⟨Z, hZ⟩ : ∃ Z, t.rep = Z := ⟨_, rfl⟩
        rw [hX] at p0 hL
        rw [hZ] at q0 hL
        obtain ⟨f, hf⟩ : ∃ f, (X == Z) = f := ⟨_, rfl⟩
        rw [hf] at hL
        have hf2 : (X != Z) = !f := by rw [← hf]; rfl
        have HC := Lib.hid (show CellL wr [(⟨b1, o1 + k * 2, none⟩, .int .i64 X), (⟨b1, o1 + k * 2 + 1, none⟩, .slice A1 n1 c1), (⟨b2, o2 + k * 2, none⟩, .int .i64 Z), (⟨b2, o2 + k * 2 + 1, none⟩, .slice A2 n2 c2)] wr from ⟨p0, p1, q0, q1, Below.refl _ _⟩)
        have HF := Lib.hid hL
        clear hcell1 hcell2 hg hgt hd hdt hX hZ he hL HL hr1 hr2 hn1 hn2 p0 p1 q0 q1
        cases f <;> cases e
        all_goals simp only [Bool.not_true, Bool.not_false] at hf2
        all_goals
          go_wp2_with fail
          refine q_region (CellL wr [(⟨b1, o1 + k * 2, none⟩, .int .i64 X), (⟨b1, o1 + k * 2 + 1, none⟩, .slice A1 n1 c1), (⟨b2, o2 + k * 2, none⟩, .int .i64 Z), (⟨b2, o2 + k * 2 + 1, none⟩, .slice A2 n2 c2)]) (by kernel_rfl) (by kernel_rfl) (cellL_drew HC.out) ?_
          repeat (first
            | go_big_quiet_skip
            | (go_big_quiet_want; (first
              | (refine q_take (v := ?_) ?_ ?_; rotate_left; (focus (intro w hSw; (try simp only [CellL] at hSw); go_split_ands; go_simp; (try (rw [if_neg (by omega)])); (try with_reducible rfl); done)))
              | (refine q_call (CS.out _) ?_ ?_; (focus (intro w hSw; (try simp only [CellL] at hSw); go_split_ands; go_simp; (try (rw [if_neg (by omega)])); done)))); (try simp only [Act.put, List.setIfInBounds_toArray, List.set_cons_zero, List.set_cons_succ]); go_big_quiet_on))
          refine wpQuiet_nil ?_
          intro w2 hw2
          have HB2 := Lib.hid (HW.out.trans ((cellL_size hw2).mono HW.out.size))
          clear hw2
          go_wp2_with fail
          first
            | (go_ret; exact ⟨ret_bool HF.out, HB2.out⟩)
            | (go_roundw
               case rel => exact ⟨k + 1, by omega, by go_num, HF, HB2⟩
               case measure => simp [intOf]; omega)
      · have HF := Lib.hid (show true = v by rw [← HL.out, List.drop_eq_nil_of_le (by have := HN.out; omega), List.drop_eq_nil_of_le (by have := HM.out; omega)]; rfl)
        go_wp2_with fail
        go_ret
        exact ⟨ret_bool HF.out, HW.out⟩
  · have HF := Lib.hid (show false = v by rw [← hv, sameS_len (by omega)])
    have hd : (n == m) = false := beq_eq_false_iff_ne.2 hnm
    have HW := Lib.hid (Below.refl w.heap.size w)
    clear hn hm ha hb hv
    go_enter Tryz.func25, Tryz.ntmps25
    go_wp2_with fail
    go_ret
    exact ⟨ret_bool HF.out, HW.out⟩
end Go.Proofs.YtopjhebhdopjpaaGreat

namespace Go.Proofs.YtopjhebhdopjpaaGreat
open Go.RowKit

def vrCells (v : Vr) : List Value := [.int .i64 v.rep, .int .i64 v.cnt]
noncomputable def kVr : Kind Tryz.prog Vr where
  ty := 146
  el := 151
  size := 2
  bytes := 16
  zero := .agg #[.int .i64 0, .int .i64 0]
  cells := vrCells
  len := fun _ => rfl
  one := fun r u hu => by simp [vrCells] at hu; rcases hu with rfl | rfl <;> rfl
  pos := by decide
  under := Tryz.underlying146
  info := by kernel_rfl
  zsize := rfl
theorem vrs_at {w : World} {B : Nat} {A : Option Addr} {c : Nat} {l : List Vr} (h : kVr.Rd w B A c l) (hp : 0 < l.length) :
    ∃ b o, A = some ⟨b, o, none⟩ ∧ b < B ∧ ∀ k v, l[k]? = some v → w.cell? ⟨b, o + k * 2, none⟩ = some (.int .i64 v.rep) ∧ w.cell? ⟨b, o + k * 2 + 1, none⟩ = some (.int .i64 v.cnt) := by
  obtain ⟨b, o, h1, h2, h3⟩ := h.at_ hp
  exact ⟨b, o, h1, h2, fun k n hn => ⟨h3 k n hn 0 _ rfl, h3 k n hn 1 _ rfl⟩⟩
end Go.Proofs.YtopjhebhdopjpaaGreat

namespace Go.Proofs.YtopjhebhdopjpaaGreat
open Go.RowKit

theorem vbox_new (w : World) (x y : Int) : (w.alloc (.cells #[.int .i64 x, .int .i64 y] 151)).cell? ⟨w.heap.size, 0, none⟩ = some (.int .i64 x) ∧ (w.alloc (.cells #[.int .i64 x, .int .i64 y] 151)).cell? ⟨w.heap.size, 1, none⟩ = some (.int .i64 y) := by
  have hg := heap_new w (.cells #[.int .i64 x, .int .i64 y] 151) _ rfl
  exact ⟨by rw [cell_of_row _ _ _ _ _ _ hg]; rfl, by rw [cell_of_row _ _ _ _ _ _ hg]; rfl⟩
end Go.Proofs.YtopjhebhdopjpaaGreat

namespace Go.Proofs.YtopjhebhdopjpaaGreat
open Go.RowKit

def RowS (w : World) (S : Nat → Prop) (A : Option Addr) (xs : List Value) : Prop :=
  xs = [] ∨ ∃ b o, A = some ⟨b, o, none⟩ ∧ S b ∧ ∀ k u, xs[k]? = some u → w.cell? ⟨b, o + k, none⟩ = some u
def KeptS (S : Nat → Prop) (w w' : World) : Prop := ∀ p : Addr, S p.block → p.block < w.heap.size → w'.cell? p = w.cell? p
theorem keptS_below {w w' : World} (hb : Below w.heap.size w w') (S : Nat → Prop) : KeptS S w w' := fun _ _ h => hb.cell h
theorem keptS_under {w w' : World} {B : Nat} {S : Nat → Prop} (hb : Below B w w') (h : ∀ g, S g → g < B) : KeptS S w w' := fun _ hs _ => hb.cell (h _ hs)
theorem keptS_grown {w w' : World} {row : Option Nat} {S : Nat → Prop} (hg : w.grownBy w' row) (h : ∀ g, S g → row ≠ some g) : KeptS S w w' := fun p hs hp => hg.cell_far p hp fun e => h _ hs e.symm
theorem KeptS.mono {S T : Nat → Prop} {w w' : World} (h : KeptS T w w') (hs : ∀ g, S g → T g) : KeptS S w w' := fun p hp hl => h p (hs _ hp) hl
theorem row_lt {w : World} {b o : Nat} {xs : List Value} (hne : xs ≠ []) (h : ∀ k u, xs[k]? = some u → w.cell? ⟨b, o + k, none⟩ = some u) : b < w.heap.size := by
  cases xs with
  | nil => exact absurd rfl hne
  | cons x l => exact World.block_lt_of_cell? w _ (h 0 x rfl)
theorem RowS.lives {w : World} {S : Nat → Prop} {A : Option Addr} {xs : List Value} (h : RowS w S A xs) : RowS w (fun g => S g ∧ g < w.heap.size) A xs := by
  by_cases h0 : xs = []
  · exact .inl h0
  · rcases h with h | ⟨b, o, h1, h2, h3⟩
    · exact absurd h h0
    · exact .inr ⟨b, o, h1, ⟨h2, row_lt h0 h3⟩, h3⟩
theorem RowS.mono {w : World} {S T : Nat → Prop} {A : Option Addr} {xs : List Value} (h : RowS w S A xs) (hs : ∀ g, S g → T g) : RowS w T A xs := by
  rcases h with h | ⟨b, o, h1, h2, h3⟩
  · exact .inl h
  · exact .inr ⟨b, o, h1, hs _ h2, h3⟩
theorem RowS.keep {w w' : World} {S : Nat → Prop} {A : Option Addr} {xs : List Value} (h : RowS w S A xs) (hk : KeptS S w w') : RowS w' S A xs := by
  by_cases h0 : xs = []
  · exact .inl h0
  · rcases h with h | ⟨b, o, h1, h2, h3⟩
    · exact absurd h h0
    · exact .inr ⟨b, o, h1, h2, fun k u hu => (hk _ h2 (row_lt h0 h3)).trans (h3 k u hu)⟩
theorem RowS.at_ {w : World} {S : Nat → Prop} {A : Option Addr} {xs : List Value} (h : RowS w S A xs) : RowAt w w.heap.size A xs := by
  rcases h.lives with h | ⟨b, o, h1, h2, h3⟩
  · exact .inl h
  · exact .inr ⟨b, o, h1, h2.2, h3⟩
theorem RowAt.inS {w : World} {B : Nat} {A : Option Addr} {xs : List Value} (h : RowAt w B A xs) : RowS w (fun g => g < B) A xs := h

namespace Kind
variable {P : Program} {α : Type}
structure RdS (k : Kind P α) (w : World) (S : Nat → Prop) (A : Option Addr) (c : Nat) (l : List α) : Prop where
  row : RowS w S A (k.row l)
  room : l.length ≤ c
  cap : c ≤ maxLen
variable {k : Kind P α}
theorem RdS.mono {w : World} {S T : Nat → Prop} {A : Option Addr} {c : Nat} {l : List α} (h : k.RdS w S A c l) (hs : ∀ g, S g → T g) : k.RdS w T A c l := ⟨h.row.mono hs, h.room, h.cap⟩
theorem RdS.lives {w : World} {S : Nat → Prop} {A : Option Addr} {c : Nat} {l : List α} (h : k.RdS w S A c l) : k.RdS w (fun g => S g ∧ g < w.heap.size) A c l := ⟨h.row.lives, h.room, h.cap⟩
theorem RdS.keep {w w' : World} {S : Nat → Prop} {A : Option Addr} {c : Nat} {l : List α} (h : k.RdS w S A c l) (hk : KeptS S w w') : k.RdS w' S A c l := ⟨h.row.keep hk, h.room, h.cap⟩
theorem RdS.call {w w' : World} {S : Nat → Prop} {A : Option Addr} {c : Nat} {l : List α} (h : k.RdS w S A c l) (hb : Below w.heap.size w w') : k.RdS w' S A c l := h.keep (keptS_below hb S)
theorem RdS.rd {w : World} {S : Nat → Prop} {A : Option Addr} {c : Nat} {l : List α} (h : k.RdS w S A c l) : k.Rd w w.heap.size A c l := ⟨h.row.at_, h.room, h.cap⟩
theorem Rd.inS {w : World} {B : Nat} {A : Option Addr} {c : Nat} {l : List α} (h : k.Rd w B A c l) : k.RdS w (fun g => g < B) A c l := ⟨h.row.inS, h.room, h.cap⟩
theorem RdS.nil (w : World) (S : Nat → Prop) (A : Option Addr) (c : Nat) (hc : c ≤ maxLen) : k.RdS w S A c [] := ⟨.inl rfl, Nat.zero_le _, hc⟩
theorem Own.rdS {w : World} {base n c : Nat} {A : Option Addr} {l : List α} (h : k.Own w base (.slice A n c) l) (hn : n = l.length) : k.RdS w (fun g => base ≤ g) A c l := by
  have hr := h.rd
  refine ⟨?_, hr.room, hr.cap⟩
  by_cases h0 : 0 < n
  · obtain ⟨g, c', hv, -, h1, -, -, -⟩ := h.some_ hn h0
    injection hv with hA
    subst hA
    rcases hr.row with h2 | ⟨b, o, h2, h3, h4⟩
    · exact .inl h2
    · refine .inr ⟨b, o, h2, ?_, h4⟩
      injection h2 with h2
      injection h2 with h2
      rw [← h2]; exact h1
  · exact .inl (by rw [List.eq_nil_of_length_eq_zero (by omega : l.length = 0)]; rfl)
end Kind

structure Deep (P : Program) (β α : Type) where
  k : Kind P β
  rel : World → (Nat → Prop) → β → α → Prop
  mono : ∀ {w : World} {S T : Nat → Prop} {b : β} {a : α}, rel w S b a → (∀ g, S g → T g) → rel w T b a
  lives : ∀ {w : World} {S : Nat → Prop} {b : β} {a : α}, rel w S b a → rel w (fun g => S g ∧ g < w.heap.size) b a
  keep : ∀ {w w' : World} {S : Nat → Prop} {b : β} {a : α}, rel w S b a → KeptS S w w' → rel w' S b a
namespace Deep
variable {P : Program} {β α : Type} (d : Deep P β α)
def All (w : World) (S : Nat → Prop) (bs : List β) (s : List α) : Prop := bs.length = s.length ∧ ∀ (i : Nat) (b : β) (a : α), bs[i]? = some b → s[i]? = some a → d.rel w S b a
def Rd (w : World) (S : Nat → Prop) (A : Option Addr) (c : Nat) (s : List α) : Prop := ∃ bs : List β, d.k.RdS w S A c bs ∧ d.All w S bs s
variable {d}
theorem All.mono {w : World} {S T : Nat → Prop} {bs : List β} {s : List α} (h : d.All w S bs s) (hs : ∀ g, S g → T g) : d.All w T bs s := ⟨h.1, fun i b a h1 h2 => d.mono (h.2 i b a h1 h2) hs⟩
theorem All.lives {w : World} {S : Nat → Prop} {bs : List β} {s : List α} (h : d.All w S bs s) : d.All w (fun g => S g ∧ g < w.heap.size) bs s := ⟨h.1, fun i b a h1 h2 => d.lives (h.2 i b a h1 h2)⟩
theorem All.keep {w w' : World} {S : Nat → Prop} {bs : List β} {s : List α} (h : d.All w S bs s) (hk : KeptS S w w') : d.All w' S bs s := ⟨h.1, fun i b a h1 h2 => d.keep (h.2 i b a h1 h2) hk⟩
theorem All.append {w : World} {S : Nat → Prop} {bs cs : List β} {s t : List α} (h : d.All w S bs s) (h' : d.All w S cs t) : d.All w S (bs ++ cs) (s ++ t) := by
  refine ⟨by rw [List.length_append, List.length_append, h.1, h'.1], fun i b a h1 h2 => ?_⟩
  by_cases hi : i < bs.length
  · rw [List.getElem?_append_left hi] at h1
    rw [List.getElem?_append_left (by rw [← h.1]; exact hi)] at h2
    exact h.2 i b a h1 h2
  · rw [List.getElem?_append_right (by omega)] at h1
    rw [List.getElem?_append_right (by rw [← h.1]; omega), ← h.1] at h2
    exact h'.2 _ b a h1 h2
theorem All.one {w : World} {S : Nat → Prop} {b : β} {a : α} (h : d.rel w S b a) : d.All w S [b] [a] := ⟨rfl, fun i b' a' h1 h2 => by
  cases i with
  | zero => injection h1 with h1; injection h2 with h2; subst h1 h2; exact h
  | succ i => cases h1⟩
theorem All.nil (w : World) (S : Nat → Prop) : d.All w S [] [] := ⟨rfl, fun i b a h => by cases h⟩
theorem Rd.mono {w : World} {S T : Nat → Prop} {A : Option Addr} {c : Nat} {s : List α} (h : d.Rd w S A c s) (hs : ∀ g, S g → T g) : d.Rd w T A c s := by
  obtain ⟨bs, h1, h2⟩ := h; exact ⟨bs, h1.mono hs, h2.mono hs⟩
theorem Rd.lives {w : World} {S : Nat → Prop} {A : Option Addr} {c : Nat} {s : List α} (h : d.Rd w S A c s) : d.Rd w (fun g => S g ∧ g < w.heap.size) A c s := by
  obtain ⟨bs, h1, h2⟩ := h; exact ⟨bs, h1.lives, h2.lives⟩
theorem Rd.keep {w w' : World} {S : Nat → Prop} {A : Option Addr} {c : Nat} {s : List α} (h : d.Rd w S A c s) (hk : KeptS S w w') : d.Rd w' S A c s := by
  obtain ⟨bs, h1, h2⟩ := h; exact ⟨bs, h1.keep hk, h2.keep hk⟩
theorem Rd.call {w w' : World} {S : Nat → Prop} {A : Option Addr} {c : Nat} {s : List α} (h : d.Rd w S A c s) (hb : Below w.heap.size w w') : d.Rd w' S A c s := h.keep (keptS_below hb S)
theorem Rd.all {w : World} {S : Nat → Prop} {A : Option Addr} {c : Nat} {s : List α} (h : d.Rd w S A c s) : d.Rd w (fun _ => True) A c s := h.mono fun _ _ => trivial
theorem Rd.room {w : World} {S : Nat → Prop} {A : Option Addr} {c : Nat} {s : List α} (h : d.Rd w S A c s) : s.length ≤ c := by
  obtain ⟨bs, h1, h2⟩ := h; rw [← h2.1]; exact h1.room
theorem Rd.max {w : World} {S : Nat → Prop} {A : Option Addr} {c n : Nat} {s : List α} (h : d.Rd w S A c s) (hn : n = s.length) : n ≤ 9223372036854775807 := by
  obtain ⟨bs, h1, h2⟩ := h
  have h3 := h1.room
  have h4 := h1.cap
  have h5 := h2.1
  unfold maxLen at h4
  omega
theorem Rd.nil (w : World) (S : Nat → Prop) (A : Option Addr) (c : Nat) (hc : c ≤ maxLen) : d.Rd w S A c [] := ⟨[], .nil _ _ _ _ hc, .nil _ _⟩
theorem Rd.at_ {w : World} {S : Nat → Prop} {A : Option Addr} {c : Nat} {s : List α} (h : d.Rd w S A c s) (hp : 0 < s.length) :
    ∃ b o, A = some ⟨b, o, none⟩ ∧ S b ∧ b < w.heap.size ∧ ∀ i x, s[i]? = some x → ∃ y, d.rel w S y x ∧ ∀ j u, (d.k.cells y)[j]? = some u → w.cell? ⟨b, o + (i * d.k.size + j), none⟩ = some u := by
  obtain ⟨bs, h1, h2, h3⟩ := h
  rcases h1.lives.row with h0 | ⟨b, o, e1, ⟨e2, e3⟩, e4⟩
  · exfalso
    have := congrArg List.length h0
    rw [d.k.row_len, List.length_nil] at this
    have := Nat.mul_pos (show 0 < bs.length by omega) d.k.pos
    omega
  · refine ⟨b, o, e1, e2, e3, fun i x hx => ?_⟩
    obtain ⟨y, hy⟩ : ∃ y, bs[i]? = some y := ⟨_, List.getElem?_eq_getElem (by have := (List.getElem?_eq_some_iff.1 hx).1; omega)⟩
    refine ⟨y, h3 i y x hy hx, fun j u hu => e4 _ _ ?_⟩
    have hj : j < d.k.size := by
      rw [← d.k.len y]
      exact (List.getElem?_eq_some_iff.1 hu).1
    rw [d.k.row_get hy hj]; exact hu
variable (d)
def Own (w : World) (base : Nat) (S : Nat → Prop) (v : Value) (s : List α) : Prop := ∃ bs : List β, d.k.Own w base v bs ∧ d.All w (fun g => S g ∧ v.ownBlock ≠ some g) bs s
variable {d}
theorem Own.nil (w : World) (base : Nat) (S : Nat → Prop) : d.Own w base S (.slice none 0 0) [] := ⟨[], Kind.Own.nil _ _, .nil _ _⟩
theorem Own.below {w w' : World} {base : Nat} {S : Nat → Prop} {v : Value} {s : List α} (h : d.Own w base S v s) (hb : Below w.heap.size w w') : d.Own w' base S v s := by
  obtain ⟨bs, h1, h2⟩ := h
  exact ⟨bs, h1.below hb, h2.keep (keptS_below hb _)⟩
theorem Own.alloc {w : World} {base : Nat} {S : Nat → Prop} {v : Value} {s : List α} (h : d.Own w base S v s) (o : Obj) : d.Own (w.alloc o) base S v s := h.below (below_new w o)
theorem Own.lt {w : World} {base : Nat} {S : Nat → Prop} {v : Value} {s : List α} (h : d.Own w base S v s) : ∀ g, v.ownBlock = some g → base ≤ g ∧ g < w.heap.size := by
  obtain ⟨bs, h1, -⟩ := h; exact h1.lt
theorem Own.app {w w' : World} {base : Nat} {S : Nat → Prop} {v v' : Value} {bs cs : List β} {s t : List α} (hs : d.All w (fun g => S g ∧ v.ownBlock ≠ some g) bs s) (ht : d.All w (fun g => S g ∧ v.ownBlock ≠ some g) cs t)
    (ho : d.k.Own w' base v' (bs ++ cs)) (hg : w.grownBy w' v.ownBlock) (hv : v'.ownBlock = v.ownBlock ∨ v'.ownBlock = some w.heap.size) : d.Own w' base S v' (s ++ t) := by
  refine ⟨bs ++ cs, ho, ((hs.append ht).lives.keep (keptS_grown hg fun g h => h.1.2)).mono fun g h => ⟨h.1.1, ?_⟩⟩
  rcases hv with e | e
  · rw [e]; exact h.1.2
  · rw [e]; intro h1; injection h1 with h1; have := h.2; omega
theorem Own.rd {w : World} {base n : Nat} {S : Nat → Prop} {v : Value} {s : List α} (h : d.Own w base S v s) (hn : n = s.length) (hS : ∀ g, base ≤ g → S g) : ∃ A c, v = .slice A n c ∧ d.Rd w S A c s := by
  obtain ⟨bs, h1, h2⟩ := h
  obtain ⟨A, c, rfl, -⟩ := h1.read_n (hn.trans h2.1.symm)
  exact ⟨A, c, rfl, bs, (h1.rdS (hn.trans h2.1.symm)).mono hS, h2.mono fun g h => h.1⟩
variable (d)
def Ret (w : World) (S : Nat → Prop) (N : Nat) (s : List α) (e : Ending) (w' : World) : Prop := ∃ A c, e = .returned (.slice A N c) ∧ d.Rd w' (fun g => S g ∨ w.heap.size ≤ g) A c s ∧ Below w.heap.size w w'
variable {d}
theorem All.off {w : World} {S T : Nat → Prop} {B : Nat} {v : Value} {cs : List β} {t : List α} (h : d.All w (fun g => S g ∨ B ≤ g) cs t) (hS : ∀ g, S g → T g ∧ v.ownBlock ≠ some g) (hB : ∀ g, B ≤ g → T g) (hv : ∀ g, v.ownBlock = some g → g < B) : d.All w (fun g => T g ∧ v.ownBlock ≠ some g) cs t :=
  h.mono fun g hg => by
    rcases hg with hg | hg
    · exact hS g hg
    · exact ⟨hB g hg, fun e => by have := hv g e; omega⟩
end Deep
end Go.Proofs.YtopjhebhdopjpaaGreat
