/-
  Several texts in one: RgsPure, Rgs, OpenRngs, VarPure, RgsSets, FltPure, FcdPure, FcdFlt, VarA, VarB, VarC.
-/
import Derived.Deep.Strs
import Derived.Lib.BitFns
import Derived.Lib.SliceRun
import Derived.Outline
import Derived.Deep.QuietTactic
import Derived.BigQuiet
import Derived.Test.YtohdncmlmpnfbaaMg1
/-
  Plain facts on lists of ranges (layer 8): which are right, which texts they have; each set of texts has one right list at most; the right list of what is meant, edge by edge. No program in this text.
-/
namespace Go.Proofs.Ytohdncmlmpnfbaa

def hasL (l : List Rng) (s : List UInt8) : Bool := l.any fun r => hasR r s
/-- Is there a text between the end of one and the beginning of the other? -/
def gapR (r t : Rng) : Bool := !r.op && ltB r.hi t.lo
def rightL : List Rng → Bool
  | [] => true
  | [r] => rightR r
  | r :: t :: l => rightR r && gapR r t && rightL (t :: l)
theorem hasL_cons (r : Rng) (l : List Rng) (s : List UInt8) : hasL (r :: l) s = (hasR r s || hasL l s) := by simp [hasL]
theorem hasL_append (a b : List Rng) (s : List UInt8) : hasL (a ++ b) s = (hasL a s || hasL b s) := by simp [hasL]
theorem rightL_head {r : Rng} {l : List Rng} (h : rightL (r :: l) = true) : rightR r = true := by
  cases l with
  | nil => exact h
  | cons t l => unfold rightL at h; simp only [Bool.and_eq_true] at h; exact h.1.1
theorem rightL_tail {r : Rng} {l : List Rng} (h : rightL (r :: l) = true) : rightL l = true := by
  cases l with
  | nil => rfl
  | cons t l => unfold rightL at h; simp only [Bool.and_eq_true] at h; exact h.2
theorem rightL_gap {r t : Rng} {l : List Rng} (h : rightL (r :: t :: l) = true) : r.op = false ∧ ltB r.hi t.lo = true := by
  unfold rightL gapR at h; simp only [Bool.and_eq_true, Bool.not_eq_true'] at h; exact h.1.2
theorem hasR_lo {r : Rng} (h : rightR r = true) : hasR r r.lo = true := by
  unfold hasR; rw [h, ltB_irrefl, rightR_first h]; rfl
theorem hasR_ge {r : Rng} {s : List UInt8} (h : hasR r s = true) : ltB s r.lo = false := by
  unfold hasR at h; simp only [Bool.and_eq_true, Bool.not_eq_true'] at h; exact h.1.2
theorem hasR_right {r : Rng} {s : List UInt8} (h : hasR r s = true) : rightR r = true := by
  unfold hasR at h; simp only [Bool.and_eq_true] at h; exact h.1.1
theorem hasR_ahead {r : Rng} {s : List UInt8} (h : hasR r s = true) : aheadR r s = true := by
  unfold hasR at h; simp only [Bool.and_eq_true] at h; exact h.2
/-- What a right list has stands not ahead of its first text. -/
theorem hasL_ge : ∀ {l : List Rng} {r : Rng} {s : List UInt8}, rightL (r :: l) = true → hasL (r :: l) s = true → ltB s r.lo = false
  | [], r, s, _, hs => by
    rw [hasL_cons] at hs
    simp only [hasL, List.any_nil, Bool.or_false] at hs
    exact hasR_ge hs
  | t :: l, r, s, h, hs => by
    rw [hasL_cons] at hs
    cases hr : hasR r s with
    | true => exact hasR_ge hr
    | false =>
      rw [hr, Bool.false_or] at hs
      have h1 := hasL_ge (rightL_tail h) hs
      have h2 := rightL_gap h
      have h3 := rightR_lt (rightL_head h) h2.1
      cases hc : ltB s r.lo with
      | false => rfl
      | true => rw [ltB_trans hc (ltB_trans h3 h2.2)] at h1; cases h1
/-- What the rest has, the first one hasn't; and the rest hasn't the first one's end. -/
theorem hasL_apart {r : Rng} {l : List Rng} {s : List UInt8} (h : rightL (r :: l) = true) (hs : hasL l s = true) : hasR r s = false ∧ r.op = false ∧ ltB r.hi s = true := by
  cases l with
  | nil => simp [hasL] at hs
  | cons t l =>
    have h1 := hasL_ge (rightL_tail h) hs
    have h2 := rightL_gap h
    have h3 : ltB r.hi s = true := ltB_of_lt_of_le h2.2 h1
    refine ⟨?_, h2.1, h3⟩
    cases hr : hasR r s with
    | false => rfl
    | true =>
      have := hasR_ahead hr
      unfold aheadR at this
      rw [h2.1, Bool.false_or, ltB_asymm h3] at this
      cases this
theorem rng_ext {r t : Rng} (h1 : r.lo = t.lo) (h2 : r.hi = t.hi) (h3 : r.op = t.op) : r = t := by cases r; cases t; simp_all
/-- The text at which the one ends, and the other doesn't. -/
theorem end_split {r t : Rng} {l m : List Rng} (hl : rightL (r :: l) = true) (hm : rightL (t :: m) = true) (he : r.lo = t.lo) (h : endLt r t = true) (hs : ∀ s, hasL (r :: l) s = hasL (t :: m) s) : False := by
  unfold endLt at h
  simp only [Bool.and_eq_true, Bool.not_eq_true'] at h
  obtain ⟨ho, h⟩ := h
  have h1 := hs r.hi
  have h2 : hasR t r.hi = true := by
    unfold hasR aheadR
    rw [rightL_head hm, h, ← he, ltB_asymm (rightR_lt (rightL_head hl) ho)]; rfl
  rw [hasL_cons t, h2, Bool.true_or, hasL_cons] at h1
  have h3 : hasR r r.hi = false := by
    unfold hasR aheadR; rw [ho, ltB_irrefl, Bool.false_or, Bool.and_false]
  rw [h3, Bool.false_or] at h1
  have := (hasL_apart hl h1).2.2
  rw [ltB_irrefl] at this
  cases this
/-- P8.4: two right lists that have the same texts are the same. -/
theorem rightL_unique : ∀ {l m : List Rng}, rightL l = true → rightL m = true → (∀ s, hasL l s = hasL m s) → l = m
  | [], [], _, _, _ => rfl
  | [], t :: m, _, hm, h => by
    have := h t.lo
    rw [hasL_cons, hasR_lo (rightL_head hm)] at this
    simp [hasL] at this
  | r :: l, [], hl, _, h => by
    have := h r.lo
    rw [hasL_cons, hasR_lo (rightL_head hl)] at this
    simp [hasL] at this
  | r :: l, t :: m, hl, hm, h => by
    have e1 : r.lo = t.lo := by
      have h1 : hasL (t :: m) r.lo = true := by rw [← h, hasL_cons, hasR_lo (rightL_head hl)]; rfl
      have h2 : hasL (r :: l) t.lo = true := by rw [h, hasL_cons, hasR_lo (rightL_head hm)]; rfl
      exact ltB_total (hasL_ge hm h1) (hasL_ge hl h2)
    have e2 : endLt r t = false := by
      cases hc : endLt r t with
      | false => rfl
      | true => exact (end_split hl hm e1 hc h).elim
    have e3 : endLt t r = false := by
      cases hc : endLt t r with
      | false => rfl
      | true => exact (end_split hm hl e1.symm hc (fun s => (h s).symm)).elim
    obtain ⟨e4, e5⟩ := end_same (rightL_head hl) (rightL_head hm) e2 e3
    obtain rfl := rng_ext e1 e4 e5
    have key : ∀ s, hasL l s = hasL m s := fun s => by
      have hs := h s
      rw [hasL_cons, hasL_cons] at hs
      cases h1 : hasL l s with
      | true => rw [(hasL_apart hl h1).1, h1, Bool.false_or, Bool.false_or] at hs; exact hs
      | false => cases h2 : hasL m s with
        | false => rfl
        | true => rw [(hasL_apart hm h2).1, h1, h2] at hs; cases hs
    rw [rightL_unique (rightL_tail hl) (rightL_tail hm) key]

/-! The right list of what is meant, edge by edge. -/
/-- The ranges that begin at an edge that is in, and end at the next one that isn't; lo: the one that has begun. -/
def mkR (f : List UInt8 → Bool) : List (List UInt8) → Option (List UInt8) → List Rng
  | [], none => []
  | [], some lo => [⟨lo, [], true⟩]
  | e :: es, none => match f e with | true => mkR f es (some e) | false => mkR f es none
  | e :: es, some lo => match f e with | true => mkR f es (some lo) | false => ⟨lo, e, false⟩ :: mkR f es none
/-- Rising texts, all behind e. -/
def risingB : List UInt8 → List (List UInt8) → Bool
  | _, [] => true
  | e, x :: l => ltB e x && risingB x l
theorem rising_head {c x : List UInt8} {l : List (List UInt8)} (h : risingB c (x :: l) = true) : ltB c x = true ∧ risingB x l = true := by
  unfold risingB at h; simpa using h
theorem rising_all : ∀ {l : List (List UInt8)} {c : List UInt8}, risingB c l = true → ∀ x ∈ l, ltB c x = true
  | [], _, _, x, hx => by cases hx
  | y :: l, c, h, x, hx => by
    obtain ⟨h1, h2⟩ := rising_head h
    rcases List.mem_cons.1 hx with rfl | hx
    · exact h1
    · exact ltB_trans h1 (rising_all h2 x hx)
/-- What holds at a text, told by what holds at the edges. -/
def floorV (f : List UInt8 → Bool) : Bool → List (List UInt8) → List UInt8 → Bool
  | v, [], _ => v
  | v, x :: l, s => match ltB s x with | true => v | false => floorV f (f x) l s
theorem floorV_low {f : List UInt8 → Bool} {v : Bool} {l : List (List UInt8)} {s : List UInt8} (h : ∀ x ∈ l, ltB s x = true) : floorV f v l s = v := by
  cases l with
  | nil => rfl
  | cons x l => unfold floorV; rw [h x (List.mem_cons_self ..)]
theorem hasR_open {lo s : List UInt8} (h : lo.length ≤ 17) : hasR ⟨lo, [], true⟩ s = !ltB s lo := by
  have h1 : rightR ⟨lo, [], true⟩ = true := rightR_iff.2 ⟨h, by simp, fun _ => rfl, (fun h => by cases h)⟩
  unfold hasR aheadR; rw [h1]; simp
theorem right_shut {lo e : List UInt8} (h : lo.length ≤ 17) (he : e.length ≤ 17) (hl : ltB lo e = true) : rightR ⟨lo, e, false⟩ = true :=
  rightR_iff.2 ⟨h, he, (fun h => by cases h), fun _ => hl⟩
theorem hasR_shut {lo e s : List UInt8} (h : lo.length ≤ 17) (he : e.length ≤ 17) (hl : ltB lo e = true) : hasR ⟨lo, e, false⟩ s = (!ltB s lo && ltB s e) := by
  unfold hasR aheadR; rw [right_shut h he hl]; simp
theorem mkR_low (f : List UInt8 → Bool) : ∀ (es : List (List UInt8)) (o : Option (List UInt8)) (c s : List UInt8), risingB c es = true → (∀ lo, o = some lo → ltB s lo = true) → (o = none → ltB c s = false) → (∀ lo, o = some lo → ltB c lo = false) → hasL (mkR f es o) s = false
  | [], none, _, _, _, _, _, _ => rfl
  | [], some lo, c, s, _, h, _, _ => by
    unfold mkR; rw [hasL_cons]
    have : hasR ⟨lo, [], true⟩ s = false := by unfold hasR; rw [h lo rfl]; simp
    rw [this]; rfl
  | e :: es, none, c, s, hr, _, h2, _ => by
    obtain ⟨h3, h4⟩ := rising_head hr
    have hse : ltB s e = true := ltB_of_le_of_lt (h2 rfl) h3
    unfold mkR
    cases f e with
    | true => exact mkR_low f es (some e) e s h4 (fun lo h => by injection h with h; subst h; exact hse) (fun h => by cases h) (fun lo h => by injection h with h; subst h; exact ltB_irrefl _)
    | false => exact mkR_low f es none e s h4 (fun lo h => by cases h) (fun _ => ltB_asymm hse) (fun lo h => by cases h)
  | e :: es, some lo, c, s, hr, h, _, hc => by
    obtain ⟨h3, h4⟩ := rising_head hr
    have h5 : ltB lo e = true := ltB_of_le_of_lt (hc lo rfl) h3
    have hse : ltB s e = true := ltB_trans (h lo rfl) h5
    unfold mkR
    cases f e with
    | true => exact mkR_low f es (some lo) e s h4 (fun lo' h' => by injection h' with h'; subst h'; exact h lo rfl) (fun h => by cases h) (fun lo' h' => by injection h' with h'; subst h'; exact ltB_asymm h5)
    | false =>
      show hasL (⟨lo, e, false⟩ :: mkR f es none) s = false
      rw [hasL_cons]
      have : hasR ⟨lo, e, false⟩ s = false := by unfold hasR; rw [h lo rfl]; simp
      rw [this, Bool.false_or]
      exact mkR_low f es none e s h4 (fun lo h => by cases h) (fun _ => ltB_asymm hse) (fun lo h => by cases h)
/-- What the list has. -/
theorem mkR_has (f : List UInt8 → Bool) : ∀ (es : List (List UInt8)) (o : Option (List UInt8)) (c s : List UInt8), risingB c es = true → (∀ x ∈ es, x.length ≤ 17) → (∀ lo, o = some lo → lo.length ≤ 17 ∧ ltB c lo = false ∧ ltB s lo = false) → hasL (mkR f es o) s = floorV f o.isSome es s
  | [], none, _, _, _, _, _ => rfl
  | [], some lo, c, s, _, _, h => by
    obtain ⟨h1, _, h3⟩ := h lo rfl
    unfold mkR; rw [hasL_cons, hasR_open h1, h3]; rfl
  | e :: es, none, c, s, hr, hl, _ => by
    obtain ⟨h3, h4⟩ := rising_head hr
    have hl' : ∀ x ∈ es, x.length ≤ 17 := fun x hx => hl x (List.mem_cons_of_mem _ hx)
    have he := hl e (List.mem_cons_self ..)
    unfold mkR floorV
    cases hse : ltB s e with
    | true =>
      cases f e with
      | true => exact mkR_low f es (some e) e s h4 (fun lo h => by injection h with h; subst h; exact hse) (fun h => by cases h) (fun lo h => by injection h with h; subst h; exact ltB_irrefl _)
      | false => exact mkR_low f es none e s h4 (fun lo h => by cases h) (fun _ => ltB_asymm hse) (fun lo h => by cases h)
    | false =>
      cases f e with
      | true => exact mkR_has f es (some e) e s h4 hl' (fun lo h => by injection h with h; subst h; exact ⟨he, ltB_irrefl _, hse⟩)
      | false => exact mkR_has f es none e s h4 hl' (fun lo h => by cases h)
  | e :: es, some lo, c, s, hr, hl, h => by
    obtain ⟨h3, h4⟩ := rising_head hr
    obtain ⟨k1, k2, k3⟩ := h lo rfl
    have hl' : ∀ x ∈ es, x.length ≤ 17 := fun x hx => hl x (List.mem_cons_of_mem _ hx)
    have he := hl e (List.mem_cons_self ..)
    have h5 : ltB lo e = true := ltB_of_le_of_lt k2 h3
    unfold mkR floorV
    cases hf : f e with
    | true =>
      have := mkR_has f es (some lo) e s h4 hl' (fun lo' h' => by injection h' with h'; subst h'; exact ⟨k1, ltB_asymm h5, k3⟩)
      show hasL (mkR f es (some lo)) s = _
      rw [this]
      cases hse : ltB s e with
      | true => exact floorV_low fun x hx => ltB_trans hse (rising_all h4 x hx)
      | false => rfl
    | false =>
      show hasL (⟨lo, e, false⟩ :: mkR f es none) s = _
      rw [hasL_cons, hasR_shut k1 he h5, k3]
      cases hse : ltB s e with
      | true => rfl
      | false => exact mkR_has f es none e s h4 hl' (fun lo h => by cases h)
theorem mkR_first (f : List UInt8 → Bool) : ∀ (es : List (List UInt8)) (o : Option (List UInt8)) (c : List UInt8) (t : Rng) (m : List Rng), risingB c es = true → mkR f es o = t :: m → (∀ lo, o = some lo → t.lo = lo) ∧ (o = none → ltB c t.lo = true)
  | [], none, _, _, _, _, h => by cases h
  | [], some lo, _, t, m, _, h => by
    unfold mkR at h; injection h with h h'; subst h
    exact ⟨(fun lo' e => by injection e), (fun e => by cases e)⟩
  | e :: es, none, c, t, m, hr, h => by
    obtain ⟨h3, h4⟩ := rising_head hr
    refine ⟨(fun lo e => by cases e), fun _ => ?_⟩
    unfold mkR at h
    cases hf : f e with
    | true => rw [hf] at h; rw [(mkR_first f es (some e) e t m h4 h).1 e rfl]; exact h3
    | false => rw [hf] at h; exact ltB_trans h3 ((mkR_first f es none e t m h4 h).2 rfl)
  | e :: es, some lo, c, t, m, hr, h => by
    obtain ⟨h3, h4⟩ := rising_head hr
    refine ⟨fun lo' e' => ?_, (fun e => by cases e)⟩
    injection e' with e'; subst e'
    unfold mkR at h
    cases hf : f e with
    | true => rw [hf] at h; exact (mkR_first f es (some lo) e t m h4 h).1 lo rfl
    | false => rw [hf] at h; injection h with h h'; subst h; rfl
/-- The list is right. -/
theorem mkR_right (f : List UInt8 → Bool) : ∀ (es : List (List UInt8)) (o : Option (List UInt8)) (c : List UInt8), risingB c es = true → (∀ x ∈ es, x.length ≤ 17) → (∀ lo, o = some lo → lo.length ≤ 17 ∧ ltB c lo = false) → rightL (mkR f es o) = true
  | [], none, _, _, _, _ => rfl
  | [], some lo, _, _, _, h => rightR_iff.2 ⟨(h lo rfl).1, by simp, fun _ => rfl, (fun h => by cases h)⟩
  | e :: es, none, c, hr, hl, _ => by
    obtain ⟨h3, h4⟩ := rising_head hr
    have hl' : ∀ x ∈ es, x.length ≤ 17 := fun x hx => hl x (List.mem_cons_of_mem _ hx)
    have he := hl e (List.mem_cons_self ..)
    unfold mkR
    cases f e with
    | true => exact mkR_right f es (some e) e h4 hl' (fun lo h => by injection h with h; subst h; exact ⟨he, ltB_irrefl _⟩)
    | false => exact mkR_right f es none e h4 hl' (fun lo h => by cases h)
  | e :: es, some lo, c, hr, hl, h => by
    obtain ⟨h3, h4⟩ := rising_head hr
    obtain ⟨k1, k2⟩ := h lo rfl
    have hl' : ∀ x ∈ es, x.length ≤ 17 := fun x hx => hl x (List.mem_cons_of_mem _ hx)
    have he := hl e (List.mem_cons_self ..)
    have h5 : ltB lo e = true := ltB_of_le_of_lt k2 h3
    unfold mkR
    cases f e with
    | true => exact mkR_right f es (some lo) e h4 hl' (fun lo' h' => by injection h' with h'; subst h'; exact ⟨k1, ltB_asymm h5⟩)
    | false =>
      have h6 := mkR_right f es none e h4 hl' (fun lo h => by cases h)
      show rightL (⟨lo, e, false⟩ :: mkR f es none) = true
      cases hm : mkR f es none with
      | nil => exact right_shut k1 he h5
      | cons t m =>
        rw [hm] at h6
        have h7 := (mkR_first f es none e t m h4 hm).2 rfl
        unfold rightL gapR
        rw [right_shut k1 he h5, h6, h7]; rfl
/-- Is it told by these edges whether a text is in? -/
def Det (f : List UInt8 → Bool) (E : List (List UInt8)) : Prop := ∀ s c, (∀ x ∈ E, ltB s x = ltB c x) → f s = f c
theorem floorV_det (f : List UInt8 → Bool) (s : List UInt8) : ∀ (es D : List (List UInt8)) (c : List UInt8), risingB c es = true → (∀ x ∈ D, ltB c x = false) → ltB s c = false → Det f (D ++ es) → floorV f (f c) es s = f s
  | [], D, c, _, hD, hs, h => by
    refine (h s c fun x hx => ?_).symm
    rw [List.append_nil] at hx
    rw [hD x hx]
    exact leB_trans (hD x hx) hs
  | x :: l, D, c, hr, hD, hs, h => by
    obtain ⟨h3, h4⟩ := rising_head hr
    unfold floorV
    cases hx : ltB s x with
    | true =>
      refine (h s c fun y hy => ?_).symm
      rcases List.mem_append.1 hy with hy | hy
      · rw [hD y hy]; exact leB_trans (hD y hy) hs
      · have h5 := rising_all hr y hy
        rw [h5]
        rcases List.mem_cons.1 hy with rfl | hy
        · exact hx
        · exact ltB_trans hx (rising_all h4 y hy)
    | false =>
      refine floorV_det f s l (D ++ [x]) x h4 (fun y hy => ?_) hx (by rw [List.append_assoc]; exact h)
      rcases List.mem_append.1 hy with hy | hy
      · exact ltB_asymm (ltB_of_le_of_lt (hD y hy) h3)
      · rw [List.mem_singleton.1 hy]; exact ltB_irrefl _
/-- Of the empty text and rising edges, by which it is told what is in: the right list of it. -/
theorem mkR_all {f : List UInt8 → Bool} {es : List (List UInt8)} (hr : risingB [] es = true) (hl : ∀ x ∈ es, x.length ≤ 17) (hd : Det f ([] :: es)) :
    rightL (mkR f ([] :: es) none) = true ∧ ∀ s, hasL (mkR f ([] :: es) none) s = f s := by
  have hn : ∀ s, ltB s [] = false := ltB_nil
  constructor
  · unfold mkR
    cases f [] with
    | true => exact mkR_right f es (some []) [] hr hl (fun lo h => by injection h with h; subst h; exact ⟨by simp, ltB_nil _⟩)
    | false => exact mkR_right f es none [] hr hl (fun lo h => by cases h)
  · intro s
    have h1 : hasL (mkR f ([] :: es) none) s = floorV f (f []) es s := by
      unfold mkR
      cases hf : f [] with
      | true => exact mkR_has f es (some []) [] s hr hl (fun lo h => by injection h with h; subst h; exact ⟨by simp, ltB_nil _, ltB_nil _⟩)
      | false => exact mkR_has f es none [] s hr hl (fun lo h => by cases h)
    rw [h1]
    exact floorV_det f s es [[]] [] hr (fun x hx => by rw [List.mem_singleton.1 hx]; exact ltB_nil _) (ltB_nil _) hd

/-! The edges. -/
/-- A text put among rising ones, once. -/
def putL : List (List UInt8) → List UInt8 → List (List UInt8)
  | [], s => [s]
  | x :: l, s => match ltB x s with | true => x :: putL l s | false => match decide (x = s) with | true => x :: l | false => s :: x :: l
theorem putL_behind {x : List UInt8} {l : List (List UInt8)} {s : List UInt8} (h : ltB x s = true) : putL (x :: l) s = x :: putL l s := by rw [putL, h]
theorem putL_there {x : List UInt8} {l : List (List UInt8)} : putL (x :: l) x = x :: l := by rw [putL, ltB_irrefl, decide_eq_true rfl]
theorem putL_here {x : List UInt8} {l : List (List UInt8)} {s : List UInt8} (h : ltB x s = false) (h' : x ≠ s) : putL (x :: l) s = s :: x :: l := by rw [putL, h, decide_eq_false h']
theorem putL_mem : ∀ {l : List (List UInt8)} {s x : List UInt8}, x ∈ putL l s ↔ x = s ∨ x ∈ l
  | [], s, x => by simp [putL]
  | y :: l, s, x => by
    cases h : ltB y s with
    | true => rw [putL_behind h, List.mem_cons, List.mem_cons, putL_mem]; constructor <;> (rintro (h | h | h) <;> simp [h])
    | false =>
      by_cases h' : y = s
      · subst h'; rw [putL_there]; constructor
        · exact .inr
        · rintro (rfl | h)
          · exact List.mem_cons_self ..
          · exact h
      · rw [putL_here h h', List.mem_cons]
theorem putL_rising : ∀ {l : List (List UInt8)} {c s : List UInt8}, risingB c l = true → ltB c s = true → risingB c (putL l s) = true
  | [], c, s, _, h => by simp [putL, risingB, h]
  | x :: l, c, s, hr, hs => by
    obtain ⟨h1, h2⟩ := rising_head hr
    cases h : ltB x s with
    | true => rw [putL_behind h]; unfold risingB; rw [h1, putL_rising h2 h]; rfl
    | false =>
      by_cases h' : x = s
      · subst h'; rw [putL_there]; exact hr
      · have h3 : ltB s x = true := by
          cases hc : ltB s x with
          | true => rfl
          | false => exact absurd (ltB_total h hc) h'
        rw [putL_here h h']; unfold risingB risingB; rw [hs, h3, h2]; rfl
/-- The empty text stands first. -/
theorem putL_first {l : List (List UInt8)} {s : List UInt8} (h : risingB [] l = true) : ∃ m, putL ([] :: l) s = [] :: m ∧ risingB [] m = true := by
  cases s with
  | nil => exact ⟨l, putL_there, h⟩
  | cons x s => exact ⟨putL l (x :: s), putL_behind (ltB_nil_cons x s), putL_rising h (ltB_nil_cons x s)⟩
def addE (E : List (List UInt8)) (r : Rng) : List (List UInt8) := match rightR r with
  | true => (match r.op with | true => putL E r.lo | false => putL (putL E r.lo) r.hi)
  | false => E
def edgesL (l : List Rng) : List (List UInt8) := l.foldl addE [[]]
theorem edgesL_snoc (l : List Rng) (r : Rng) : edgesL (l ++ [r]) = addE (edgesL l) r := by simp [edgesL]
/-- Texts that begin with the empty one, rise, and are edges. -/
def EdgesOk (E : List (List UInt8)) : Prop := ∃ m, E = [] :: m ∧ risingB [] m = true ∧ ∀ x ∈ m, x.length ≤ 17
theorem EdgesOk.put {E : List (List UInt8)} (h : EdgesOk E) {s : List UInt8} (hs : s.length ≤ 17) : EdgesOk (putL E s) := by
  obtain ⟨m, rfl, h1, h2⟩ := h
  obtain ⟨m', h3, h4⟩ := putL_first (s := s) h1
  refine ⟨m', h3, h4, fun x hx => ?_⟩
  have h5 : x ∈ putL ([] :: m) s := by rw [h3]; exact List.mem_cons_of_mem _ hx
  rcases putL_mem.1 h5 with rfl | h5
  · exact hs
  · rcases List.mem_cons.1 h5 with rfl | h5
    · simp
    · exact h2 x h5
theorem EdgesOk.add {E : List (List UInt8)} (h : EdgesOk E) (r : Rng) : EdgesOk (addE E r) := by
  unfold addE
  cases hr : rightR r with
  | false => exact h
  | true => cases r.op with
    | true => exact h.put (rightR_lo hr)
    | false => exact (h.put (rightR_lo hr)).put (rightR_hi hr)
theorem edges_ok : ∀ (l : List Rng) (E : List (List UInt8)), EdgesOk E → EdgesOk (l.foldl addE E)
  | [], _, h => h
  | r :: l, E, h => edges_ok l (addE E r) (h.add r)
theorem addE_keep {E : List (List UInt8)} {r : Rng} {x : List UInt8} (h : x ∈ E) : x ∈ addE E r := by
  unfold addE
  cases rightR r with
  | false => exact h
  | true => cases r.op with
    | true => exact putL_mem.2 (.inr h)
    | false => exact putL_mem.2 (.inr (putL_mem.2 (.inr h)))
theorem edges_keep : ∀ (l : List Rng) (E : List (List UInt8)) {x : List UInt8}, x ∈ E → x ∈ l.foldl addE E
  | [], _, _, h => h
  | r :: l, E, _, h => edges_keep l (addE E r) (addE_keep h)
theorem edges_mem : ∀ (l : List Rng) (E : List (List UInt8)) {r : Rng}, r ∈ l → rightR r = true → r.lo ∈ l.foldl addE E ∧ (r.op = false → r.hi ∈ l.foldl addE E)
  | [], _, _, h, _ => by cases h
  | t :: l, E, r, h, hr => by
    rcases List.mem_cons.1 h with rfl | h
    · constructor
      · refine edges_keep l _ ?_
        unfold addE; rw [hr]
        cases r.op with
        | true => exact putL_mem.2 (.inl rfl)
        | false => exact putL_mem.2 (.inr (putL_mem.2 (.inl rfl)))
      · intro ho
        refine edges_keep l _ ?_
        unfold addE; rw [hr, ho]
        exact putL_mem.2 (.inl rfl)
    · exact edges_mem l (addE E t) h hr
theorem edgesL_ok (l : List Rng) : EdgesOk (edgesL l) := edges_ok l [[]] ⟨[], rfl, rfl, by simp⟩
theorem hasR_det {r : Rng} {E : List (List UInt8)} (h : rightR r = true → r.lo ∈ E ∧ (r.op = false → r.hi ∈ E)) : Det (hasR r) E := fun s c hs => by
  cases hr : rightR r with
  | false => unfold hasR; rw [hr]; rfl
  | true =>
    obtain ⟨h1, h2⟩ := h hr
    unfold hasR aheadR
    rw [hs _ h1]
    cases ho : r.op with
    | true => rfl
    | false => rw [hs _ (h2 ho)]
theorem hasL_det : ∀ {l : List Rng} {E : List (List UInt8)}, (∀ r ∈ l, rightR r = true → r.lo ∈ E ∧ (r.op = false → r.hi ∈ E)) → Det (hasL l) E
  | [], _, _ => fun _ _ _ => rfl
  | r :: l, E, h => fun s c hs => by
    rw [hasL_cons, hasL_cons, hasR_det (h r (List.mem_cons_self ..)) s c hs, hasL_det (fun t ht => h t (List.mem_cons_of_mem _ ht)) s c hs]
/-- The right list of what is told by what two lists have. -/
theorem make_ok (a b : List Rng) (g : Bool → Bool → Bool) : rightL (mkR (fun s => g (hasL a s) (hasL b s)) (edgesL (a ++ b)) none) = true ∧ ∀ s, hasL (mkR (fun s => g (hasL a s) (hasL b s)) (edgesL (a ++ b)) none) s = g (hasL a s) (hasL b s) := by
  obtain ⟨m, hm, h1, h2⟩ := edgesL_ok (a ++ b)
  have ha : Det (hasL a) (edgesL (a ++ b)) := hasL_det fun r hr hR => edges_mem (a ++ b) [[]] (List.mem_append.2 (.inl hr)) hR
  have hb : Det (hasL b) (edgesL (a ++ b)) := hasL_det fun r hr hR => edges_mem (a ++ b) [[]] (List.mem_append.2 (.inr hr)) hR
  rw [hm] at ha hb ⊢
  exact mkR_all h1 h2 fun s c hs => by simp only [ha s c hs, hb s c hs]
end Go.Proofs.Ytohdncmlmpnfbaa

/-
  Lists of ranges, and of texts, as values of the program.
-/
namespace Go.Proofs.Ytohdncmlmpnfbaa
open Go.RowKit

/-- A range's cells. -/
def rngCells (r : Rng) : List Value := [.string (str r.lo), .string (str r.hi), .bool r.op]
noncomputable def kRng : Kind Try.prog Rng where
  ty := 22
  el := 49
  size := 3
  bytes := 40
  zero := .agg #[.string ⟨#[]⟩, .string ⟨#[]⟩, .bool false]
  cells := rngCells
  len := fun _ => rfl
  one := fun r u hu => by simp [rngCells] at hu; rcases hu with rfl | rfl | rfl <;> rfl
  pos := by decide
  under := Try.underlying22
  info := by kernel_rfl
  zsize := rfl
noncomputable def kStr : Kind Try.prog (List UInt8) where
  ty := 92
  el := 9
  size := 1
  bytes := 16
  zero := .string ⟨#[]⟩
  cells := fun s => [.string (str s)]
  len := fun _ => rfl
  one := fun s u hu => by simp at hu; subst hu; rfl
  pos := by decide
  under := Try.underlying92
  info := by kernel_rfl
  zsize := rfl
/-- The cells of range k of a list. -/
theorem rngs_at {w : World} {B : Nat} {A : Option Addr} {c : Nat} {l : List Rng} (h : kRng.Rd w B A c l) (hp : 0 < l.length) :
    ∃ b o, A = some ⟨b, o, none⟩ ∧ b < B ∧ ∀ k r, l[k]? = some r → w.cell? ⟨b, o + k * 3, none⟩ = some (.string (str r.lo)) ∧ w.cell? ⟨b, o + k * 3 + 1, none⟩ = some (.string (str r.hi)) ∧ w.cell? ⟨b, o + k * 3 + 2, none⟩ = some (.bool r.op) := by
  obtain ⟨b, o, h1, h2, h3⟩ := h.at_ hp
  exact ⟨b, o, h1, h2, fun k r hr => ⟨h3 k r hr 0 _ rfl, h3 k r hr 1 _ rfl, h3 k r hr 2 _ rfl⟩⟩
theorem texts_at {w : World} {B : Nat} {A : Option Addr} {c : Nat} {l : List (List UInt8)} (h : kStr.Rd w B A c l) (hp : 0 < l.length) :
    ∃ b o, A = some ⟨b, o, none⟩ ∧ b < B ∧ ∀ k s, l[k]? = some s → w.cell? ⟨b, o + k, none⟩ = some (.string (str s)) := by
  obtain ⟨b, o, h1, h2, h3⟩ := h.at_ hp
  refine ⟨b, o, h1, h2, fun k s hs => ?_⟩
  have := h3 k s hs 0 _ rfl
  rwa [show o + (k * kStr.size + 0) = o + k by show o + (k * 1 + 0) = o + k; omega] at this
theorem get_some {α : Type} {l : List α} {k : Nat} (h : k < l.length) : ∃ x, l[k]? = some x ∧ l.drop k = x :: l.drop (k + 1) ∧ x ∈ l := ⟨l[k], List.getElem?_eq_getElem h, List.drop_eq_getElem_cons h, List.getElem_mem h⟩
end Go.Proofs.Ytohdncmlmpnfbaa

/-
  Ranges that came in as a slice.
-/
namespace Go.Proofs.Ytohdncmlmpnfbaa
open Go.ChangeShapes Go.WideShapes Go.ChangeAt Go.RowKit

theorem cells_string : Try.prog.cellsOf 9 = 1 := by kernel_rfl
theorem cells_bool : Try.prog.cellsOf 4 = 1 := by kernel_rfl
set_option maxRecDepth 100000 in
theorem in_rngs {H : Type} {enc : TypeId × Value → H} {W : World} {base : Nat} {v : Value} {d : DataW H} {p : List MemPlace}
    (hok : Value.okWide Try.prog W .any base 22 v) (h : DataW.Trod enc Try.prog W 0 (fun _ => true) true 22 v d p) :
    ∃ (A : Option Addr) (c : Nat) (l : List Rng), v = .slice A l.length c ∧ kRng.Rd W W.heap.size A c l := by
  obtain ⟨A, c, l, rfl, h1, -, h2, h3⟩ := in_slice rngCells (fun _ => True) Try.underlying22 (k := 3) (by kernel_rfl) (by omega) (fun n cs y hl hy => by
    obtain ⟨y0, y1, y2, n', -, -, h0, h1, h2⟩ := Go.Deep.trod_struct3 Try.underlying49 hy
    rw [cells_string] at h0 h1
    rw [cells_bool] at h2
    match cs, hl with
    | [a, b, c], _ =>
      obtain ⟨s, e0, -, w0⟩ := DataW.trod_string Try.underlying9 h0
      obtain ⟨t, e1, -, w1⟩ := DataW.trod_string Try.underlying9 h1
      obtain ⟨q, e2, -⟩ := DataW.trod_bool Try.underlying4 h2
      simp at e0 e1 e2
      subst e0 e1 e2
      exact ⟨⟨s.data.toList, t.data.toList, q⟩, by simp only [rngCells, str_of], trivial⟩) hok h
  exact ⟨A, c, l, rfl, h1, h2, h3⟩
end Go.Proofs.Ytohdncmlmpnfbaa

/-
  Plain facts on numbers as bytes and on a reader of them: no program is named here.
-/
namespace Go.Proofs.Ytohdncmlmpnfbaa

/-- The bytes of a number: seven bits a byte, the lowest first. -/
def putV (n : Nat) : List UInt8 := if n < 128 then [UInt8.ofNat n] else UInt8.ofNat (n % 128 + 128) :: putV (n / 128)
termination_by n
decreasing_by omega
theorem putV_small {n : Nat} (h : n < 128) : putV n = [UInt8.ofNat n] := by rw [putV, if_pos h]
theorem putV_big {n : Nat} (h : ¬ n < 128) : putV n = UInt8.ofNat (n % 128 + 128) :: putV (n / 128) := by rw [putV, if_neg h]
theorem putV_len (k : Nat) : ∀ n, n < 128 ^ (k + 1) → (putV n).length ≤ k + 1 := by
  induction k with
  | zero => intro n h; rw [putV_small (by simpa using h)]; simp
  | succ k ih =>
    intro n h
    by_cases hn : n < 128
    · rw [putV_small hn]; simp
    · rw [putV_big hn, List.length_cons]
      have := ih (n / 128) (by rw [Nat.pow_succ] at h; omega)
      omega
theorem putV_len10 (n : Nat) (h : n ≤ 9223372036854775807) : (putV n).length ≤ 9 := by
  have e : 128 ^ (8 + 1) = 9223372036854775808 := by decide
  exact putV_len 8 n (by omega)
theorem putV_pos (n : Nat) : 0 < (putV n).length := by
  by_cases h : n < 128
  · rw [putV_small h]; simp
  · rw [putV_big h]; simp

/-- The bytes of numbers, one behind the other. -/
def putsV (l : List Int) : List UInt8 := l.flatMap fun n => putV n.toNat
theorem putsV_nil : putsV [] = [] := rfl
theorem putsV_cons (n : Int) (l : List Int) : putsV (n :: l) = putV n.toNat ++ putsV l := by simp [putsV]
theorem putsV_snoc (l : List Int) (n : Int) : putsV (l ++ [n]) = putsV l ++ putV n.toNat := by simp [putsV]
theorem putsV_len (l : List Int) (h : ∀ n ∈ l, n ≤ 9223372036854775807) : (putsV l).length ≤ 9 * l.length := by
  induction l with
  | nil => simp [putsV]
  | cons x r ih =>
    rw [putsV_cons, List.length_append, List.length_cons]
    have h1 := putV_len10 x.toNat (by have := h x (by simp); omega)
    have h2 := ih fun n hn => h n (by simp [hn])
    omega

/-- What bytes are as a number. -/
def valV : List UInt8 → Nat
  | [] => 0
  | c :: r => c.toNat % 128 + 128 * valV r

/-- The number that begins some bytes, how many it has, and what is wrong: from byte i on. -/
def cutGo : Nat → Nat → List UInt8 → Nat × Nat × Nat
  | i, _, [] => if 8 ≤ i then (0, 0, 11) else (0, 0, 10)
  | i, a, c :: r =>
    if 8 ≤ i then (0, 0, 11)
    else if 128 ≤ c.toNat then cutGo (i + 1) (a + c.toNat % 128 * 128 ^ i) r
    else if (0 < i ∧ c.toNat = 0) ∨ 281474976710656 < a + c.toNat % 128 * 128 ^ i then (0, 0, 11)
    else (a + c.toNat % 128 * 128 ^ i, i + 1, 0)
def cutV (l : List UInt8) : Nat × Nat × Nat := cutGo 0 0 l

theorem cutGo_put : ∀ (n : Nat) (i a : Nat) (r : List UInt8), a + n * 128 ^ i ≤ 281474976710656 → (0 < i → 0 < n) → cutGo i a (putV n ++ r) = (a + n * 128 ^ i, i + (putV n).length, 0) := by
  intro n
  induction n using Nat.strongRecOn with
  | _ n ih =>
    intro i a r hm hi
    have hi8 : ¬ 8 ≤ i := by
      intro h8
      have hn : 0 < n := hi (by omega)
      have h1 : 128 ^ 8 ≤ 128 ^ i := Nat.pow_le_pow_right (by decide) h8
      have h2 : 128 ^ i ≤ n * 128 ^ i := Nat.le_mul_of_pos_left _ hn
      have h3 : 128 ^ 8 = 72057594037927936 := by decide
      omega
    by_cases h : n < 128
    · rw [putV_small h]
      have e : (UInt8.ofNat n).toNat = n := by simp; omega
      simp only [List.cons_append, List.nil_append, cutGo, if_neg hi8, e, List.length_cons, List.length_nil]
      rw [if_neg (by omega), Nat.mod_eq_of_lt h, if_neg ?_]
      rintro (⟨h1, h2⟩ | h1)
      · have := hi h1; omega
      · omega
    · rw [putV_big h]
      have e : (UInt8.ofNat (n % 128 + 128)).toNat = n % 128 + 128 := by simp; omega
      simp only [List.cons_append, cutGo, if_neg hi8, e, List.length_cons]
      have hm128 : (n % 128 + 128) % 128 = n % 128 := by omega
      have key : n % 128 * 128 ^ i + n / 128 * 128 ^ (i + 1) = n * 128 ^ i := by
        rw [Nat.pow_succ, Nat.mul_comm (128 ^ i) 128, ← Nat.mul_assoc, ← Nat.add_mul]
        congr 1; omega
      rw [if_pos (by omega), hm128, ih (n / 128) (by omega) (i + 1) _ r (by omega) (fun _ => by omega)]
      refine Prod.ext ?_ (Prod.ext ?_ rfl)
      · show a + n % 128 * 128 ^ i + n / 128 * 128 ^ (i + 1) = a + n * 128 ^ i
        omega
      · show i + 1 + (putV (n / 128)).length = i + ((putV (n / 128)).length + 1)
        omega
theorem cutV_put (n : Nat) (r : List UInt8) (h : n ≤ 281474976710656) : cutV (putV n ++ r) = (n, (putV n).length, 0) := by
  unfold cutV
  rw [cutGo_put n 0 0 r (by simpa using h) (by omega)]
  simp

theorem cutGo_back : ∀ (l : List UInt8) (i a n k : Nat), cutGo i a l = (n, k, 0) → ∃ m, n = a + m * 128 ^ i ∧ k = i + (putV m).length ∧ l.take (putV m).length = putV m ∧ (0 < i → 0 < m) := by
  intro l
  induction l with
  | nil => intro i a n k h; rw [cutGo] at h; split at h <;> simp at h
  | cons c r ih =>
    intro i a n k h
    rw [cutGo] at h
    by_cases h8 : 8 ≤ i
    · rw [if_pos h8] at h; simp at h
    · rw [if_neg h8] at h
      by_cases hc : 128 ≤ c.toNat
      · rw [if_pos hc] at h
        obtain ⟨m, h1, h2, h3, h4⟩ := ih (i + 1) _ n k h
        have hm := h4 (by omega)
        have hc256 := c.toNat_lt
        have hb : ¬ (c.toNat % 128 + 128 * m) < 128 := by omega
        have e1 : (c.toNat % 128 + 128 * m) / 128 = m := by omega
        have e2 : (c.toNat % 128 + 128 * m) % 128 + 128 = c.toNat := by omega
        have e3 : putV (c.toNat % 128 + 128 * m) = c :: putV m := by
          rw [putV_big hb, e1, e2]; simp
        refine ⟨c.toNat % 128 + 128 * m, ?_, ?_, ?_, fun _ => by omega⟩
        · rw [h1, Nat.pow_succ, Nat.add_mul, Nat.mul_comm (128 ^ i) 128, ← Nat.mul_assoc, Nat.mul_comm m 128]; omega
        · rw [e3, List.length_cons]; omega
        · rw [e3, List.length_cons, List.take_succ_cons, h3]
      · rw [if_neg hc] at h
        split at h
        · simp at h
        · rename_i hno
          simp only [Prod.mk.injEq] at h
          obtain ⟨h1, h2, -⟩ := h
          have e3 : putV c.toNat = [c] := by rw [putV_small (by omega)]; simp
          refine ⟨c.toNat, ?_, ?_, ?_, fun hi => ?_⟩
          · rw [← h1, Nat.mod_eq_of_lt (by omega)]
          · rw [e3]; simpa using h2.symm
          · rw [e3]; rfl
          · rcases Nat.eq_zero_or_pos c.toNat with h0 | h0
            · exact absurd (.inl ⟨hi, h0⟩) hno
            · exact h0
theorem cutV_back {l : List UInt8} {n k : Nat} (h : cutV l = (n, k, 0)) : k = (putV n).length ∧ l.take k = putV n ∧ k ≤ l.length := by
  obtain ⟨m, h1, h2, h3, -⟩ := cutGo_back l 0 0 n k h
  have e : m = n := by simpa using h1.symm
  subst e
  have hk : k = (putV m).length := by simpa using h2
  refine ⟨hk, hk ▸ h3, ?_⟩
  have := congrArg List.length h3
  rw [List.length_take] at this
  omega
theorem cutGo_max : ∀ (l : List UInt8) (i a : Nat), (cutGo i a l).1 ≤ 281474976710656 := by
  intro l
  induction l with
  | nil => intro i a; rw [cutGo]; split <;> simp
  | cons c r ih =>
    intro i a
    rw [cutGo]
    split
    · simp
    · split
      · exact ih _ _
      · split
        · simp
        · rename_i h; simp only; omega
theorem cutV_max (l : List UInt8) : (cutV l).1 ≤ 281474976710656 := cutGo_max l 0 0
theorem cutGo_err : ∀ (l : List UInt8) (i a : Nat), (cutGo i a l).2.2 ≠ 0 → (cutGo i a l).1 = 0 ∧ (cutGo i a l).2.1 = 0 := by
  intro l
  induction l with
  | nil => intro i a; rw [cutGo]; split <;> simp
  | cons c r ih =>
    intro i a
    rw [cutGo]
    split
    · simp
    · split
      · exact ih _ _
      · split <;> simp
theorem cutV_err {l : List UInt8} (h : (cutV l).2.2 ≠ 0) : (cutV l).1 = 0 ∧ (cutV l).2.1 = 0 := cutGo_err l 0 0 h
theorem cutGo_size : ∀ (l : List UInt8) (i a : Nat), i ≤ 8 → (cutGo i a l).2.1 ≤ 8 := by
  intro l
  induction l with
  | nil => intro i a _; rw [cutGo]; split <;> simp
  | cons c r ih =>
    intro i a hi
    rw [cutGo]
    split
    · simp
    · split
      · exact ih _ _ (by omega)
      · split <;> simp <;> omega
theorem cutV_size (l : List UInt8) : (cutV l).2.1 ≤ 8 := cutGo_size l 0 0 (by omega)
theorem cutV_le (l : List UInt8) : (cutV l).2.1 ≤ l.length := by
  by_cases h : (cutV l).2.2 = 0
  · exact (cutV_back (l := l) (n := (cutV l).1) (k := (cutV l).2.1) (by rw [← h])).2.2
  · rw [(cutV_err h).2]; omega

/-- The first k bytes all have 128 or more. -/
def Lead (l : List UInt8) (k : Nat) : Prop := k ≤ l.length ∧ ∀ j, j < k → 128 ≤ (l.getD j 0).toNat
theorem Lead.zero (l : List UInt8) : Lead l 0 := ⟨Nat.zero_le _, fun j h => by omega⟩
theorem Lead.next {l : List UInt8} {k : Nat} (h : Lead l k) (hk : k < l.length) (hc : 128 ≤ (l.getD k 0).toNat) : Lead l (k + 1) :=
  ⟨hk, fun j hj => by
    rcases Nat.lt_or_ge j k with h' | h'
    · exact h.2 j h'
    · obtain rfl : j = k := by omega
      exact hc⟩
theorem valV_snoc : ∀ (l : List UInt8) (c : UInt8), valV (l ++ [c]) = valV l + c.toNat % 128 * 128 ^ l.length
  | [], c => by simp [valV]
  | x :: l, c => by
    rw [List.cons_append, valV, valV, valV_snoc l c, List.length_cons, Nat.pow_succ, Nat.mul_add, Nat.mul_comm (128 ^ l.length) 128, ← Nat.mul_assoc, ← Nat.mul_assoc, Nat.mul_comm 128 (c.toNat % 128)]
    omega
theorem valV_take (l : List UInt8) (k : Nat) (h : k < l.length) : valV (l.take (k + 1)) = valV (l.take k) + (l.getD k 0).toNat % 128 * 128 ^ k := by
  rw [take_snoc_getD l k h, valV_snoc, List.length_take, Nat.min_eq_left (by omega)]
theorem valV_drop (l : List UInt8) (k : Nat) (h : k < l.length) : valV (l.drop k) = (l.getD k 0).toNat % 128 + 128 * valV (l.drop (k + 1)) := by
  rw [drop_cons_getD8 l k h, valV]
theorem valV_lt : ∀ (l : List UInt8), valV l < 128 ^ l.length
  | [] => by simp [valV]
  | c :: r => by
    have := valV_lt r
    rw [valV, List.length_cons, Nat.pow_succ]; omega
theorem valV_take_lt (l : List UInt8) (k : Nat) (h : k ≤ 8) : valV (l.take k) < 72057594037927936 := by
  have h1 := valV_lt (l.take k)
  have h2 : 128 ^ (l.take k).length ≤ 128 ^ 8 := Nat.pow_le_pow_right (by decide) (by rw [List.length_take]; omega)
  have h3 : 128 ^ 8 = 72057594037927936 := by decide
  omega
theorem cutV_lead {l : List UInt8} : ∀ {k : Nat}, Lead l k → k ≤ 8 → cutV l = cutGo k (valV (l.take k)) (l.drop k)
  | 0, _, _ => by simp [cutV, valV]
  | k + 1, h, h8 => by
    have hk : k < l.length := h.1
    rw [cutV_lead (k := k) ⟨by omega, fun j hj => h.2 j (by omega)⟩ (by omega), drop_cons_getD8 l k hk, cutGo, if_neg (by omega), if_pos (h.2 k (by omega)), ← valV_take l k hk]
theorem cut_eight {l : List UInt8} (h : Lead l 8) : cutV l = (0, 0, 11) := by
  rw [cutV_lead h (by omega)]
  cases l.drop 8 with
  | nil => rfl
  | cons c r => rfl
theorem cut_short {l : List UInt8} (h : Lead l l.length) (h8 : l.length < 8) : cutV l = (0, 0, 10) := by
  rw [cutV_lead h (by omega), List.drop_length, cutGo, if_neg (by omega)]
theorem cut_bad {l : List UInt8} {k : Nat} (h : Lead l k) (hk : k < l.length) (h8 : k < 8) (hc : (l.getD k 0).toNat < 128)
    (hb : (0 < k ∧ (l.getD k 0).toNat = 0) ∨ 281474976710656 < valV (l.take (k + 1))) : cutV l = (0, 0, 11) := by
  rw [cutV_lead h (by omega), drop_cons_getD8 l k hk, cutGo, if_neg (by omega), if_neg (by omega), ← valV_take l k hk, if_pos hb]
theorem cut_good {l : List UInt8} {k : Nat} (h : Lead l k) (hk : k < l.length) (h8 : k < 8) (hc : (l.getD k 0).toNat < 128)
    (hb : ¬ ((0 < k ∧ (l.getD k 0).toNat = 0) ∨ 281474976710656 < valV (l.take (k + 1)))) : cutV l = (valV (l.take (k + 1)), k + 1, 0) := by
  rw [cutV_lead h (by omega), drop_cons_getD8 l k hk, cutGo, if_neg (by omega), if_neg (by omega), ← valV_take l k hk, if_neg hb]

/-- What a reader of the bytes l, with the error e, reads as a number: the number, what is left, the error. -/
def numR (l : List UInt8) (e : Int) : Nat × List UInt8 × Int :=
  if e = 0 then (if (cutV l).2.2 = 0 then ((cutV l).1, l.drop (cutV l).2.1, 0) else (0, l, ((cutV l).2.2 : Int))) else (0, l, e)
def withinR (lo hi : Int) (l : List UInt8) (e : Int) : Nat × List UInt8 × Int :=
  if ((numR l e).1 : Int) < lo ∨ hi < ((numR l e).1 : Int) then (0, l, if (numR l e).2.2 = 0 then 11 else (numR l e).2.2) else numR l e
def textR (most : Int) (l : List UInt8) (e : Int) : List UInt8 × List UInt8 × Int :=
  if (withinR 0 most l e).2.1.length < (withinR 0 most l e).1 then ([], l, if (withinR 0 most l e).2.2 = 0 then 10 else (withinR 0 most l e).2.2)
  else ((withinR 0 most l e).2.1.take (withinR 0 most l e).1, (withinR 0 most l e).2.1.drop (withinR 0 most l e).1, (withinR 0 most l e).2.2)
def endR (l : List UInt8) (e : Int) : Int := if e = 0 ∧ l ≠ [] then 14 else e

theorem numR_err {l : List UInt8} {e : Int} (h : e ≠ 0) : numR l e = (0, l, e) := by unfold numR; rw [if_neg h]
theorem numR_max (l : List UInt8) (e : Int) : (numR l e).1 ≤ 281474976710656 := by
  unfold numR
  split
  · split
    · exact cutV_max l
    · simp
  · simp
/-- Behind an error nothing is read, and all is left. -/
theorem numR_same (l : List UInt8) (e : Int) (h : (numR l e).2.2 ≠ 0) : (numR l e).1 = 0 ∧ (numR l e).2.1 = l := by
  unfold numR at h ⊢
  split
  · split
    · rename_i h1 h2; rw [if_pos h1, if_pos h2] at h; simp at h
    · simp
  · simp
theorem withinR_same (lo hi : Int) (l : List UInt8) (e : Int) (h : (withinR lo hi l e).2.2 ≠ 0) : (withinR lo hi l e).1 = 0 ∧ (withinR lo hi l e).2.1 = l := by
  unfold withinR at h ⊢
  split
  · simp
  · rename_i h1; rw [if_neg h1] at h; exact numR_same l e h
theorem withinR_err {lo hi : Int} {l : List UInt8} {e : Int} (h : e ≠ 0) : withinR lo hi l e = (0, l, e) := by
  unfold withinR
  rw [numR_err h]
  simp [h]
theorem textR_err {most : Int} {l : List UInt8} {e : Int} (h : e ≠ 0) : textR most l e = ([], l, e) := by
  unfold textR
  rw [withinR_err h]
  simp
theorem withinR_num (l : List UInt8) (e : Int) : withinR 0 281474976710656 l e = numR l e := by
  unfold withinR
  rw [if_neg]
  have := numR_max l e
  omega
theorem numR_suffix (l : List UInt8) (e : Int) : ∃ k, k ≤ l.length ∧ (numR l e).2.1 = l.drop k := by
  unfold numR
  split
  · split
    · exact ⟨_, cutV_le l, rfl⟩
    · exact ⟨0, by omega, rfl⟩
  · exact ⟨0, by omega, rfl⟩
theorem numR_len (l : List UInt8) (e : Int) : (numR l e).2.1.length ≤ l.length := by
  obtain ⟨k, _, h⟩ := numR_suffix l e
  rw [h, List.length_drop]; omega
theorem withinR_len (lo hi : Int) (l : List UInt8) (e : Int) : (withinR lo hi l e).2.1.length ≤ l.length := by
  unfold withinR
  split
  · simp
  · exact numR_len l e
theorem textR_len (most : Int) (l : List UInt8) (e : Int) : (textR most l e).2.1.length ≤ l.length := by
  unfold textR
  split
  · simp
  · have := withinR_len 0 most l e
    simp only [List.length_drop]; omega
theorem withinR_cut {lo hi : Int} {l : List UInt8} {n k x : Nat} (h : cutV l = (n, k, x)) :
    k ≤ l.length ∧ k ≤ 8 ∧ n ≤ 281474976710656 ∧ (x ≠ 0 → withinR lo hi l 0 = (0, l, (x : Int))) ∧ (x = 0 → ((n : Int) < lo ∨ hi < (n : Int)) → withinR lo hi l 0 = (0, l, 11)) ∧
      (x = 0 → ¬ ((n : Int) < lo ∨ hi < (n : Int)) → withinR lo hi l 0 = (n, l.drop k, 0)) := by
  have h1 := cutV_le l
  have h2 := cutV_size l
  have h3 := cutV_max l
  rw [h] at h1 h2 h3
  refine ⟨h1, h2, h3, fun hx => ?_, fun hx hr => ?_, fun hx hr => ?_⟩
  · have e : numR l 0 = (0, l, (x : Int)) := by unfold numR; rw [if_pos rfl, h, if_neg hx]
    have hx' : ¬ (x : Int) = 0 := by omega
    unfold withinR
    rw [e]
    show (if _ then (0, l, if (x : Int) = 0 then 11 else (x : Int)) else _) = _
    rw [if_neg hx', ite_self]
  · subst hx
    have e : numR l 0 = (n, l.drop k, 0) := by unfold numR; rw [if_pos rfl, h, if_pos rfl]
    unfold withinR
    rw [e, if_pos hr]
    rfl
  · subst hx
    have e : numR l 0 = (n, l.drop k, 0) := by unfold numR; rw [if_pos rfl, h, if_pos rfl]
    unfold withinR
    rw [e, if_neg hr]
theorem numR_put (n : Nat) (r : List UInt8) (h : n ≤ 281474976710656) : numR (putV n ++ r) 0 = (n, r, 0) := by
  unfold numR
  rw [if_pos rfl, cutV_put n r h]
  simp
theorem textR_put (s r : List UInt8) (h : s.length ≤ 281474976710656) : textR (s.length : Int) (putV s.length ++ (s ++ r)) 0 = (s, r, 0) := by
  have e : withinR 0 (s.length : Int) (putV s.length ++ (s ++ r)) 0 = (s.length, s ++ r, 0) := by
    unfold withinR
    rw [numR_put s.length _ h, if_neg (by simp)]
  unfold textR
  rw [e]
  simp
end Go.Proofs.Ytohdncmlmpnfbaa

/-
  Plain facts on lists of ranges as sets of texts (layer 8): union, meet, what is left, what a list hasn't. No program in this text.
-/
namespace Go.Proofs.Ytohdncmlmpnfbaa

/-- What is meant by a number: 1 of one of both, 2 of both, 3 of a and not b, else of none of both. -/
def gV (op : Int) (x y : Bool) : Bool :=
  match decide (op = 1) with
  | true => x || y
  | false => match decide (op = 2) with
    | true => x && y
    | false => match decide (op = 3) with
      | true => x && !y
      | false => !x && !y
def inV (op : Int) (a b : List Rng) (s : List UInt8) : Bool := gV op (hasL a s) (hasL b s)
/-- The right list of what is meant. -/
def makeV (op : Int) (a b : List Rng) : List Rng := mkR (inV op a b) (edgesL (a ++ b)) none
theorem makeV_right (op : Int) (a b : List Rng) : rightL (makeV op a b) = true := (make_ok a b (gV op)).1
theorem makeV_has (op : Int) (a b : List Rng) (s : List UInt8) : hasL (makeV op a b) s = gV op (hasL a s) (hasL b s) := (make_ok a b (gV op)).2 s
theorem makeV_unique {op : Int} {a b u : List Rng} (h : rightL u = true) (hs : ∀ s, hasL u s = gV op (hasL a s) (hasL b s)) : u = makeV op a b :=
  rightL_unique h (makeV_right op a b) fun s => by rw [hs, makeV_has]
theorem gV1 (x y : Bool) : gV 1 x y = (x || y) := rfl
theorem gV2 (x y : Bool) : gV 2 x y = (x && y) := rfl
theorem gV3 (x y : Bool) : gV 3 x y = (x && !y) := rfl
theorem gV4 (x y : Bool) : gV 4 x y = (!x && !y) := rfl
theorem hasL_nil (s : List UInt8) : hasL [] s = false := rfl
/-- The right list of a list's texts. -/
def normV (a : List Rng) : List Rng := makeV 1 a []
def notV (a : List Rng) : List Rng := makeV 4 a []
theorem normV_has (a : List Rng) (s : List UInt8) : hasL (normV a) s = hasL a s := by rw [normV, makeV_has, gV1, hasL_nil, Bool.or_false]
theorem notV_has (a : List Rng) (s : List UInt8) : hasL (notV a) s = !hasL a s := by rw [notV, makeV_has, gV4, hasL_nil, Bool.not_false, Bool.and_true]
theorem normV_right {a : List Rng} (h : rightL a = true) : normV a = a := (makeV_unique h fun s => by rw [gV1, hasL_nil, Bool.or_false]).symm
instance : DecidableEq Rng := fun r t => match decEq r.lo t.lo, decEq r.hi t.hi, decEq r.op t.op with
  | .isTrue h1, .isTrue h2, .isTrue h3 => .isTrue (rng_ext h1 h2 h3)
  | .isFalse h, _, _ => .isFalse fun e => h (by rw [e])
  | _, .isFalse h, _ => .isFalse fun e => h (by rw [e])
  | _, _, .isFalse h => .isFalse fun e => h (by rw [e])
def sameV (a b : List Rng) : Bool := decide (normV a = normV b)
def withinV (a b : List Rng) : Bool := (makeV 3 a b).isEmpty
theorem rightL_empty {u : List Rng} (h : rightL u = true) (hs : ∀ s, hasL u s = false) : u = [] := rightL_unique h rfl fun s => by rw [hs]; rfl
theorem sameV_iff {a b : List Rng} : sameV a b = true ↔ ∀ s, hasL a s = hasL b s := by
  unfold sameV
  rw [decide_eq_true_eq]
  constructor
  · intro h s; rw [← normV_has a, h, normV_has]
  · intro h; exact rightL_unique (makeV_right _ _ _) (makeV_right _ _ _) fun s => by rw [normV_has, normV_has, h]
theorem withinV_iff {a b : List Rng} : withinV a b = true ↔ ∀ s, hasL a s = true → hasL b s = true := by
  unfold withinV
  rw [List.isEmpty_iff]
  constructor
  · intro h s hs
    have := makeV_has 3 a b s
    rw [h, hasL_nil, gV3, hs, Bool.true_and] at this
    cases hb : hasL b s with
    | true => rfl
    | false => rw [hb] at this; cases this
  · intro h
    refine rightL_empty (makeV_right _ _ _) fun s => ?_
    rw [makeV_has, gV3]
    cases ha : hasL a s with
    | false => rfl
    | true => rw [h s ha]; rfl
theorem sameV_within (a b : List Rng) : sameV a b = (withinV a b && withinV b a) := by
  rw [Bool.eq_iff_iff, Bool.and_eq_true, sameV_iff, withinV_iff, withinV_iff]
  constructor
  · intro h; exact ⟨fun s e => by rw [← h]; exact e, fun s e => by rw [h]; exact e⟩
  · intro ⟨h1, h2⟩ s
    cases ha : hasL a s with
    | true => exact (h1 s ha).symm
    | false => cases hb : hasL b s with
      | false => rfl
      | true => rw [h2 s hb] at ha; cases ha
theorem notV_notV (a : List Rng) : sameV (notV (notV a)) a = true := sameV_iff.2 fun s => by rw [notV_has, notV_has, Bool.not_not]
theorem not_union (a b : List Rng) : sameV (notV (makeV 1 a b)) (makeV 2 (notV a) (notV b)) = true := sameV_iff.2 fun s => by
  rw [notV_has, makeV_has, makeV_has, notV_has, notV_has, gV1, gV2, Bool.not_or]
theorem less_meet (a b : List Rng) : sameV (makeV 1 (makeV 3 a b) (makeV 2 a b)) a = true := sameV_iff.2 fun s => by
  rw [makeV_has, makeV_has, makeV_has, gV1, gV2, gV3]; cases hasL a s <;> cases hasL b s <;> rfl
theorem meet_union (a b c : List Rng) : makeV 2 a (makeV 1 b c) = makeV 1 (makeV 2 a b) (makeV 2 a c) := makeV_unique (makeV_right _ _ _) fun s => by
  rw [makeV_has, makeV_has, makeV_has, makeV_has, gV1, gV1, gV2, gV2, gV2]; cases hasL a s <;> cases hasL b s <;> cases hasL c s <;> rfl
theorem union_meet (a b c : List Rng) : makeV 1 a (makeV 2 b c) = makeV 2 (makeV 1 a b) (makeV 1 a c) := makeV_unique (makeV_right _ _ _) fun s => by
  rw [makeV_has, makeV_has, makeV_has, makeV_has, gV1, gV1, gV1, gV2, gV2]; cases hasL a s <;> cases hasL b s <;> cases hasL c s <;> rfl
theorem less_union (a b c : List Rng) : makeV 3 (makeV 1 a b) c = makeV 1 (makeV 3 a c) (makeV 3 b c) := makeV_unique (makeV_right _ _ _) fun s => by
  rw [makeV_has, makeV_has, makeV_has, makeV_has, gV1, gV1, gV3, gV3, gV3]; cases hasL a s <;> cases hasL b s <;> cases hasL c s <;> rfl
theorem union_comm (a b : List Rng) : makeV 1 a b = makeV 1 b a := makeV_unique (makeV_right _ _ _) fun s => by rw [makeV_has, gV1, gV1, Bool.or_comm]
theorem norm_append (a b : List Rng) : normV (a ++ b) = makeV 1 a b := makeV_unique (makeV_right _ _ _) fun s => by rw [normV_has, hasL_append, gV1]
/-- How many ranges, and how long their texts. -/
def SmallL (n : Nat) (l : List Rng) : Prop := l.length ≤ n ∧ ∀ r ∈ l, r.lo.length ≤ 1000 ∧ r.hi.length ≤ 1000
theorem rightL_all : ∀ {l : List Rng}, rightL l = true → ∀ r ∈ l, rightR r = true
  | [], _, _, h => by cases h
  | t :: l, h, r, hr => by
    rcases List.mem_cons.1 hr with rfl | hr
    · exact rightL_head h
    · exact rightL_all (rightL_tail h) r hr
theorem mkR_len (f : List UInt8 → Bool) : ∀ (es : List (List UInt8)) (o : Option (List UInt8)), (mkR f es o).length ≤ es.length + 1
  | [], none => by simp [mkR]
  | [], some lo => by simp [mkR]
  | e :: es, none => by
    rw [mkR]
    cases f e
    · have := mkR_len f es none; simp; omega
    · have := mkR_len f es (some e); simp; omega
  | e :: es, some lo => by
    rw [mkR]
    cases f e
    · have := mkR_len f es none; simp; omega
    · have := mkR_len f es (some lo); simp; omega
theorem putL_len : ∀ (l : List (List UInt8)) (s : List UInt8), (putL l s).length ≤ l.length + 1
  | [], s => by simp [putL]
  | x :: l, s => by
    have := putL_len l s
    rw [putL]
    cases ltB x s with
    | true => simp; omega
    | false => cases decide (x = s) <;> simp
theorem addE_len (E : List (List UInt8)) (r : Rng) : (addE E r).length ≤ E.length + 2 := by
  unfold addE
  have h1 := putL_len E r.lo
  have h2 := putL_len (putL E r.lo) r.hi
  cases rightR r with
  | false => simp
  | true => cases r.op <;> simp <;> omega
theorem edges_len : ∀ (l : List Rng) (E : List (List UInt8)), (l.foldl addE E).length ≤ E.length + 2 * l.length
  | [], E => by simp
  | r :: l, E => by
    have h1 := edges_len l (addE E r)
    have h2 := addE_len E r
    simp only [List.foldl_cons, List.length_cons]
    omega
theorem edgesL_len (l : List Rng) : (edgesL l).length ≤ 1 + 2 * l.length := edges_len l [[]]
theorem makeV_small (op : Int) {a b : List Rng} {n m : Nat} (ha : SmallL n a) (hb : SmallL m b) : SmallL (2 * (n + m) + 2) (makeV op a b) := by
  refine ⟨?_, fun r hr => ?_⟩
  · have h1 := mkR_len (inV op a b) (edgesL (a ++ b)) none
    have h2 := edgesL_len (a ++ b)
    rw [List.length_append] at h2
    have h3 := ha.1
    have h4 := hb.1
    unfold makeV
    omega
  · have := rightL_all (makeV_right op a b) r hr
    have h1 := rightR_lo this
    have h2 := rightR_hi this
    omega
theorem smallL_nil (n : Nat) : SmallL n [] := ⟨by simp, by simp⟩
theorem SmallL.mono {n m : Nat} {l : List Rng} (h : SmallL n l) (hm : n ≤ m) : SmallL m l := ⟨Nat.le_trans h.1 hm, h.2⟩
end Go.Proofs.Ytohdncmlmpnfbaa

/-
  Plain facts on filters (layer 9): which are right, which texts they have, which list of ranges. No program in this text.
-/
namespace Go.Proofs.Ytohdncmlmpnfbaa

/-- A node of a filter. -/
structure Nd where
  op : Int
  kids : Int
  lo : List UInt8
  hi : List UInt8
/-- May a node be, but for what it finds? -/
def nodeV (n : Nd) : Bool :=
  if n.op = 1 ∨ n.op = 2 then decide (n.kids = 0) && (n.lo.isEmpty && n.hi.isEmpty)
  else if n.op = 3 then decide (n.kids = 0) && (decide (n.lo.length ≤ 16) && n.hi.isEmpty)
  else if n.op = 4 then decide (n.kids = 0) && rightR ⟨n.lo, n.hi, false⟩
  else if n.op = 5 then decide (n.kids = 0) && (decide (n.lo.length ≤ 17) && n.hi.isEmpty)
  else n.lo.isEmpty && n.hi.isEmpty && (decide (n.op = 6 ∧ n.kids = 1) || decide ((n.op = 7 ∨ n.op = 8) ∧ 1 ≤ n.kids ∧ n.kids ≤ 32))
def kidsN (n : Nd) : Nat := n.kids.toNat
theorem nodeV_kids {n : Nd} (h : nodeV n = true) : 0 ≤ n.kids ∧ n.kids ≤ 32 := by
  unfold nodeV at h
  split at h
  · simp only [Bool.and_eq_true, decide_eq_true_eq] at h; omega
  · split at h
    · simp only [Bool.and_eq_true, decide_eq_true_eq] at h; omega
    · split at h
      · simp only [Bool.and_eq_true, decide_eq_true_eq] at h; omega
      · split at h
        · simp only [Bool.and_eq_true, decide_eq_true_eq] at h; omega
        · simp only [Bool.and_eq_true, Bool.or_eq_true, decide_eq_true_eq] at h
          rcases h.2 with h | h <;> omega
theorem nodeV_op {n : Nd} (h : nodeV n = true) : 1 ≤ n.op ∧ n.op ≤ 8 := by
  unfold nodeV at h
  split at h
  · omega
  · split at h
    · omega
    · split at h
      · omega
      · split at h
        · omega
        · simp only [Bool.and_eq_true, Bool.or_eq_true, decide_eq_true_eq] at h
          rcases h.2 with h | h <;> omega
/-- From the last node down: so many filters taken off. -/
def cntV : Nat → List Nd → Option (List Nd)
  | 0, R => some R
  | _ + 1, [] => none
  | k + 1, n :: R => match nodeV n with
    | true => cntV (k + kidsN n) R
    | false => none
/-- From the first node on: how many filters stand open. -/
def depV : List Nd → Nat → Option Nat
  | [], d => some d
  | n :: l, d => match nodeV n && decide (kidsN n ≤ d) with
    | true => depV l (d - kidsN n + 1)
    | false => none
theorem cntV_zero (R : List Nd) : cntV 0 R = some R := by cases R <;> rfl
theorem cntV_node {k : Nat} {n : Nd} {R : List Nd} (h : nodeV n = true) : cntV (k + 1) (n :: R) = cntV (k + kidsN n) R := by rw [cntV, h]
theorem cntV_wrong {k : Nat} {n : Nd} {R : List Nd} (h : nodeV n = false) : cntV (k + 1) (n :: R) = none := by rw [cntV, h]
theorem cntV_add : ∀ (R : List Nd) (j k : Nat), cntV (j + k) R = (cntV j R).bind (cntV k)
  | R, 0, k => by rw [Nat.zero_add, cntV_zero]; rfl
  | [], j + 1, k => by rw [show j + 1 + k = (j + k) + 1 by omega]; rfl
  | n :: R, j + 1, k => by
    rw [show j + 1 + k = (j + k) + 1 by omega]
    cases h : nodeV n with
    | true => rw [cntV_node h, cntV_node h, show j + k + kidsN n = (j + kidsN n) + k by omega, cntV_add R (j + kidsN n) k]
    | false => rw [cntV_wrong h, cntV_wrong h]; rfl
theorem cntV_suffix : ∀ (R : List Nd) (k : Nat) {R' : List Nd}, cntV k R = some R' → R' <:+ R
  | R, 0, R', h => by rw [cntV_zero] at h; injection h with h; subst h; exact List.suffix_refl _
  | [], k + 1, R', h => by cases h
  | n :: R, k + 1, R', h => by
    cases hn : nodeV n with
    | true => rw [cntV_node hn] at h; exact (cntV_suffix R _ h).trans (List.suffix_cons n R)
    | false => rw [cntV_wrong hn] at h; cases h
theorem depV_node {n : Nd} {l : List Nd} {d : Nat} (h : nodeV n = true) (hk : kidsN n ≤ d) : depV (n :: l) d = depV l (d - kidsN n + 1) := by rw [depV, h, decide_eq_true hk]; rfl
theorem depV_wrong {n : Nd} {l : List Nd} {d : Nat} (h : nodeV n = false ∨ ¬ kidsN n ≤ d) : depV (n :: l) d = none := by
  rw [depV]
  rcases h with h | h
  · rw [h]; rfl
  · rw [decide_eq_false h, Bool.and_false]
theorem depV_append : ∀ (a b : List Nd) (d : Nat), depV (a ++ b) d = (depV a d).bind (depV b)
  | [], b, d => rfl
  | n :: a, b, d => by
    rw [List.cons_append]
    by_cases h : nodeV n = true ∧ kidsN n ≤ d
    · rw [depV_node h.1 h.2, depV_node h.1 h.2, depV_append a b]
    · have h' : nodeV n = false ∨ ¬ kidsN n ≤ d := by
        cases hn : nodeV n with
        | false => exact .inl rfl
        | true => exact .inr fun hk => h ⟨hn, hk⟩
      rw [depV_wrong h', depV_wrong h']; rfl
theorem depV_up : ∀ (a : List Nd) (d e k : Nat), depV a d = some e → depV a (d + k) = some (e + k)
  | [], d, e, k, h => by injection h with h; subst h; rfl
  | n :: a, d, e, k, h => by
    by_cases hn : nodeV n = true ∧ kidsN n ≤ d
    · rw [depV_node hn.1 hn.2] at h
      rw [depV_node hn.1 (by omega), show d + k - kidsN n + 1 = (d - kidsN n + 1) + k by omega]
      exact depV_up a _ e k h
    · have h' : nodeV n = false ∨ ¬ kidsN n ≤ d := by
        cases hm : nodeV n with
        | false => exact .inl rfl
        | true => exact .inr fun hk => hn ⟨hm, hk⟩
      rw [depV_wrong h'] at h; cases h
theorem depV_one {n : Nd} {d e : Nat} : depV [n] d = some e ↔ nodeV n = true ∧ kidsN n ≤ d ∧ e = d - kidsN n + 1 := by
  by_cases h : nodeV n = true ∧ kidsN n ≤ d
  · rw [depV_node h.1 h.2]
    show some (d - kidsN n + 1) = some e ↔ _
    constructor
    · intro h1; injection h1 with h1; exact ⟨h.1, h.2, h1.symm⟩
    · rintro ⟨_, _, h1⟩; rw [h1]
  · have h' : nodeV n = false ∨ ¬ kidsN n ≤ d := by
      cases hm : nodeV n with
      | false => exact .inl rfl
      | true => exact .inr fun hk => h ⟨hm, hk⟩
    rw [depV_wrong h']
    constructor
    · intro h1; cases h1
    · rintro ⟨h1, h2, _⟩; exact absurd ⟨h1, h2⟩ h
/-- Both ways tell the same filters. -/
theorem cnt_dep : ∀ (R : List Nd) (k : Nat), cntV k R = some [] ↔ depV R.reverse 0 = some k
  | [], 0 => by simp [cntV, depV]
  | [], k + 1 => by simp [cntV, depV]
  | n :: R, k => by
    rw [List.reverse_cons, depV_append]
    cases k with
    | zero =>
      rw [cntV_zero]
      constructor
      · intro h; cases h
      · intro h
        cases hd : depV R.reverse 0 with
        | none => rw [hd] at h; cases h
        | some d =>
          rw [hd] at h
          have := (depV_one (n := n) (d := d) (e := 0)).1 h
          omega
    | succ k =>
      cases hn : nodeV n with
      | false =>
        rw [cntV_wrong hn]
        constructor
        · intro h; cases h
        · intro h
          cases hd : depV R.reverse 0 with
          | none => rw [hd] at h; cases h
          | some d =>
            rw [hd] at h
            have := ((depV_one (n := n) (d := d) (e := k + 1)).1 h).1
            rw [hn] at this; cases this
      | true =>
        rw [cntV_node hn, cnt_dep R (k + kidsN n)]
        constructor
        · intro h
          rw [h]
          exact (depV_one (n := n)).2 ⟨hn, by omega, by omega⟩
        · intro h
          cases hd : depV R.reverse 0 with
          | none => rw [hd] at h; cases h
          | some d =>
            rw [hd] at h
            obtain ⟨_, h2, h3⟩ := (depV_one (n := n) (d := d) (e := k + 1)).1 h
            rw [show d = k + kidsN n by omega]
/-- A right filter. -/
def rightN (l : List Nd) : Bool := decide (1 ≤ l.length) && decide (l.length ≤ 32) && decide (depV l 0 = some 1)
theorem rightN_iff {l : List Nd} : rightN l = true ↔ 1 ≤ l.length ∧ l.length ≤ 32 ∧ depV l 0 = some 1 := by
  unfold rightN
  simp only [Bool.and_eq_true, decide_eq_true_eq, and_assoc]
/-- Where the filter begins whose last node stands ahead of a place; -1: it is none. -/
def begV (l : List Nd) (p : Nat) : Int := match cntV 1 (l.take p).reverse with
  | some R => (R.length : Nat)
  | none => -1
theorem rightN_beg {l : List Nd} : rightN l = (decide (1 ≤ l.length) && (decide (l.length ≤ 32) && decide (begV l l.length = 0))) := by
  have key : begV l l.length = 0 ↔ depV l 0 = some 1 := by
    have h := cnt_dep l.reverse 1
    rw [List.reverse_reverse] at h
    rw [← h]
    unfold begV
    rw [List.take_length]
    cases hc : cntV 1 l.reverse with
    | none => simp
    | some R => simp
  rw [Bool.eq_iff_iff, rightN_iff]
  simp only [Bool.and_eq_true, decide_eq_true_eq]
  rw [key]

/-! What it has. -/
abbrev TxtP := List UInt8 → Bool
def valN (n : Nd) (ks : List TxtP) : TxtP := fun s =>
  if n.op = 1 then true
  else if n.op = 3 then n.lo.isPrefixOf s
  else if n.op = 4 then hasR ⟨n.lo, n.hi, false⟩ s
  else if n.op = 5 then !ltB s n.lo
  else if n.op = 6 then !(ks.any fun k => k s)
  else if n.op = 7 then ks.all fun k => k s
  else if n.op = 8 then ks.any fun k => k s
  else false
/-- What stands open, the last one first. -/
def evV : List Nd → List TxtP → List TxtP
  | [], st => st
  | n :: l, st => evV l (valN n (st.take (kidsN n)) :: st.drop (kidsN n))
theorem evV_append : ∀ (a b : List Nd) (st : List TxtP), evV (a ++ b) st = evV b (evV a st)
  | [], _, _ => rfl
  | n :: a, b, st => by rw [List.cons_append, evV, evV, evV_append a b]
theorem evV_len : ∀ (a : List Nd) (st : List TxtP) (e : Nat), depV a st.length = some e → (evV a st).length = e
  | [], st, e, h => by injection h
  | n :: a, st, e, h => by
    by_cases hn : nodeV n = true ∧ kidsN n ≤ st.length
    · rw [depV_node hn.1 hn.2] at h
      rw [evV]
      refine evV_len a _ e ?_
      rw [List.length_cons, List.length_drop]; exact h
    · have h' : nodeV n = false ∨ ¬ kidsN n ≤ st.length := by
        cases hm : nodeV n with
        | false => exact .inl rfl
        | true => exact .inr fun hk => hn ⟨hm, hk⟩
      rw [depV_wrong h'] at h; cases h
theorem evV_up : ∀ (a : List Nd) (st tt : List TxtP) (e : Nat), depV a st.length = some e → evV a (st ++ tt) = evV a st ++ tt
  | [], _, _, _, _ => rfl
  | n :: a, st, tt, e, h => by
    by_cases hn : nodeV n = true ∧ kidsN n ≤ st.length
    · rw [depV_node hn.1 hn.2] at h
      rw [evV, evV, List.take_append_of_le_length hn.2, List.drop_append_of_le_length hn.2, ← List.cons_append]
      refine evV_up a _ tt e ?_
      rw [List.length_cons, List.length_drop]; exact h
    · have h' : nodeV n = false ∨ ¬ kidsN n ≤ st.length := by
        cases hm : nodeV n with
        | false => exact .inl rfl
        | true => exact .inr fun hk => hn ⟨hm, hk⟩
      rw [depV_wrong h'] at h; cases h
/-- What stands open behind a list's first nodes. -/
def stkV (l : List Nd) : List TxtP := evV l []
def topV (l : List Nd) : TxtP := (stkV l).headD fun _ => false
theorem stkV_snoc (l : List Nd) (n : Nd) : stkV (l ++ [n]) = valN n ((stkV l).take (kidsN n)) :: (stkV l).drop (kidsN n) := by
  unfold stkV; rw [evV_append]; rfl
theorem topV_snoc (l : List Nd) (n : Nd) : topV (l ++ [n]) = valN n ((stkV l).take (kidsN n)) := by unfold topV; rw [stkV_snoc]; rfl
/-- Filters taken off: what stood open below them. -/
theorem cnt_stk : ∀ (R : List Nd) (k d : Nat), depV R.reverse 0 = some d → k ≤ d → ∃ R', cntV k R = some R' ∧ depV R'.reverse 0 = some (d - k) ∧ stkV R'.reverse = (stkV R.reverse).drop k
  | R, 0, d, h, _ => ⟨R, cntV_zero R, h, rfl⟩
  | [], k + 1, d, h, hk => by
    have : some 0 = some d := h
    injection this with this
    omega
  | n :: R, k + 1, d, h, hk => by
    rw [List.reverse_cons, depV_append] at h
    cases hd : depV R.reverse 0 with
    | none => rw [hd] at h; cases h
    | some e =>
      rw [hd] at h
      obtain ⟨h1, h2, h3⟩ := (depV_one (n := n) (d := e) (e := d)).1 h
      obtain ⟨R', h4, h5, h6⟩ := cnt_stk R (k + kidsN n) e hd (by omega)
      refine ⟨R', by rw [cntV_node h1]; exact h4, by rw [h5]; congr 1; omega, ?_⟩
      rw [h6, List.reverse_cons, stkV_snoc, List.drop_succ_cons, List.drop_drop]
      congr 1
      omega
def matchN (l : List Nd) (s : List UInt8) : Bool := rightN l && topV l s

/-! What is built of filters. -/
def joinV (op : Int) (ls : List (List Nd)) : List Nd := ls.flatten ++ [⟨op, (ls.length : Nat), [], []⟩]
def andV (ls : List (List Nd)) : List Nd := match ls with
  | [] => [⟨1, 0, [], []⟩]
  | a :: r => joinV 7 (a :: r)
def orV (ls : List (List Nd)) : List Nd := match ls with
  | [] => [⟨2, 0, [], []⟩]
  | a :: r => joinV 8 (a :: r)
def notN (a : List Nd) : List Nd := a ++ [⟨6, 1, [], []⟩]
theorem not_right {a : List Nd} (h : rightN a = true) (hl : a.length ≤ 31) : rightN (notN a) = true ∧ ∀ s, topV (notN a) s = !topV a s := by
  obtain ⟨h1, h2, h3⟩ := rightN_iff.1 h
  have hz := evV_len a [] 1 h3
  constructor
  · rw [rightN_iff]
    unfold notN
    rw [List.length_append, depV_append, h3]
    exact ⟨by simp, by simp; omega, rfl⟩
  · intro s
    unfold notN
    rw [topV_snoc]
    unfold topV
    have hz : (stkV a).length = 1 := hz
    match hs : stkV a, hz with
    | [f], _ => simp [valN, kidsN]
theorem two_right {a b : List Nd} (ha : rightN a = true) (hb : rightN b = true) (hl : a.length + b.length ≤ 31) (op : Int) (ho : op = 7 ∨ op = 8) :
    rightN (joinV op [a, b]) = true ∧ ∀ s, topV (joinV op [a, b]) s = match decide (op = 7) with | true => topV a s && topV b s | false => topV a s || topV b s := by
  obtain ⟨h1, h2, h3⟩ := rightN_iff.1 ha
  obtain ⟨k1, k2, k3⟩ := rightN_iff.1 hb
  have hza : (stkV a).length = 1 := evV_len a [] 1 h3
  have hzb : (stkV b).length = 1 := evV_len b [] 1 k3
  have hd : depV (a ++ b) 0 = some 2 := by
    rw [depV_append, h3]
    exact depV_up b 0 1 1 k3
  have he : stkV (a ++ b) = stkV b ++ stkV a := by
    unfold stkV
    rw [evV_append]
    exact evV_up b [] (evV a []) 1 k3
  have hj : joinV op [a, b] = (a ++ b) ++ [⟨op, 2, [], []⟩] := by simp [joinV]
  have hn : nodeV ⟨op, 2, [], []⟩ = true := by rcases ho with rfl | rfl <;> rfl
  constructor
  · rw [rightN_iff, hj, List.length_append, List.length_append, depV_append, hd]
    refine ⟨by simp, by simp; omega, ?_⟩
    exact (depV_one).2 ⟨hn, Nat.le_refl _, rfl⟩
  · intro s
    rw [hj, topV_snoc, he]
    unfold topV
    match hs : stkV a, hza with
    | [f], _ => match ht : stkV b, hzb with
      | [g], _ =>
        rcases ho with rfl | rfl
        · simp [valN, kidsN, Bool.and_comm]
        · simp [valN, kidsN, Bool.or_comm]

/-! Its list of ranges. -/
def leafR (n : Nd) : Option Rng :=
  if n.op = 3 then some (prefixR n.lo) else if n.op = 4 then some ⟨n.lo, n.hi, false⟩ else if n.op = 5 then some ⟨n.lo, [], true⟩ else none
def leavesL (l : List Nd) : List Rng := l.filterMap leafR
theorem det_has {r : Rng} {E : List (List UInt8)} (h1 : r.lo ∈ E) (h2 : r.op = false → r.hi ∈ E) : Det (hasR r) E := fun s c h => by
  unfold hasR aheadR
  rw [h _ h1]
  cases ho : r.op with
  | true => rfl
  | false => rw [h _ (h2 ho)]
theorem det_leaf {n : Nd} {r : Rng} (hn : nodeV n = true) (hr : leafR n = some r) : rightR r = true ∧ ∀ ks s, valN n ks s = hasR r s := by
  unfold leafR at hr
  unfold nodeV at hn
  by_cases h3 : n.op = 3
  · rw [if_pos h3] at hr
    injection hr with hr
    subst hr
    rw [if_neg (by omega), if_pos h3] at hn
    simp only [Bool.and_eq_true, decide_eq_true_eq] at hn
    exact ⟨prefixR_right hn.2.1, fun ks s => by unfold valN; rw [if_neg (by omega), if_pos h3, prefixR_has hn.2.1]⟩
  · rw [if_neg h3] at hr
    by_cases h4 : n.op = 4
    · rw [if_pos h4] at hr
      injection hr with hr
      subst hr
      rw [if_neg (by omega), if_neg h3, if_pos h4] at hn
      simp only [Bool.and_eq_true, decide_eq_true_eq] at hn
      exact ⟨hn.2, fun ks s => by unfold valN; rw [if_neg (by omega), if_neg h3, if_pos h4]⟩
    · rw [if_neg h4] at hr
      by_cases h5 : n.op = 5
      · rw [if_pos h5] at hr
        injection hr with hr
        subst hr
        rw [if_neg (by omega), if_neg h3, if_neg h4, if_pos h5] at hn
        simp only [Bool.and_eq_true, decide_eq_true_eq] at hn
        exact ⟨rightR_iff.2 ⟨hn.2.1, by simp, fun _ => rfl, fun h => by cases h⟩, fun ks s => by unfold valN; rw [if_neg (by omega), if_neg h3, if_neg h4, if_pos h5, hasR_open hn.2.1]⟩
      · rw [if_neg h5] at hr; cases hr
theorem det_val {n : Nd} {ks : List TxtP} {E : List (List UInt8)} (hn : nodeV n = true) (hE : ∀ r, leafR n = some r → Det (hasR r) E) (hk : ∀ k ∈ ks, Det k E) : Det (valN n ks) E := fun s c h => by
  cases hr : leafR n with
  | some r => rw [(det_leaf hn hr).2, (det_leaf hn hr).2]; exact hE r hr s c h
  | none =>
    have h3 : n.op ≠ 3 := fun e => by unfold leafR at hr; rw [if_pos e] at hr; cases hr
    have h4 : n.op ≠ 4 := fun e => by unfold leafR at hr; rw [if_neg h3, if_pos e] at hr; cases hr
    have h5 : n.op ≠ 5 := fun e => by unfold leafR at hr; rw [if_neg h3, if_neg h4, if_pos e] at hr; cases hr
    have e1 : ∀ k ∈ ks, k s = k c := fun k hk' => hk k hk' s c h
    have e2 : (ks.any fun k => k s) = ks.any fun k => k c := by
      rw [Bool.eq_iff_iff, List.any_eq_true, List.any_eq_true]
      constructor
      · rintro ⟨k, hk', hs⟩; exact ⟨k, hk', by rw [← e1 k hk']; exact hs⟩
      · rintro ⟨k, hk', hs⟩; exact ⟨k, hk', by rw [e1 k hk']; exact hs⟩
    have e3 : (ks.all fun k => k s) = ks.all fun k => k c := by
      rw [Bool.eq_iff_iff, List.all_eq_true, List.all_eq_true]
      constructor
      · intro h1 k hk'; rw [← e1 k hk']; exact h1 k hk'
      · intro h1 k hk'; rw [e1 k hk']; exact h1 k hk'
    unfold valN
    rw [if_neg h3, if_neg h4, if_neg h5, if_neg h3, if_neg h4, if_neg h5, e2, e3]
theorem det_ev : ∀ (l : List Nd) (st : List TxtP) (E : List (List UInt8)) (d : Nat), (∀ n ∈ l, nodeV n = true → ∀ r, leafR n = some r → Det (hasR r) E) → (∀ k ∈ st, Det k E) → depV l st.length = some d → ∀ k ∈ evV l st, Det k E
  | [], _, _, _, _, hs, _ => hs
  | n :: l, st, E, d, hl, hs, hd => by
    by_cases hn : nodeV n = true ∧ kidsN n ≤ st.length
    · rw [depV_node hn.1 hn.2] at hd
      rw [evV]
      refine det_ev l _ E d (fun m hm => hl m (List.mem_cons_of_mem _ hm)) (fun k hk => ?_) (by rw [List.length_cons, List.length_drop]; exact hd)
      rcases List.mem_cons.1 hk with rfl | hk
      · exact det_val hn.1 (hl n (List.mem_cons_self ..) hn.1) fun k hk => hs k (List.mem_of_mem_take hk)
      · exact hs k (List.mem_of_mem_drop hk)
    · have h' : nodeV n = false ∨ ¬ kidsN n ≤ st.length := by
        cases hm : nodeV n with
        | false => exact .inl rfl
        | true => exact .inr fun hk => hn ⟨hm, hk⟩
      rw [depV_wrong h'] at hd; cases hd
def rangesN (l : List Nd) : List Rng := match rightN l with
  | true => mkR (matchN l) (edgesL (leavesL l)) none
  | false => []
theorem rangesN_ok (l : List Nd) : rightL (rangesN l) = true ∧ ∀ s, hasL (rangesN l) s = matchN l s := by
  unfold rangesN
  cases hr : rightN l with
  | false => exact ⟨rfl, fun s => by unfold matchN; rw [hr]; rfl⟩
  | true =>
    obtain ⟨_, _, h3⟩ := rightN_iff.1 hr
    obtain ⟨m, h4, h5, h6⟩ := edgesL_ok (leavesL l)
    have hd : Det (matchN l) (edgesL (leavesL l)) := fun s c h => by
      unfold matchN
      have hz : (stkV l).length = 1 := evV_len l [] 1 h3
      have hk := det_ev l [] (edgesL (leavesL l)) 1 (fun n hn hv r hr => by
        have h7 : r ∈ leavesL l := List.mem_filterMap.2 ⟨n, hn, hr⟩
        obtain ⟨h8, h9⟩ := edges_mem (leavesL l) [[]] h7 (det_leaf hv hr).1
        exact det_has h8 h9) (by simp) h3
      unfold topV
      match hs : stkV l, hz with
      | [f], _ =>
        have := hk f (by show f ∈ stkV l; rw [hs]; simp)
        show (_ && f s) = (_ && f c)
        rw [this s c h]
    rw [h4] at hd ⊢
    exact mkR_all h5 h6 hd
end Go.Proofs.Ytohdncmlmpnfbaa

/-
  Plain facts on lists of ranges and filters as bytes, there and back: no program is named here.
-/
namespace Go.Proofs.Ytohdncmlmpnfbaa

/-- A text's bytes. -/
def txtB (s : List UInt8) : List UInt8 := putV s.length ++ s
def rngB (r : Rng) : List UInt8 := txtB r.lo ++ (match r.op with | true => [1] | false => 0 :: txtB r.hi)
def rngsB (l : List Rng) : List UInt8 := putV l.length ++ l.flatMap rngB
/-- One range, from where a reader stands: what it reads, what is left, the error. -/
def rngR (l : List UInt8) (e : Int) : Rng × List UInt8 × Int :=
  let a := textR 17 l e
  let b := withinR 0 1 a.2.1 a.2.2
  if b.1 = 1 then (⟨a.1, [], true⟩, b.2)
  else
    let c := textR 17 b.2.1 b.2.2
    (⟨a.1, c.1, false⟩, c.2)
/-- Some things, one behind the other, while nothing is wrong. -/
def manyR {α : Type} (f : List UInt8 → Int → α × List UInt8 × Int) : Nat → List UInt8 → Int → List α × List UInt8 × Int
  | 0, l, e => ([], l, e)
  | n + 1, l, e => if e = 0 then ((f l e).1 :: (manyR f n (f l e).2.1 (f l e).2.2).1, (manyR f n (f l e).2.1 (f l e).2.2).2) else ([], l, e)
def allR2 {α : Type} (f : List UInt8 → Int → α × List UInt8 × Int) (most : Int) (right : List α → Bool) (b : List UInt8) : List α × Int :=
  let n := withinR 0 most b 0
  let y := manyR f n.1 n.2.1 n.2.2
  if endR y.2.1 y.2.2 ≠ 0 then ([], endR y.2.1 y.2.2)
  else match right y.1 with
    | true => (y.1, 0)
    | false => ([], 11)
def readRs (b : List UInt8) : List Rng × Int := allR2 rngR 4096 rightL b

theorem withinR_put {lo hi : Int} (n : Nat) (r : List UInt8) (h : n ≤ 281474976710656) (h1 : lo ≤ n) (h2 : (n : Int) ≤ hi) : withinR lo hi (putV n ++ r) 0 = (n, r, 0) := by
  unfold withinR
  rw [numR_put n r h, if_neg]
  show ¬ ((n : Int) < lo ∨ hi < (n : Int))
  omega
theorem textR_most {m : Int} (s r : List UInt8) (h : (s.length : Int) ≤ m) (h2 : m ≤ 281474976710656) : textR m (txtB s ++ r) 0 = (s, r, 0) := by
  have e : withinR 0 m (putV s.length ++ (s ++ r)) 0 = (s.length, s ++ r, 0) := withinR_put _ _ (by omega) (by omega) h
  unfold textR txtB
  rw [List.append_assoc, e]
  simp
theorem numR_of {l r : List UInt8} {e : Int} {n : Nat} (h : numR l e = (n, r, 0)) : e = 0 ∧ l = putV n ++ r := by
  unfold numR at h
  split at h
  · rename_i he
    refine ⟨he, ?_⟩
    split at h
    · rename_i hc
      obtain ⟨h1, h2, h3⟩ := cutV_back (l := l) (n := (cutV l).1) (k := (cutV l).2.1) (by rw [← hc])
      simp only [Prod.mk.injEq] at h
      obtain ⟨rfl, rfl, -⟩ := h
      rw [← h2, List.take_append_drop]
    · rename_i hc
      simp only [Prod.mk.injEq] at h
      omega
  · rename_i he
    simp only [Prod.mk.injEq] at h
    exact absurd h.2.2 he
theorem withinR_back {lo hi : Int} {l r : List UInt8} {e : Int} {n : Nat} (h : withinR lo hi l e = (n, r, 0)) : e = 0 ∧ l = putV n ++ r ∧ lo ≤ n ∧ (n : Int) ≤ hi := by
  unfold withinR at h
  split at h
  · rename_i hc
    simp only [Prod.mk.injEq] at h
    split at h <;> omega
  · rename_i hc
    obtain ⟨h1, h2⟩ := numR_of h
    rw [h] at hc
    exact ⟨h1, h2, by simp only at hc; omega, by simp only at hc; omega⟩
theorem textR_back {m : Int} {l s r : List UInt8} {e : Int} (h : textR m l e = (s, r, 0)) : e = 0 ∧ l = txtB s ++ r ∧ (s.length : Int) ≤ m := by
  unfold textR at h
  split at h
  · simp only [Prod.mk.injEq] at h
    split at h <;> omega
  · rename_i hc
    obtain ⟨n, l1, e1, hw⟩ : ∃ n l1 e1, withinR 0 m l e = (n, l1, e1) := ⟨_, _, _, rfl⟩
    rw [hw] at h hc
    simp only [Prod.mk.injEq] at h
    obtain ⟨rfl, rfl, rfl⟩ := h
    obtain ⟨h1, h2, -, h4⟩ := withinR_back hw
    simp only at hc
    have hl : (l1.take n).length = n := by rw [List.length_take]; omega
    refine ⟨h1, ?_, by rw [hl]; exact h4⟩
    unfold txtB
    rw [hl, h2, List.append_assoc, List.take_append_drop]
theorem putV_zero : putV 0 = [0] := putV_small (by omega)
theorem putV_one : putV 1 = [1] := putV_small (by omega)
theorem rngR_put (r : Rng) (l : List UInt8) (h : rightR r = true) : rngR (rngB r ++ l) 0 = (r, l, 0) := by
  obtain ⟨lo, hi, op⟩ := r
  unfold rightR at h
  rw [Bool.and_eq_true, decide_eq_true_eq] at h
  obtain ⟨h1, h2⟩ := h
  simp only at h1
  unfold rngR rngB
  cases op with
  | true =>
    simp only at h2 ⊢
    have hh : hi = [] := by simpa using h2
    subst hh
    rw [List.append_assoc, textR_most lo _ (by omega) (by omega)]
    simp only
    rw [show ([1] : List UInt8) ++ l = putV 1 ++ l by rw [putV_one], withinR_put 1 l (by omega) (by omega) (by omega)]
    simp
  | false =>
    simp only [Bool.and_eq_true, decide_eq_true_eq] at h2 ⊢
    rw [List.append_assoc, textR_most lo _ (by omega) (by omega)]
    simp only
    rw [show (0 :: txtB hi : List UInt8) ++ l = putV 0 ++ (txtB hi ++ l) by rw [putV_zero]; simp, withinR_put 0 _ (by omega) (by omega) (by omega)]
    simp only
    rw [if_neg (by omega), textR_most hi _ (by omega) (by omega)]
theorem rngR_back {r : Rng} {l b : List UInt8} {e : Int} (h : rngR b e = (r, l, 0)) : e = 0 ∧ b = rngB r ++ l := by
  unfold rngR at h
  obtain ⟨s, l1, e1, ha⟩ : ∃ s l1 e1, textR 17 b e = (s, l1, e1) := ⟨_, _, _, rfl⟩
  rw [ha] at h
  simp only at h
  obtain ⟨n, l2, e2, hb⟩ : ∃ n l2 e2, withinR 0 1 l1 e1 = (n, l2, e2) := ⟨_, _, _, rfl⟩
  rw [hb] at h
  simp only at h
  split at h
  · rename_i hn
    subst hn
    simp only [Prod.mk.injEq] at h
    obtain ⟨rfl, rfl, rfl⟩ := h
    obtain ⟨rfl, h2, -, -⟩ := withinR_back hb
    obtain ⟨h3, h4, -⟩ := textR_back ha
    refine ⟨h3, ?_⟩
    unfold rngB
    rw [h4, h2, putV_one, List.append_assoc]
  · rename_i hn
    obtain ⟨t, l3, e3, hc⟩ : ∃ t l3 e3, textR 17 l2 e2 = (t, l3, e3) := ⟨_, _, _, rfl⟩
    rw [hc] at h
    simp only [Prod.mk.injEq] at h
    obtain ⟨rfl, rfl, rfl⟩ := h
    obtain ⟨rfl, h5, -⟩ := textR_back hc
    obtain ⟨rfl, h2, -, hm⟩ := withinR_back hb
    obtain ⟨h3, h4, -⟩ := textR_back ha
    obtain rfl : n = 0 := by omega
    refine ⟨h3, ?_⟩
    unfold rngB
    simp only
    rw [h4, h2, h5, putV_zero]
    simp
theorem manyR_put {α : Type} {f : List UInt8 → Int → α × List UInt8 × Int} {g : α → List UInt8} : ∀ (l : List α) (r : List UInt8), (∀ x ∈ l, ∀ r, f (g x ++ r) 0 = (x, r, 0)) → manyR f l.length (l.flatMap g ++ r) 0 = (l, r, 0)
  | [], r, _ => by simp [manyR]
  | x :: l, r, h => by
    have h1 := h x (by simp) (l.flatMap g ++ r)
    have ih := manyR_put l r (fun y hy => h y (by simp [hy]))
    rw [List.flatMap_cons, List.length_cons, List.append_assoc, manyR, if_pos rfl, h1]
    simp only
    rw [ih]
theorem manyR_back {α : Type} {f : List UInt8 → Int → α × List UInt8 × Int} {g : α → List UInt8} (hf : ∀ b e x r, f b e = (x, r, 0) → e = 0 ∧ b = g x ++ r) : ∀ (n : Nat) (b : List UInt8) (e : Int) (l : List α) (r : List UInt8), manyR f n b e = (l, r, 0) → e = 0 ∧ b = l.flatMap g ++ r ∧ l.length = n
  | 0, b, e, l, r, h => by
    simp only [manyR, Prod.mk.injEq] at h
    obtain ⟨rfl, rfl, rfl⟩ := h
    exact ⟨rfl, by simp, rfl⟩
  | n + 1, b, e, l, r, h => by
    rw [manyR] at h
    split at h
    · rename_i he
      subst he
      obtain ⟨x, b1, e1, hx⟩ : ∃ x b1 e1, f b 0 = (x, b1, e1) := ⟨_, _, _, rfl⟩
      rw [hx] at h
      simp only at h
      obtain ⟨l1, b2, e2, hy⟩ : ∃ l1 b2 e2, manyR f n b1 e1 = (l1, b2, e2) := ⟨_, _, _, rfl⟩
      rw [hy] at h
      simp only [Prod.mk.injEq] at h
      obtain ⟨rfl, rfl, rfl⟩ := h
      obtain ⟨rfl, h2, h3⟩ := manyR_back hf n b1 e1 l1 b2 hy
      obtain ⟨-, h4⟩ := hf b 0 x b1 hx
      exact ⟨rfl, by rw [h4, h2, List.flatMap_cons, List.append_assoc], by rw [List.length_cons, h3]⟩
    · rename_i he
      simp only [Prod.mk.injEq] at h
      exact absurd h.2.2 he
theorem endR_zero {l : List UInt8} {e : Int} (h : endR l e = 0) : e = 0 ∧ l = [] := by
  unfold endR at h
  split at h
  · omega
  · rename_i hn
    subst h
    exact ⟨rfl, by simpa using hn⟩
theorem allR2_put {α : Type} {f : List UInt8 → Int → α × List UInt8 × Int} {g : α → List UInt8} {most : Int} {right : List α → Bool} (l : List α) (h : right l = true) (hm : (l.length : Int) ≤ most) (hm2 : most ≤ 281474976710656)
    (hf : ∀ x ∈ l, ∀ r, f (g x ++ r) 0 = (x, r, 0)) : allR2 f most right (putV l.length ++ l.flatMap g) = (l, 0) := by
  have h2 := manyR_put (f := f) (g := g) l [] hf
  rw [List.append_nil] at h2
  unfold allR2
  rw [withinR_put l.length _ (by omega) (by omega) hm]
  simp only
  rw [h2]
  simp only
  rw [if_neg (by simp [endR]), h]
theorem allR2_back {α : Type} {f : List UInt8 → Int → α × List UInt8 × Int} {g : α → List UInt8} {most : Int} {right : List α → Bool} {b : List UInt8} {l : List α} (hf : ∀ b e x r, f b e = (x, r, 0) → e = 0 ∧ b = g x ++ r)
    (h : allR2 f most right b = (l, 0)) : right l = true ∧ b = putV l.length ++ l.flatMap g ∧ (l.length : Int) ≤ most := by
  unfold allR2 at h
  obtain ⟨n, b1, e1, ha⟩ : ∃ n b1 e1, withinR 0 most b 0 = (n, b1, e1) := ⟨_, _, _, rfl⟩
  rw [ha] at h
  simp only at h
  obtain ⟨l1, b2, e2, hb⟩ : ∃ l1 b2 e2, manyR f n b1 e1 = (l1, b2, e2) := ⟨_, _, _, rfl⟩
  rw [hb] at h
  simp only at h
  split at h
  · rename_i hn
    simp only [Prod.mk.injEq] at h
    exact absurd h.2 hn
  · rename_i hn
    obtain ⟨rfl, rfl⟩ := endR_zero (Classical.not_not.1 hn)
    cases hr : right l1 with
    | false => rw [hr] at h; simp at h
    | true =>
      rw [hr] at h
      simp only [Prod.mk.injEq] at h
      obtain ⟨rfl, -⟩ := h
      obtain ⟨rfl, h2, h3⟩ := manyR_back hf n b1 e1 l1 [] hb
      obtain ⟨-, h5, -, h6⟩ := withinR_back ha
      refine ⟨hr, ?_, by rw [h3]; exact h6⟩
      rw [h3, h5, h2, List.append_nil]
theorem readRs_put (l : List Rng) (h : rightL l = true) (hm : l.length ≤ 4096) : readRs (rngsB l) = (l, 0) :=
  allR2_put l h (by omega) (by omega) fun x hx r => rngR_put x r (rightL_all h x hx)
theorem readRs_back {b : List UInt8} {l : List Rng} (h : readRs b = (l, 0)) : rngsB l = b ∧ rightL l = true :=
  have ⟨h1, h2, _⟩ := allR2_back (g := rngB) (fun _ _ _ _ hx => rngR_back hx) h
  ⟨h2.symm, h1⟩
end Go.Proofs.Ytohdncmlmpnfbaa

/-
  Plain facts on filters as bytes, there and back: no program is named here.
-/
namespace Go.Proofs.Ytohdncmlmpnfbaa

def opB (x : Int) : UInt8 := UInt8.ofNat x.toNat
def nodeB (n : Nd) : List UInt8 := opB n.op :: ((if 3 ≤ n.op ∧ n.op ≤ 5 then txtB n.lo else []) ++ ((if n.op = 4 then txtB n.hi else []) ++ (if 7 ≤ n.op then [opB n.kids] else [])))
def filterB (l : List Nd) : List UInt8 := putV l.length ++ l.flatMap nodeB
/-- One node, from where a reader stands: what it reads, what is left, the error. -/
def nodeRd (l : List UInt8) (e : Int) : Nd × List UInt8 × Int :=
  let a := withinR 1 8 l e
  let s := if 3 ≤ a.1 ∧ a.1 ≤ 5 then textR 17 a.2.1 a.2.2 else ([], a.2)
  let t := if a.1 = 4 then textR 17 s.2.1 s.2.2 else ([], s.2)
  let k := if a.1 = 6 then (1, t.2) else if 7 ≤ a.1 then withinR 0 32 t.2.1 t.2.2 else (0, t.2)
  (⟨a.1, k.1, s.1, t.1⟩, k.2)
def readF (b : List UInt8) : List Nd × Int := allR2 nodeRd 32 rightN b

theorem opB_put {x : Int} {n : Nat} (h : x = n) (hn : n < 128) : [opB x] = putV n := by
  subst h
  rw [putV_small hn]; rfl
theorem nodeRd_put (n : Nd) (l : List UInt8) (h : nodeV n = true) : nodeRd (nodeB n ++ l) 0 = (n, l, 0) := by
  obtain ⟨op, kids, lo, hi⟩ := n
  have h8 := nodeV_op h
  simp only at h8
  have ho : ∃ o : Nat, op = o := ⟨op.toNat, by omega⟩
  obtain ⟨o, rfl⟩ := ho
  have hb : opB (o : Int) :: ((if 3 ≤ (o : Int) ∧ (o : Int) ≤ 5 then txtB lo else []) ++ ((if (o : Int) = 4 then txtB hi else []) ++ (if 7 ≤ (o : Int) then [opB kids] else []))) ++ l
      = putV o ++ ((if 3 ≤ (o : Int) ∧ (o : Int) ≤ 5 then txtB lo else []) ++ ((if (o : Int) = 4 then txtB hi else []) ++ ((if 7 ≤ (o : Int) then [opB kids] else []) ++ l))) := by
    rw [← opB_put (x := (o : Int)) rfl (by omega)]
    simp
  show nodeRd (opB (o : Int) :: ((if 3 ≤ (o : Int) ∧ (o : Int) ≤ 5 then txtB lo else []) ++ ((if (o : Int) = 4 then txtB hi else []) ++ (if 7 ≤ (o : Int) then [opB kids] else []))) ++ l) 0 = _
  rw [hb]
  unfold nodeRd
  simp only
  rw [withinR_put o _ (by omega) (by omega) (by omega)]
  simp only
  unfold nodeV rightR at h
  simp only at h
  have hc : o = 1 ∨ o = 2 ∨ o = 3 ∨ o = 4 ∨ o = 5 ∨ o = 6 ∨ o = 7 ∨ o = 8 := by omega
  rcases hc with rfl | rfl | rfl | rfl | rfl | rfl | rfl | rfl
  · simp at h
    obtain ⟨rfl, rfl, rfl⟩ := h
    simp
  · simp at h
    obtain ⟨rfl, rfl, rfl⟩ := h
    simp
  · simp at h
    obtain ⟨rfl, h1, rfl⟩ := h
    simp [textR_most lo _ (show (lo.length : Int) ≤ 17 by omega) (by omega)]
  · simp at h
    obtain ⟨rfl, h1, h2, -⟩ := h
    simp [textR_most lo _ (show (lo.length : Int) ≤ 17 by omega) (by omega), textR_most hi _ (show (hi.length : Int) ≤ 17 by omega) (by omega)]
  · simp at h
    obtain ⟨rfl, h1, rfl⟩ := h
    simp [textR_most lo _ (show (lo.length : Int) ≤ 17 by omega) (by omega)]
  · simp at h
    obtain ⟨⟨rfl, rfl⟩, rfl⟩ := h
    simp
  · simp at h
    obtain ⟨⟨rfl, rfl⟩, h1, h2⟩ := h
    obtain ⟨k, rfl⟩ : ∃ k : Nat, kids = k := ⟨kids.toNat, by omega⟩
    have e : opB (k : Int) :: l = putV k ++ l := by rw [← opB_put (x := (k : Int)) rfl (by omega)]; rfl
    simp [e, withinR_put (lo := 0) (hi := 32) k l (by omega) (by omega) (by omega)]
  · simp at h
    obtain ⟨⟨rfl, rfl⟩, h1, h2⟩ := h
    obtain ⟨k, rfl⟩ : ∃ k : Nat, kids = k := ⟨kids.toNat, by omega⟩
    have e : opB (k : Int) :: l = putV k ++ l := by rw [← opB_put (x := (k : Int)) rfl (by omega)]; rfl
    simp [e, withinR_put (lo := 0) (hi := 32) k l (by omega) (by omega) (by omega)]
theorem nodeRd_back {n : Nd} {l b : List UInt8} {e : Int} (h : nodeRd b e = (n, l, 0)) : e = 0 ∧ b = nodeB n ++ l := by
  unfold nodeRd at h
  obtain ⟨o, l1, e1, ha⟩ : ∃ o l1 e1, withinR 1 8 b e = (o, l1, e1) := ⟨_, _, _, rfl⟩
  rw [ha] at h
  simp only at h
  obtain ⟨s, l2, e2, hs⟩ : ∃ s l2 e2, (if 3 ≤ o ∧ o ≤ 5 then textR 17 l1 e1 else ([], l1, e1)) = (s, l2, e2) := ⟨_, _, _, rfl⟩
  rw [hs] at h
  simp only at h
  obtain ⟨t, l3, e3, ht⟩ : ∃ t l3 e3, (if o = 4 then textR 17 l2 e2 else ([], l2, e2)) = (t, l3, e3) := ⟨_, _, _, rfl⟩
  rw [ht] at h
  simp only at h
  obtain ⟨k, l4, e4, hk⟩ : ∃ k l4 e4, (if o = 6 then (1, l3, e3) else if 7 ≤ o then withinR 0 32 l3 e3 else (0, l3, e3)) = (k, l4, e4) := ⟨_, _, _, rfl⟩
  rw [hk] at h
  simp only [Prod.mk.injEq] at h
  obtain ⟨rfl, rfl, rfl⟩ := h
  have K : e3 = 0 ∧ l3 = (if 7 ≤ (o : Int) then [opB (k : Int)] else []) ++ l4 := by
    split at hk
    · rename_i h6
      simp only [Prod.mk.injEq] at hk
      exact ⟨hk.2.2, by rw [if_neg (by omega), hk.2.1]; rfl⟩
    · split at hk
      · rename_i h7
        obtain ⟨g1, g2, g3, g4⟩ := withinR_back hk
        exact ⟨g1, by rw [if_pos (by omega), opB_put (x := (k : Int)) rfl (by omega), g2]⟩
      · rename_i h7
        simp only [Prod.mk.injEq] at hk
        exact ⟨hk.2.2, by rw [if_neg (by omega), hk.2.1]; rfl⟩
  have T : e2 = 0 ∧ l2 = (if (o : Int) = 4 then txtB t else []) ++ l3 := by
    obtain ⟨rfl, -⟩ := K
    split at ht
    · rename_i h4
      obtain ⟨g1, g2, -⟩ := textR_back ht
      exact ⟨g1, by rw [if_pos (by omega), g2]⟩
    · rename_i h4
      simp only [Prod.mk.injEq] at ht
      exact ⟨ht.2.2, by rw [if_neg (by omega), ht.2.1]; rfl⟩
  have S : e1 = 0 ∧ l1 = (if 3 ≤ (o : Int) ∧ (o : Int) ≤ 5 then txtB s else []) ++ l2 := by
    obtain ⟨rfl, -⟩ := T
    split at hs
    · rename_i h4
      obtain ⟨g1, g2, -⟩ := textR_back hs
      exact ⟨g1, by rw [if_pos (by omega), g2]⟩
    · rename_i h4
      simp only [Prod.mk.injEq] at hs
      exact ⟨hs.2.2, by rw [if_neg (by omega), hs.2.1]; rfl⟩
  obtain ⟨rfl, hS⟩ := S
  obtain ⟨g1, g2, g3, g4⟩ := withinR_back ha
  refine ⟨g1, ?_⟩
  rw [g2, ← opB_put (x := (o : Int)) rfl (by omega), hS, T.2, K.2]
  simp [nodeB]
theorem depV_all : ∀ {l : List Nd} {d k : Nat}, depV l d = some k → ∀ x ∈ l, nodeV x = true
  | [], _, _, _, x, hx => by cases hx
  | n :: l, d, k, h, x, hx => by
    rw [depV] at h
    cases hc : nodeV n && decide (kidsN n ≤ d) with
    | false => rw [hc] at h; simp at h
    | true =>
      rw [hc] at h
      rcases List.mem_cons.1 hx with rfl | hx
      · exact (Bool.and_eq_true_iff.1 hc).1
      · exact depV_all h x hx
theorem rightN_all {l : List Nd} (h : rightN l = true) : ∀ x ∈ l, nodeV x = true := depV_all (rightN_iff.1 h).2.2
theorem readF_put (l : List Nd) (h : rightN l = true) : readF (filterB l) = (l, 0) :=
  allR2_put l h (by have := (rightN_iff.1 h).2.1; omega) (by omega) fun x hx r => nodeRd_put x r (rightN_all h x hx)
theorem readF_back {b : List UInt8} {l : List Nd} (h : readF b = (l, 0)) : filterB l = b ∧ rightN l = true :=
  have ⟨h1, h2, _⟩ := allR2_back (g := nodeB) (fun _ _ _ _ hx => nodeRd_back hx) h
  ⟨h2.symm, h1⟩
end Go.Proofs.Ytohdncmlmpnfbaa

/-
  The walks of the layer of numbers as bytes: what puts.
-/
namespace Go.Proofs.Ytohdncmlmpnfbaa
open Go.RowKit

set_option maxHeartbeats 400000 in
theorem clone_bytes (A : Option Addr) (c B : Nat) (l : List UInt8) (w : World) (h : RdB w B A c l) (hB : B ≤ w.heap.size) (hl : l.length ≤ 140737488355328) :
    Calls Try.prog 54 #[.slice A l.length c] w (RetB w.heap.size w l) := by
  have K1 := fun w : World => Lib.run_eql_slice_nil (P := Try.prog) w 25 5 A l.length c 0 0 Try.underlying25
  cases A with
  | none =>
    have hnil : l = [] := by
      rcases h.row with h | ⟨b, o, h, _⟩
      · simpa [bytes] using h
      · cases h
    have fin : RetB w.heap.size w l (.returned (.slice none 0 0)) w := ⟨_, rfl, by subst hnil; exact World.ownsRow_nil w _ _ _, Below.refl _ _⟩
    have FIN := Lib.hid fin
    clear fin hnil
    go_enter Try.func54, Try.ntmps54
    go_wp2
    go_ret
    exact FIN.out
  | some a =>
    have hz : OwnB (w.alloc (.cells #[] 5)) w.heap.size (.slice (some ⟨w.heap.size, 0, none⟩) 0 0) [] := own_none w 5 1
    have hle : w.heap.size ≤ (w.alloc (.cells #[] 5)).heap.size := by simp
    have hrow := h.row.keep (w' := w.alloc (.cells #[] 5)) (fun p hp => World.cell?_alloc_lt w _ p (by omega))
    have hm : ([] : List UInt8).length + l.length ≤ 140737488355328 := by simpa using hl
    have hbz : Below w.heap.size w (w.alloc (.cells #[] 5)) := (Below.refl _ _).alloc (Nat.le_refl _) _
    clear hl
    go_enter Try.func54, Try.ntmps54
    go_wp2_with (at_builtin; refine wpList_app_row rfl (.tmp 5) (.tmp 6) rfl w.heap.size (.slice (some ⟨w.heap.size, 0, none⟩) 0 0) [] rfl hz B (some a) c l.length l rfl rfl hrow hm hle ?_; intro v2 w2 hown2 _ hb2 _)
    go_ret
    exact ⟨v2, rfl, hown2, hbz.trans hb2⟩

set_option maxHeartbeats 400000 in
set_option maxRecDepth 100000 in
theorem put_own (base : Nat) (v : Value) (xs : List UInt8) (n : Nat) (w : World) (hn : n ≤ 9223372036854775807) (ho : OwnB w base v xs) (hb : base ≤ w.heap.size) (hl : xs.length + (putV n).length ≤ 140737488355328) :
    Calls Try.prog 55 #[v, .int .i64 (n : Int)] w (RetB base w (xs ++ putV n)) := by
  go_enter Try.func55, Try.ntmps55
  go_wp2
  go_loopw [0, 1] (fun a b wr => ∃ (ys : List UInt8) (m : Nat), m ≤ n ∧ OwnB wr base a ys ∧ ys ++ putV m = xs ++ putV n ∧ b = .int .i64 (m : Int) ∧ Below base w wr) (fun _ b _ => (intOf b).toNat)
  case atStart => exact ⟨xs, n, Nat.le_refl _, ho, rfl, rfl, Below.refl _ _⟩
  case round =>
    obtain ⟨ys, m, hmn, hown, heq, rfl, hbw⟩ := hrel
    have hbs : base ≤ wr.heap.size := Nat.le_trans hb hbw.size
    have hlen : ys.length + (putV m).length ≤ 140737488355328 := by rw [← List.length_append, heq, List.length_append]; exact hl
    have hm0 := putV_pos m
    have hle (o : Obj) : base ≤ (wr.alloc o).heap.size := by simp; omega
    by_cases hlt : m < 128
    · have hrow := byte_row wr (m : Int) (UInt8.ofNat m) (by simp; omega)
      have hl1 : ys.length + [UInt8.ofNat m].length ≤ 140737488355328 := by rw [putV_small hlt] at hlen; exact hlen
      rw [putV_small hlt] at heq
      have HEQ := Lib.hid heq
      have HA := fun o => Lib.hid (hown.alloc o)
      have HB := fun o => Lib.hid (hbw.alloc hbs o)
      clear heq hn hl ho hlen
      go_wp2_with (at_builtin; refine wpList_app_row rfl (.tmp 16) (.tmp 19) rfl base _ ys rfl (HA _).out _ _ 1 1 [UInt8.ofNat m] rfl rfl hrow hl1 (hle _) ?_; intro v2 w2 hown2 _ hb2 _)
      go_ret
      exact ⟨v2, rfl, by rw [← HEQ.out]; exact hown2, (HB _).out.trans hb2⟩
    · have hrow := byte_row wr ((m : Int) % 128 + 128) (UInt8.ofNat (m % 128 + 128)) (by simp; omega)
      have hl1 : ys.length + [UInt8.ofNat (m % 128 + 128)].length ≤ 140737488355328 := by simp; omega
      rw [putV_big hlt] at heq
      have HEQ := Lib.hid heq
      have HA := fun o => Lib.hid (hown.alloc o)
      have HB := fun o => Lib.hid (hbw.alloc hbs o)
      clear heq hl ho hlen
      go_wp2_with (at_builtin; refine wpList_app_row rfl (.tmp 7) (.tmp 12) rfl base _ ys rfl (HA _).out _ _ 1 1 [UInt8.ofNat (m % 128 + 128)] rfl rfl hrow hl1 (hle _) ?_; intro v2 w2 hown2 _ hb2 _)
      go_roundw
      case rel => exact ⟨ys ++ [UInt8.ofNat (m % 128 + 128)], m / 128, by omega, hown2, by rw [← HEQ.out]; simp, by go_num, (HB _).out.trans hb2⟩
      case measure => simp [intOf]; omega

/-- Is it a number that has bytes? -/
def okN (n : Int) : Bool := decide (0 ≤ n ∧ n ≤ 281474976710656)
def okL (l : List Int) : Bool := l.all okN
theorem okL_bad {l : List Int} {k : Nat} (hk : k < l.length) (h : okN (l.getD k 0) = false) : okL l = false := by
  rw [okL, List.all_eq_false]
  refine ⟨l[k], List.getElem_mem hk, ?_⟩
  simpa [List.getD, List.getElem?_eq_getElem hk] using h
theorem okL_good {l : List Int} (h : ∀ j, j < l.length → okN (l.getD j 0) = true) : okL l = true := by
  rw [okL, List.all_eq_true]
  intro x hx
  obtain ⟨j, hj, rfl⟩ := List.getElem_of_mem hx
  simpa [List.getD, List.getElem?_eq_getElem hj] using h j hj
theorem okL_at {l : List Int} (h : okL l = true) {k : Nat} (hk : k < l.length) : 0 ≤ l.getD k 0 ∧ l.getD k 0 ≤ 281474976710656 := by
  rw [okL, List.all_eq_true] at h
  have := h l[k] (List.getElem_mem hk)
  simpa [okN, List.getD, List.getElem?_eq_getElem hk] using this
theorem take_snoc_int (l : List Int) (k : Nat) (h : k < l.length) : l.take (k + 1) = l.take k ++ [l.getD k 0] := by
  rw [List.take_succ_eq_append_getElem h]; simp [List.getD, List.getElem?_eq_getElem h]
theorem take_snoc_list (l : List (List UInt8)) (k : Nat) (h : k < l.length) : l.take (k + 1) = l.take k ++ [l.getD k []] := by
  rw [List.take_succ_eq_append_getElem h]; simp [List.getD, List.getElem?_eq_getElem h]
/-- A row of the call's own and no error. -/
def RetB2 (base : Nat) (w : World) (l : List UInt8) (e : Ending) (w' : World) : Prop := ∃ v, e = .returned (.tuple #[v, .int .i64 0]) ∧ OwnB w' base v l ∧ Below base w w'
def PutPost (w : World) (b : List UInt8) (l : List Int) (e : Ending) (w' : World) : Prop :=
  (okL l = true ∧ RetB2 w.heap.size w (b ++ putsV l) e w') ∨ (okL l = false ∧ e = .returned (.tuple #[.slice none 0 0, .int .i64 2]) ∧ w = w')

set_option maxHeartbeats 1000000 in
set_option maxRecDepth 100000 in
theorem varint_put (A : Option Addr) (c B : Nat) (b : List UInt8) (A2 : Option Addr) (n2 c2 : Nat) (l : List Int) (w : World) (hn2 : n2 = l.length) (hb : RdB w B A c b) (hr : RowAt w B A2 (ints l)) (hall : AllI64 l) (hB : B ≤ w.heap.size)
    (hlen : b.length + 9 * l.length ≤ 140737488355328) :
    Calls Try.prog 53 #[.slice A b.length c, .slice A2 n2 c2] w (PutPost w b l) := by
  subst hn2
  have hb9 := putsV_len
  go_enter Try.func53, Try.ntmps53
  go_wp2
  go_loop [13] (fun i => ∃ k : Nat, k ≤ l.length ∧ (∀ j, j < k → okN (l.getD j 0) = true) ∧ i = .int .i64 k) (fun i => l.length - (intOf i).toNat)
  case atStart => exact ⟨0, by omega, fun j hj => by omega, rfl⟩
  case round =>
    obtain ⟨k, hk, hok, rfl⟩ := hrel
    have HOK := Lib.hid hok
    clear hok
    by_cases hlt : k < l.length
    · obtain ⟨b0, o0, rfl, _, hc⟩ := hr.ints_at (by omega)
      have hcell := hc k hlt
      have hbd := hall.at_ hlt
      have HBAD := fun h => Lib.hid (okL_bad hlt h)
      have HK : Hid (okN (l.getD k 0) = true → ∀ j, j < k + 1 → okN (l.getD j 0) = true) := fun h j hj => by
        rcases Nat.lt_or_ge j k with h' | h'
        · exact HOK.out j h'
        · obtain rfl : j = k := by omega
          exact h
      clear hc hall hb9
      obtain ⟨x, hx⟩ : ∃ x, l.getD k 0 = x := ⟨_, rfl⟩
      rw [hx] at hcell hbd HBAD HK
      clear hx
      by_cases h1 : x < 0
      · have fin := HBAD (by simp [okN]; omega)
        go_wp2
        go_ret2
        exact .inr ⟨fin.out, rfl, rfl⟩
      · by_cases h2 : 281474976710656 < x
        · have fin := HBAD (by simp [okN]; omega)
          go_wp2
          go_ret2
          exact .inr ⟨fin.out, rfl, rfl⟩
        · have nx := Lib.hid (HK.out (by simp [okN]; omega))
          clear HBAD HK HOK
          go_wp2
          go_round
          case rel => exact ⟨k + 1, by omega, nx.out, by go_num⟩
          case measure => simp [intOf]; omega
    · obtain rfl : k = l.length := by omega
      have HG := Lib.hid (okL_good HOK.out)
      have hcl := clone_bytes A c B b w hb hB (by omega)
      clear HOK hlt hk
      go_wp2_with fail
      refine hcl.mono ?_; rintro e w1 ⟨v1, rfl, hown1, hb1⟩
      clear hcl
      go_wp2_with fail
      go_loopw [8, 28] (fun v i wr => ∃ k : Nat, k ≤ l.length ∧ i = .int .i64 k ∧ OwnB wr w.heap.size v (b ++ putsV (l.take k)) ∧ Below w.heap.size w wr) (fun _ i _ => l.length - (intOf i).toNat)
      case atStart => exact ⟨0, by omega, rfl, by simpa [putsV] using hown1, hb1⟩
      case round =>
        obtain ⟨k, hk, rfl, hown, hbw⟩ := hrel
        by_cases hlt : k < l.length
        · obtain ⟨b0, o0, rfl, hb0, hc⟩ := hr.ints_at (by omega)
          have hcell := hc k hlt
          rw [← hbw.cell (p := ⟨b0, o0 + k, none⟩) (by show b0 < w.heap.size; omega)] at hcell
          have hx0 := okL_at HG.out hlt
          obtain ⟨m, hm⟩ := Int.eq_ofNat_of_zero_le hx0.1
          have hts := take_snoc_int l k hlt
          have hpl : (b ++ putsV (l.take k)).length + (putV m).length ≤ 140737488355328 := by
            have h1 := hb9 (l.take (k + 1)) (fun n hn => by have := hall n (List.mem_of_mem_take hn); omega)
            rw [hts, putsV_snoc, hm, Int.toNat_natCast, List.length_append, List.length_append, List.length_singleton, List.length_take] at h1
            rw [List.length_append]
            omega
          have hput := put_own w.heap.size _ (b ++ putsV (l.take k)) m wr (by omega) hown hbw.size hpl
          have HN : Hid (b ++ putsV (l.take (k + 1)) = b ++ putsV (l.take k) ++ putV m) := by
            rw [hts, putsV_snoc, hm, Int.toNat_natCast, List.append_assoc]; exact rfl
          rw [hm] at hcell
          clear hc hall hb9 hm hts hown1 hpl hx0 hown
          go_wp2_with fail
          refine hput.mono ?_; rintro e w2 ⟨v2, rfl, hown2, hb2⟩
          clear hput
          go_wp2_with fail
          go_roundw
          case rel => exact ⟨k + 1, by omega, by go_num, by rw [HN.out]; exact hown2, hbw.trans hb2⟩
          case measure => simp [intOf]; omega
        · obtain rfl : k = l.length := by omega
          rw [List.take_length] at hown
          clear hall hb9 hown1
          go_wp2
          go_ret2
          exact .inl ⟨HG.out, _, rfl, hown, hbw⟩

/-- The bytes of texts, one behind the other. -/
def textsV (l : List (List UInt8)) : List UInt8 := l.flatMap fun s => putV s.length ++ s
theorem textsV_snoc (l : List (List UInt8)) (s : List UInt8) : textsV (l ++ [s]) = textsV l ++ (putV s.length ++ s) := by simp [textsV]
theorem textsV_cons (s : List UInt8) (l : List (List UInt8)) : textsV (s :: l) = putV s.length ++ (s ++ textsV l) := by simp [textsV]
theorem textsV_append (a b : List (List UInt8)) : textsV (a ++ b) = textsV a ++ textsV b := by simp [textsV]
theorem textsV_take (l : List (List UInt8)) (k : Nat) : (textsV (l.take k)).length ≤ (textsV l).length := by
  have := congrArg (fun t => (textsV t).length) (List.take_append_drop k l)
  simp only [textsV_append, List.length_append] at this
  omega

set_option maxHeartbeats 1000000 in
set_option maxRecDepth 100000 in
theorem varint_text (A : Option Addr) (c B : Nat) (b : List UInt8) (A2 : Option Addr) (n2 c2 : Nat) (l : List (List UInt8)) (w : World) (hn2 : n2 = l.length) (hl2 : l.length ≤ 9223372036854775807) (hb : RdB w B A c b) (hr : RowAt w B A2 (strs l)) (hB : B ≤ w.heap.size)
    (hlen : b.length + (textsV l).length ≤ 140737488355328) :
    Calls Try.prog 44 #[.slice A b.length c, .slice A2 n2 c2] w (RetB w.heap.size w (b ++ textsV l)) := by
  subst hn2
  have hcl := clone_bytes A c B b w hb hB (by omega)
  have HLEN := Lib.hid hlen
  clear hlen
  go_enter Try.func44, Try.ntmps44
  go_wp2_with fail
  refine hcl.mono ?_; rintro e w1 ⟨v1, rfl, hown1, hb1⟩
  clear hcl
  go_wp2_with fail
  go_loopw [5, 12] (fun v i wr => ∃ k : Nat, k ≤ l.length ∧ i = .int .i64 k ∧ OwnB wr w.heap.size v (b ++ textsV (l.take k)) ∧ Below w.heap.size w wr) (fun _ i _ => l.length - (intOf i).toNat)
  case atStart => exact ⟨0, by omega, rfl, by simpa [textsV] using hown1, hb1⟩
  case round =>
    obtain ⟨k, hk, rfl, hown, hbw⟩ := hrel
    by_cases hlt : k < l.length
    · obtain ⟨b0, o0, rfl, hb0, hc⟩ := hr.strs_at (by omega)
      have hcell := hc k hlt
      rw [← hbw.cell (p := ⟨b0, o0 + k, none⟩) (by show b0 < w.heap.size; omega)] at hcell
      have hts := take_snoc_list l k hlt
      have hpl : (b ++ textsV (l.take k)).length + ((putV (l.getD k []).length).length + (l.getD k []).length) ≤ 140737488355328 := by
        have h1 := textsV_take l (k + 1)
        have h2 := HLEN.out
        rw [hts, textsV_snoc, List.length_append, List.length_append] at h1
        rw [List.length_append]
        omega
      have HN : Hid (b ++ textsV (l.take (k + 1)) = (b ++ textsV (l.take k) ++ putV (l.getD k []).length) ++ l.getD k []) := by
        rw [hts, textsV_snoc]; simp [Hid]
      obtain ⟨x, hx⟩ : ∃ x, l.getD k [] = x := ⟨_, rfl⟩
      rw [hx] at hcell hpl HN
      have hput := put_own w.heap.size _ (b ++ textsV (l.take k)) x.length wr (by omega) hown hbw.size (by omega)
      have hl3 : (b ++ textsV (l.take k) ++ putV x.length).length + (str x).data.toList.length ≤ 140737488355328 := by rw [str_data, List.length_append]; omega
      have hsz := str_size x
      rw [← hsz] at hput
      have HSZ := Lib.hid hsz
      have hx63 : (str x).size ≤ 9223372036854775807 := by rw [hsz]; omega
      clear hc hx hts hown1 hpl hown hsz
      go_wp2_with fail
      refine hput.mono ?_; rintro e w2 ⟨v2, rfl, hown2, hb2⟩
      clear hput
      rw [HSZ.out] at hown2
      have hs2 : w.heap.size ≤ w2.heap.size := Nat.le_trans hbw.size hb2.size
      go_wp2_with (at_builtin; refine wpList_app_str rfl (.tmp 19) (.tmp 20) rfl w.heap.size v2 _ rfl hown2 (str x) rfl hl3 hs2 ?_; intro v3 w3 hown3 _ hb3)
      go_roundw
      case rel => exact ⟨k + 1, by omega, by go_num, by rw [HN.out]; rw [str_data] at hown3; exact hown3, (hbw.trans hb2).trans hb3⟩
      case measure => simp [intOf]; omega
    · obtain rfl : k = l.length := by omega
      rw [List.take_length] at hown
      clear hown1
      go_wp2
      go_ret
      exact ⟨_, rfl, hown, hbw⟩
end Go.Proofs.Ytohdncmlmpnfbaa

/-
  The walks of the layer of numbers as bytes: what cuts a number off, and the reader.
-/
namespace Go.Proofs.Ytohdncmlmpnfbaa
open Go.RowKit

theorem get_str (l : List UInt8) (k : Nat) (h : k < (str l).size) : (str l)[k] = l.getD k 0 := str_get l k (by rw [← str_size]; exact h)

theorem pow_seven (k : Nat) : (2 : Int) ^ (7 * k) = ((128 ^ k : Nat) : Int) := by
  have e : (128 : Nat) ^ k = 2 ^ (7 * k) := by rw [Nat.pow_mul]
  rw [e]; simp

set_option maxHeartbeats 1000000 in
set_option maxRecDepth 100000 in
theorem varint_cut (l : List UInt8) (w : World) (hl : l.length ≤ 9223372036854775807) :
    Calls Try.prog 65 #[.string (str l)] w fun e w' => e = .returned (.tuple #[.int .i64 (cutV l).1, .int .i64 (cutV l).2.1, .int .i64 (cutV l).2.2]) ∧ w = w' := by
  have hsz := str_size l
  have hl2 : (str l).size ≤ 9223372036854775807 := by omega
  obtain ⟨s, hs⟩ : ∃ s, str l = s := ⟨_, rfl⟩
  have HG := Lib.hid (get_str l)
  rw [hs] at hsz hl2 HG
  rw [hs]
  have HSZ := Lib.hid hsz
  clear hsz hs
  by_cases h8 : s.size < 8
  all_goals
    go_enter Try.func65, Try.ntmps65
    go_wp2
  all_goals
    go_loop [5, 10] (fun n i => ∃ k : Nat, k ≤ s.size ∧ k ≤ 8 ∧ Lead l k ∧ i = .int .i64 k ∧ n = .int .i64 (valV (l.take k) : Nat)) (fun _ i => 8 - (intOf i).toNat)
    case atStart => exact ⟨0, by omega, by omega, Lead.zero l, rfl, rfl⟩
    case round =>
      obtain ⟨k, hk, hk8, hlead, rfl, rfl⟩ := hrel
      by_cases hlt : k < s.size ∧ k < 8
      · obtain ⟨hlt1, hlt2⟩ := hlt
        have hltl : k < l.length := by rw [← HSZ.out]; exact hlt1
        have hg := HG.out k hlt1
        have hv := valV_take_lt l k hk8
        have hvn := valV_take l k hltl
        have hv2 := valV_take_lt l (k + 1) (by omega)
        have NX := fun h => Lib.hid (hlead.next hltl h)
        have FB := fun h1 h2 => Lib.hid (cut_bad hlead hltl hlt2 h1 h2)
        have FG := fun h1 h2 => Lib.hid (cut_good hlead hltl hlt2 h1 h2)
        obtain ⟨c, hc⟩ : ∃ c, l.getD k 0 = c := ⟨_, rfl⟩
        have hsh : ((c.toNat : Int) % 128) * 2 ^ (7 * k) = ((c.toNat % 128 * 128 ^ k : Nat) : Int) := by rw [pow_seven]; simp
        obtain ⟨m, hm⟩ : ∃ m : Nat, c.toNat % 128 * 128 ^ k = m := ⟨_, rfl⟩
        rw [hc] at hg hvn NX FB FG
        rw [hm] at hvn hsh
        obtain ⟨n', hn'⟩ : ∃ n' : Nat, valV (l.take (k + 1)) = n' := ⟨_, rfl⟩
        rw [hn'] at hv2 hvn FB FG
        have HN' := Lib.hid hn'
        clear hc hm hlead hn'
        generalize valV (l.take k) = n at *
        have e2 : (n : Int) + m = (n' : Int) := by omega
        clear hvn
        by_cases h1 : 128 ≤ c.toNat
        · have nx := NX h1
          go_wp2
          go_round
          case rel => exact ⟨k + 1, by omega, by omega, nx.out, by go_num, by rw [HN'.out]⟩
          case measure => simp [intOf]; omega
        · by_cases h2 : 0 < k
          · by_cases h3 : c.toNat = 0
            · have fin := FB (by omega) (.inl ⟨h2, h3⟩)
              obtain rfl : c = 0 := UInt8.toNat_inj.1 h3
              clear hsh FB FG NX h3
              go_wp2
              go_ret3
              exact ⟨by rw [fin.out]; rfl, rfl⟩
            · have h3' : ((c.toNat : Int) == 0) = false := by simpa using h3
              by_cases h4 : 281474976710656 < n'
              · have fin := FB (by omega) (.inr h4)
                clear FB FG NX
                go_wp2
                go_ret3
                exact ⟨by rw [fin.out]; rfl, rfl⟩
              · have fin := FG (by omega) (by omega)
                clear FB FG NX
                go_wp2
                go_ret3
                exact ⟨by rw [fin.out]; rfl, rfl⟩
          · by_cases h4 : 281474976710656 < n'
            · have fin := FB (by omega) (.inr h4)
              clear FB FG NX
              go_wp2
              go_ret3
              exact ⟨by rw [fin.out]; rfl, rfl⟩
            · have fin := FG (by omega) (by omega)
              clear FB FG NX
              go_wp2
              go_ret3
              exact ⟨by rw [fin.out]; rfl, rfl⟩
      · by_cases h9 : s.size < 8
        · first
            | exact absurd h9 h8
            | (have fin := Lib.hid (cut_short (l := l) (by rw [← HSZ.out]; rwa [show k = s.size by omega] at hlead) (by rw [← HSZ.out]; exact h9))
               go_wp2
               go_ret3
               exact ⟨by rw [fin.out]; rfl, rfl⟩)
        · first
            | exact absurd h8 h9
            | (have fin := Lib.hid (cut_eight (l := l) (by rwa [show k = 8 by omega] at hlead))
               go_wp2
               go_ret3
               exact ⟨by rw [fin.out]; rfl, rfl⟩)

end Go.Proofs.Ytohdncmlmpnfbaa

/-
  The walks of the layer of numbers as bytes: the reader.
-/
namespace Go.Proofs.Ytohdncmlmpnfbaa
open Go.RowKit

/-- The reader at block b has the bytes l left, and the error e. -/
def RdAt (w : World) (b : Nat) (l : List UInt8) (e : Int) : Prop := w.heap[b]? = some (.cells #[.string (str l), .int .i64 e] 85 (0, 0))
theorem RdAt.lt {w : World} {b : Nat} {l : List UInt8} {e : Int} (h : RdAt w b l e) : b < w.heap.size := lt_of_block h
theorem RdAt.cells {w : World} {b : Nat} {l : List UInt8} {e : Int} (h : RdAt w b l e) :
    w.cell? ⟨b, 0, none⟩ = some (.string (str l)) ∧ w.cell? ⟨b, 1, none⟩ = some (.int .i64 e) ∧ w.frozen? ⟨b, 0, none⟩ = false ∧ w.frozen? ⟨b, 1, none⟩ = false := by
  have h : w.heap[b]? = _ := h
  refine ⟨?_, ?_, ?_, ?_⟩ <;> simp [World.cell?, World.frozen?, h]
theorem RdAt.kept {w w' : World} {b : Nat} {l : List UInt8} {e : Int} {row : Option Nat} (h : RdAt w b l e) (hg : w.grownBy w' row) (hne : some b ≠ row) : RdAt w' b l e := (hg.block b h.lt hne).trans h
theorem RdAt.below {w w' : World} {b B : Nat} {l : List UInt8} {e : Int} (h : RdAt w b l e) (hb : Below B w w') (hB : b < B) : RdAt w' b l e := (hb.block b hB).trans h
theorem RdAt.setText {w : World} {b : Nat} {l : List UInt8} {e : Int} (h : RdAt w b l e) (l' : List UInt8) : RdAt (w.setCell ⟨b, 0, none⟩ (.string (str l'))) b l' e := heap_setCell_self h _
theorem RdAt.setErr {w : World} {b : Nat} {l : List UInt8} {e : Int} (h : RdAt w b l e) (e' : Int) : RdAt (w.setCell ⟨b, 1, none⟩ (.int .i64 e')) b l e' := heap_setCell_self h _

/-- What a call leaves that works on the reader at b alone. -/
def RdPost (w : World) (b : Nat) (v : Value) (l : List UInt8) (e : Int) (x : Ending) (w' : World) : Prop := x = .returned v ∧ RdAt w' b l e ∧ w.grownBy w' (some b)
theorem RdPost.mk {w w' : World} {b : Nat} {v v' : Value} {l l' : List UInt8} {e e' : Int} (h : RdAt w' b l' e') (hg : w.grownBy w' (some b)) (hv : v' = v) (hl : l' = l) (he : e' = e) : RdPost w b v l e (.returned v') w' := by
  subst hv hl he; exact ⟨rfl, h, hg⟩

set_option maxHeartbeats 400000 in
theorem varint_new (A : Option Addr) (c B : Nat) (l : List UInt8) (w : World) (h : RdB w B A c l) :
    Calls Try.prog 28 #[.slice A l.length c] w fun e w' => e = .returned (.pointer (some ⟨w.heap.size, 0, none⟩)) ∧ RdAt w' w.heap.size l 0 ∧ Below w.heap.size w w' := by
  have K1 := conv_str (P := Try.prog) c 25 5 9 Try.underlying25 Try.underlying5 Try.underlying9 h.row
  go_enter Try.func28, Try.ntmps28
  go_wp2
  go_ret
  exact ⟨rfl, heap_new _ _ _ rfl, (Below.refl _ _).alloc (Nat.le_refl _) _⟩

set_option maxHeartbeats 400000 in
theorem given_some (a : Addr) (w : World) :
    Calls Try.prog 56 #[.pointer (some a)] w fun e w' => e = .returned (.pointer (some a)) ∧ w = w' := by
  go_enter Try.func56, Try.ntmps56
  go_wp2
  go_ret
  exact ⟨rfl, rfl⟩
set_option maxHeartbeats 400000 in
theorem given_none (w : World) :
    Calls Try.prog 56 #[.pointer none] w fun e w' => e = .returned (.pointer (some ⟨w.heap.size, 0, none⟩)) ∧ RdAt w' w.heap.size [] 1 ∧ Below w.heap.size w w' := by
  go_enter Try.func56, Try.ntmps56
  go_wp2
  go_ret
  exact ⟨rfl, heap_new _ _ _ rfl, (Below.refl _ _).alloc (Nat.le_refl _) _⟩

set_option maxHeartbeats 400000 in
theorem numbers_fail (b : Nat) (l : List UInt8) (e x e2 : Int) (w : World) (h : RdAt w b l e) (h2 : e2 = if e = 0 then x else e) :
    Calls Try.prog 62 #[.pointer (some ⟨b, 0, none⟩), .int .i64 x] w (RdPost w b (.tuple #[]) l e2) := by
  obtain ⟨c0, c1, z0, z1⟩ := h.cells
  have H := Lib.hid h
  clear h
  by_cases he : e = 0
  · subst he
    rw [if_pos rfl] at h2
    subst h2
    go_enter Try.func62, Try.ntmps62
    go_wp2
    go_end0
    exact ⟨rfl, H.out.setErr _, grownBy_set _ _ _ _⟩
  · rw [if_neg he] at h2
    subst h2
    go_enter Try.func62, Try.ntmps62
    go_wp2
    go_end0
    exact ⟨rfl, H.out, World.grownBy.refl _ _⟩

set_option maxHeartbeats 400000 in
theorem numbers_undo (b : Nat) (l l' : List UInt8) (e x e2 : Int) (w : World) (h : RdAt w b l e) (h2 : e2 = if e = 0 then x else e) :
    Calls Try.prog 57 #[.pointer (some ⟨b, 0, none⟩), .string (str l'), .int .i64 x] w (RdPost w b (.tuple #[]) l' e2) := by
  obtain ⟨c0, c1, z0, z1⟩ := h.cells
  have hf := numbers_fail b l' e x e2 _ (h.setText l') h2
  clear h h2
  go_enter Try.func57, Try.ntmps57
  go_wp2_with fail
  refine hf.mono ?_; rintro y w1 ⟨rfl, hr, hg⟩
  clear hf
  go_wp2
  go_end0
  exact ⟨rfl, hr, (grownBy_set _ _ _ _).trans hg⟩

set_option maxHeartbeats 400000 in
theorem numbers_number (b : Nat) (l : List UInt8) (e : Int) (w : World) (h : RdAt w b l e) (hl : l.length ≤ 9223372036854775807) :
    Calls Try.prog 59 #[.pointer (some ⟨b, 0, none⟩)] w (RdPost w b (.int .i64 (numR l e).1) (numR l e).2.1 (numR l e).2.2) := by
  obtain ⟨c0, c1, z0, z1⟩ := h.cells
  by_cases he : e = 0
  · subst he
    have hcut := varint_cut l w hl
    have hle := cutV_le l
    have hnum : numR l 0 = ((cutV l).1, l.drop (cutV l).2.1, ((cutV l).2.2 : Int)) := by
      unfold numR
      by_cases hx : (cutV l).2.2 = 0
      · rw [if_pos rfl, if_pos hx, hx]; rfl
      · have := cutV_err hx
        rw [if_pos rfl, if_neg hx, this.1, this.2]; simp
    obtain ⟨n, hn⟩ : ∃ n, (cutV l).1 = n := ⟨_, rfl⟩
    obtain ⟨k, hk⟩ : ∃ k, (cutV l).2.1 = k := ⟨_, rfl⟩
    obtain ⟨x, hx⟩ : ∃ x, (cutV l).2.2 = x := ⟨_, rfl⟩
    rw [hn, hk, hx] at hcut hnum
    rw [hk] at hle
    rw [hnum]
    have hsz := str_size l
    have hdrop := str_drop l k
    rw [← hsz] at hle hdrop
    have hf := numbers_fail b l 0 x x w h (by rw [if_pos rfl])
    have HD := Lib.hid hdrop
    have hs63 : (str l).size ≤ 9223372036854775807 := by omega
    clear h hn hk hx hnum hdrop hsz
    go_enter Try.func59, Try.ntmps59
    go_wp2_with fail
    refine hcut.mono ?_; rintro y w1 ⟨rfl, rfl⟩
    clear hcut
    go_wp2_with fail
    refine hf.mono ?_; rintro y w1 ⟨rfl, hr, hg⟩
    clear hf c0 c1 z0 z1
    obtain ⟨c0, c1, z0, z1⟩ := hr.cells
    have H := Lib.hid hr
    clear hr
    go_wp2
    go_ret
    exact ⟨rfl, by rw [HD.out]; exact H.out.setText _, hg.trans (grownBy_set _ _ _ _)⟩
  · rw [numR_err he]
    have H := Lib.hid h
    clear h
    go_enter Try.func59, Try.ntmps59
    go_wp2
    go_ret
    exact ⟨rfl, H.out, World.grownBy.refl _ _⟩
end Go.Proofs.Ytohdncmlmpnfbaa
