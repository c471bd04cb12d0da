/-
  Plain facts on lists of ranges (layer 8): which are right, which texts they have; each set of texts has one right list at most; the right list of what is meant, edge by edge. No program in this text.
-/
import Derived.Test.YtgoenmgkhdibnaaSpanPure
namespace Go.Proofs.Ytgoenmgkhdibnaa

def hasL (l : List Rng) (s : List UInt8) : Bool := l.any fun r => hasR r s
/-- Is there a text between the end of one and the beginning of the other? -/
def gapR (r t : Rng) : Bool := !r.op && ltB r.hi t.lo
def rightL : List Rng → Bool
  | [] => true
  | [r] => rightR r
  | r :: t :: l => rightR r && gapR r t && rightL (t :: l)
theorem hasL_cons (r : Rng) (l : List Rng) (s : List UInt8) : hasL (r :: l) s = (hasR r s || hasL l s) := by simp [hasL]
theorem hasL_append (a b : List Rng) (s : List UInt8) : hasL (a ++ b) s = (hasL a s || hasL b s) := by simp [hasL]
theorem rightL_head {r : Rng} {l : List Rng} (h : rightL (r :: l) = true) : rightR r = true := by
  cases l with
  | nil => exact h
  | cons t l => unfold rightL at h; simp only [Bool.and_eq_true] at h; exact h.1.1
theorem rightL_tail {r : Rng} {l : List Rng} (h : rightL (r :: l) = true) : rightL l = true := by
  cases l with
  | nil => rfl
  | cons t l => unfold rightL at h; simp only [Bool.and_eq_true] at h; exact h.2
theorem rightL_gap {r t : Rng} {l : List Rng} (h : rightL (r :: t :: l) = true) : r.op = false ∧ ltB r.hi t.lo = true := by
  unfold rightL gapR at h; simp only [Bool.and_eq_true, Bool.not_eq_true'] at h; exact h.1.2
theorem hasR_lo {r : Rng} (h : rightR r = true) : hasR r r.lo = true := by
  unfold hasR; rw [h, ltB_irrefl, rightR_first h]; rfl
theorem hasR_ge {r : Rng} {s : List UInt8} (h : hasR r s = true) : ltB s r.lo = false := by
  unfold hasR at h; simp only [Bool.and_eq_true, Bool.not_eq_true'] at h; exact h.1.2
theorem hasR_right {r : Rng} {s : List UInt8} (h : hasR r s = true) : rightR r = true := by
  unfold hasR at h; simp only [Bool.and_eq_true] at h; exact h.1.1
theorem hasR_ahead {r : Rng} {s : List UInt8} (h : hasR r s = true) : aheadR r s = true := by
  unfold hasR at h; simp only [Bool.and_eq_true] at h; exact h.2
/-- What a right list has stands not ahead of its first text. -/
theorem hasL_ge : ∀ {l : List Rng} {r : Rng} {s : List UInt8}, rightL (r :: l) = true → hasL (r :: l) s = true → ltB s r.lo = false
  | [], r, s, _, hs => by
    rw [hasL_cons] at hs
    simp only [hasL, List.any_nil, Bool.or_false] at hs
    exact hasR_ge hs
  | t :: l, r, s, h, hs => by
    rw [hasL_cons] at hs
    cases hr : hasR r s with
    | true => exact hasR_ge hr
    | false =>
      rw [hr, Bool.false_or] at hs
      have h1 := hasL_ge (rightL_tail h) hs
      have h2 := rightL_gap h
      have h3 := rightR_lt (rightL_head h) h2.1
      cases hc : ltB s r.lo with
      | false => rfl
      | true => rw [ltB_trans hc (ltB_trans h3 h2.2)] at h1; cases h1
/-- What the rest has, the first one hasn't; and the rest hasn't the first one's end. -/
theorem hasL_apart {r : Rng} {l : List Rng} {s : List UInt8} (h : rightL (r :: l) = true) (hs : hasL l s = true) : hasR r s = false ∧ r.op = false ∧ ltB r.hi s = true := by
  cases l with
  | nil => simp [hasL] at hs
  | cons t l =>
    have h1 := hasL_ge (rightL_tail h) hs
    have h2 := rightL_gap h
    have h3 : ltB r.hi s = true := ltB_of_lt_of_le h2.2 h1
    refine ⟨?_, h2.1, h3⟩
    cases hr : hasR r s with
    | false => rfl
    | true =>
      have := hasR_ahead hr
      unfold aheadR at this
      rw [h2.1, Bool.false_or, ltB_asymm h3] at this
      cases this
theorem rng_ext {r t : Rng} (h1 : r.lo = t.lo) (h2 : r.hi = t.hi) (h3 : r.op = t.op) : r = t := by cases r; cases t; simp_all
/-- The text at which the one ends, and the other doesn't. -/
theorem end_split {r t : Rng} {l m : List Rng} (hl : rightL (r :: l) = true) (hm : rightL (t :: m) = true) (he : r.lo = t.lo) (h : endLt r t = true) (hs : ∀ s, hasL (r :: l) s = hasL (t :: m) s) : False := by
  unfold endLt at h
  simp only [Bool.and_eq_true, Bool.not_eq_true'] at h
  obtain ⟨ho, h⟩ := h
  have h1 := hs r.hi
  have h2 : hasR t r.hi = true := by
    unfold hasR aheadR
    rw [rightL_head hm, h, ← he, ltB_asymm (rightR_lt (rightL_head hl) ho)]; rfl
  rw [hasL_cons t, h2, Bool.true_or, hasL_cons] at h1
  have h3 : hasR r r.hi = false := by
    unfold hasR aheadR; rw [ho, ltB_irrefl, Bool.false_or, Bool.and_false]
  rw [h3, Bool.false_or] at h1
  have := (hasL_apart hl h1).2.2
  rw [ltB_irrefl] at this
  cases this
/-- P8.4: two right lists that have the same texts are the same. -/
theorem rightL_unique : ∀ {l m : List Rng}, rightL l = true → rightL m = true → (∀ s, hasL l s = hasL m s) → l = m
  | [], [], _, _, _ => rfl
  | [], t :: m, _, hm, h => by
    have := h t.lo
    rw [hasL_cons, hasR_lo (rightL_head hm)] at this
    simp [hasL] at this
  | r :: l, [], hl, _, h => by
    have := h r.lo
    rw [hasL_cons, hasR_lo (rightL_head hl)] at this
    simp [hasL] at this
  | r :: l, t :: m, hl, hm, h => by
    have e1 : r.lo = t.lo := by
      have h1 : hasL (t :: m) r.lo = true := by rw [← h, hasL_cons, hasR_lo (rightL_head hl)]; rfl
      have h2 : hasL (r :: l) t.lo = true := by rw [h, hasL_cons, hasR_lo (rightL_head hm)]; rfl
      exact ltB_total (hasL_ge hm h1) (hasL_ge hl h2)
    have e2 : endLt r t = false := by
      cases hc : endLt r t with
      | false => rfl
      | true => exact (end_split hl hm e1 hc h).elim
    have e3 : endLt t r = false := by
      cases hc : endLt t r with
      | false => rfl
      | true => exact (end_split hm hl e1.symm hc (fun s => (h s).symm)).elim
    obtain ⟨e4, e5⟩ := end_same (rightL_head hl) (rightL_head hm) e2 e3
    obtain rfl := rng_ext e1 e4 e5
    have key : ∀ s, hasL l s = hasL m s := fun s => by
      have hs := h s
      rw [hasL_cons, hasL_cons] at hs
      cases h1 : hasL l s with
      | true => rw [(hasL_apart hl h1).1, h1, Bool.false_or, Bool.false_or] at hs; exact hs
      | false => cases h2 : hasL m s with
        | false => rfl
        | true => rw [(hasL_apart hm h2).1, h1, h2] at hs; cases hs
    rw [rightL_unique (rightL_tail hl) (rightL_tail hm) key]

/-! The right list of what is meant, edge by edge. -/
/-- The ranges that begin at an edge that is in, and end at the next one that isn't; lo: the one that has begun. -/
def mkR (f : List UInt8 → Bool) : List (List UInt8) → Option (List UInt8) → List Rng
  | [], none => []
  | [], some lo => [⟨lo, [], true⟩]
  | e :: es, none => match f e with | true => mkR f es (some e) | false => mkR f es none
  | e :: es, some lo => match f e with | true => mkR f es (some lo) | false => ⟨lo, e, false⟩ :: mkR f es none
/-- Rising texts, all behind e. -/
def risingB : List UInt8 → List (List UInt8) → Bool
  | _, [] => true
  | e, x :: l => ltB e x && risingB x l
theorem rising_head {c x : List UInt8} {l : List (List UInt8)} (h : risingB c (x :: l) = true) : ltB c x = true ∧ risingB x l = true := by
  unfold risingB at h; simpa using h
theorem rising_all : ∀ {l : List (List UInt8)} {c : List UInt8}, risingB c l = true → ∀ x ∈ l, ltB c x = true
  | [], _, _, x, hx => by cases hx
  | y :: l, c, h, x, hx => by
    obtain ⟨h1, h2⟩ := rising_head h
    rcases List.mem_cons.1 hx with rfl | hx
    · exact h1
    · exact ltB_trans h1 (rising_all h2 x hx)
/-- What holds at a text, told by what holds at the edges. -/
def floorV (f : List UInt8 → Bool) : Bool → List (List UInt8) → List UInt8 → Bool
  | v, [], _ => v
  | v, x :: l, s => match ltB s x with | true => v | false => floorV f (f x) l s
theorem floorV_low {f : List UInt8 → Bool} {v : Bool} {l : List (List UInt8)} {s : List UInt8} (h : ∀ x ∈ l, ltB s x = true) : floorV f v l s = v := by
  cases l with
  | nil => rfl
  | cons x l => unfold floorV; rw [h x (List.mem_cons_self ..)]
theorem hasR_open {lo s : List UInt8} (h : lo.length ≤ 17) : hasR ⟨lo, [], true⟩ s = !ltB s lo := by
  have h1 : rightR ⟨lo, [], true⟩ = true := rightR_iff.2 ⟨h, by simp, fun _ => rfl, (fun h => by cases h)⟩
  unfold hasR aheadR; rw [h1]; simp
theorem right_shut {lo e : List UInt8} (h : lo.length ≤ 17) (he : e.length ≤ 17) (hl : ltB lo e = true) : rightR ⟨lo, e, false⟩ = true :=
  rightR_iff.2 ⟨h, he, (fun h => by cases h), fun _ => hl⟩
theorem hasR_shut {lo e s : List UInt8} (h : lo.length ≤ 17) (he : e.length ≤ 17) (hl : ltB lo e = true) : hasR ⟨lo, e, false⟩ s = (!ltB s lo && ltB s e) := by
  unfold hasR aheadR; rw [right_shut h he hl]; simp
theorem mkR_low (f : List UInt8 → Bool) : ∀ (es : List (List UInt8)) (o : Option (List UInt8)) (c s : List UInt8), risingB c es = true → (∀ lo, o = some lo → ltB s lo = true) → (o = none → ltB c s = false) → (∀ lo, o = some lo → ltB c lo = false) → hasL (mkR f es o) s = false
  | [], none, _, _, _, _, _, _ => rfl
  | [], some lo, c, s, _, h, _, _ => by
    unfold mkR; rw [hasL_cons]
    have : hasR ⟨lo, [], true⟩ s = false := by unfold hasR; rw [h lo rfl]; simp
    rw [this]; rfl
  | e :: es, none, c, s, hr, _, h2, _ => by
    obtain ⟨h3, h4⟩ := rising_head hr
    have hse : ltB s e = true := ltB_of_le_of_lt (h2 rfl) h3
    unfold mkR
    cases f e with
    | true => exact mkR_low f es (some e) e s h4 (fun lo h => by injection h with h; subst h; exact hse) (fun h => by cases h) (fun lo h => by injection h with h; subst h; exact ltB_irrefl _)
    | false => exact mkR_low f es none e s h4 (fun lo h => by cases h) (fun _ => ltB_asymm hse) (fun lo h => by cases h)
  | e :: es, some lo, c, s, hr, h, _, hc => by
    obtain ⟨h3, h4⟩ := rising_head hr
    have h5 : ltB lo e = true := ltB_of_le_of_lt (hc lo rfl) h3
    have hse : ltB s e = true := ltB_trans (h lo rfl) h5
    unfold mkR
    cases f e with
    | true => exact mkR_low f es (some lo) e s h4 (fun lo' h' => by injection h' with h'; subst h'; exact h lo rfl) (fun h => by cases h) (fun lo' h' => by injection h' with h'; subst h'; exact ltB_asymm h5)
    | false =>
      show hasL (⟨lo, e, false⟩ :: mkR f es none) s = false
      rw [hasL_cons]
      have : hasR ⟨lo, e, false⟩ s = false := by unfold hasR; rw [h lo rfl]; simp
      rw [this, Bool.false_or]
      exact mkR_low f es none e s h4 (fun lo h => by cases h) (fun _ => ltB_asymm hse) (fun lo h => by cases h)
/-- What the list has. -/
theorem mkR_has (f : List UInt8 → Bool) : ∀ (es : List (List UInt8)) (o : Option (List UInt8)) (c s : List UInt8), risingB c es = true → (∀ x ∈ es, x.length ≤ 17) → (∀ lo, o = some lo → lo.length ≤ 17 ∧ ltB c lo = false ∧ ltB s lo = false) → hasL (mkR f es o) s = floorV f o.isSome es s
  | [], none, _, _, _, _, _ => rfl
  | [], some lo, c, s, _, _, h => by
    obtain ⟨h1, _, h3⟩ := h lo rfl
    unfold mkR; rw [hasL_cons, hasR_open h1, h3]; rfl
  | e :: es, none, c, s, hr, hl, _ => by
    obtain ⟨h3, h4⟩ := rising_head hr
    have hl' : ∀ x ∈ es, x.length ≤ 17 := fun x hx => hl x (List.mem_cons_of_mem _ hx)
    have he := hl e (List.mem_cons_self ..)
    unfold mkR floorV
    cases hse : ltB s e with
    | true =>
      cases f e with
      | true => exact mkR_low f es (some e) e s h4 (fun lo h => by injection h with h; subst h; exact hse) (fun h => by cases h) (fun lo h => by injection h with h; subst h; exact ltB_irrefl _)
      | false => exact mkR_low f es none e s h4 (fun lo h => by cases h) (fun _ => ltB_asymm hse) (fun lo h => by cases h)
    | false =>
      cases f e with
      | true => exact mkR_has f es (some e) e s h4 hl' (fun lo h => by injection h with h; subst h; exact ⟨he, ltB_irrefl _, hse⟩)
      | false => exact mkR_has f es none e s h4 hl' (fun lo h => by cases h)
  | e :: es, some lo, c, s, hr, hl, h => by
    obtain ⟨h3, h4⟩ := rising_head hr
    obtain ⟨k1, k2, k3⟩ := h lo rfl
    have hl' : ∀ x ∈ es, x.length ≤ 17 := fun x hx => hl x (List.mem_cons_of_mem _ hx)
    have he := hl e (List.mem_cons_self ..)
    have h5 : ltB lo e = true := ltB_of_le_of_lt k2 h3
    unfold mkR floorV
    cases hf : f e with
    | true =>
      have := mkR_has f es (some lo) e s h4 hl' (fun lo' h' => by injection h' with h'; subst h'; exact ⟨k1, ltB_asymm h5, k3⟩)
      show hasL (mkR f es (some lo)) s = _
      rw [this]
      cases hse : ltB s e with
      | true => exact floorV_low fun x hx => ltB_trans hse (rising_all h4 x hx)
      | false => rfl
    | false =>
      show hasL (⟨lo, e, false⟩ :: mkR f es none) s = _
      rw [hasL_cons, hasR_shut k1 he h5, k3]
      cases hse : ltB s e with
      | true => rfl
      | false => exact mkR_has f es none e s h4 hl' (fun lo h => by cases h)
theorem mkR_first (f : List UInt8 → Bool) : ∀ (es : List (List UInt8)) (o : Option (List UInt8)) (c : List UInt8) (t : Rng) (m : List Rng), risingB c es = true → mkR f es o = t :: m → (∀ lo, o = some lo → t.lo = lo) ∧ (o = none → ltB c t.lo = true)
  | [], none, _, _, _, _, h => by cases h
  | [], some lo, _, t, m, _, h => by
    unfold mkR at h; injection h with h h'; subst h
    exact ⟨(fun lo' e => by injection e), (fun e => by cases e)⟩
  | e :: es, none, c, t, m, hr, h => by
    obtain ⟨h3, h4⟩ := rising_head hr
    refine ⟨(fun lo e => by cases e), fun _ => ?_⟩
    unfold mkR at h
    cases hf : f e with
    | true => rw [hf] at h; rw [(mkR_first f es (some e) e t m h4 h).1 e rfl]; exact h3
    | false => rw [hf] at h; exact ltB_trans h3 ((mkR_first f es none e t m h4 h).2 rfl)
  | e :: es, some lo, c, t, m, hr, h => by
    obtain ⟨h3, h4⟩ := rising_head hr
    refine ⟨fun lo' e' => ?_, (fun e => by cases e)⟩
    injection e' with e'; subst e'
    unfold mkR at h
    cases hf : f e with
    | true => rw [hf] at h; exact (mkR_first f es (some lo) e t m h4 h).1 lo rfl
    | false => rw [hf] at h; injection h with h h'; subst h; rfl
/-- The list is right. -/
theorem mkR_right (f : List UInt8 → Bool) : ∀ (es : List (List UInt8)) (o : Option (List UInt8)) (c : List UInt8), risingB c es = true → (∀ x ∈ es, x.length ≤ 17) → (∀ lo, o = some lo → lo.length ≤ 17 ∧ ltB c lo = false) → rightL (mkR f es o) = true
  | [], none, _, _, _, _ => rfl
  | [], some lo, _, _, _, h => rightR_iff.2 ⟨(h lo rfl).1, by simp, fun _ => rfl, (fun h => by cases h)⟩
  | e :: es, none, c, hr, hl, _ => by
    obtain ⟨h3, h4⟩ := rising_head hr
    have hl' : ∀ x ∈ es, x.length ≤ 17 := fun x hx => hl x (List.mem_cons_of_mem _ hx)
    have he := hl e (List.mem_cons_self ..)
    unfold mkR
    cases f e with
    | true => exact mkR_right f es (some e) e h4 hl' (fun lo h => by injection h with h; subst h; exact ⟨he, ltB_irrefl _⟩)
    | false => exact mkR_right f es none e h4 hl' (fun lo h => by cases h)
  | e :: es, some lo, c, hr, hl, h => by
    obtain ⟨h3, h4⟩ := rising_head hr
    obtain ⟨k1, k2⟩ := h lo rfl
    have hl' : ∀ x ∈ es, x.length ≤ 17 := fun x hx => hl x (List.mem_cons_of_mem _ hx)
    have he := hl e (List.mem_cons_self ..)
    have h5 : ltB lo e = true := ltB_of_le_of_lt k2 h3
    unfold mkR
    cases f e with
    | true => exact mkR_right f es (some lo) e h4 hl' (fun lo' h' => by injection h' with h'; subst h'; exact ⟨k1, ltB_asymm h5⟩)
    | false =>
      have h6 := mkR_right f es none e h4 hl' (fun lo h => by cases h)
      show rightL (⟨lo, e, false⟩ :: mkR f es none) = true
      cases hm : mkR f es none with
      | nil => exact right_shut k1 he h5
      | cons t m =>
        rw [hm] at h6
        have h7 := (mkR_first f es none e t m h4 hm).2 rfl
        unfold rightL gapR
        rw [right_shut k1 he h5, h6, h7]; rfl
/-- Is it told by these edges whether a text is in? -/
def Det (f : List UInt8 → Bool) (E : List (List UInt8)) : Prop := ∀ s c, (∀ x ∈ E, ltB s x = ltB c x) → f s = f c
theorem floorV_det (f : List UInt8 → Bool) (s : List UInt8) : ∀ (es D : List (List UInt8)) (c : List UInt8), risingB c es = true → (∀ x ∈ D, ltB c x = false) → ltB s c = false → Det f (D ++ es) → floorV f (f c) es s = f s
  | [], D, c, _, hD, hs, h => by
    refine (h s c fun x hx => ?_).symm
    rw [List.append_nil] at hx
    rw [hD x hx]
    exact leB_trans (hD x hx) hs
  | x :: l, D, c, hr, hD, hs, h => by
    obtain ⟨h3, h4⟩ := rising_head hr
    unfold floorV
    cases hx : ltB s x with
    | true =>
      refine (h s c fun y hy => ?_).symm
      rcases List.mem_append.1 hy with hy | hy
      · rw [hD y hy]; exact leB_trans (hD y hy) hs
      · have h5 := rising_all hr y hy
        rw [h5]
        rcases List.mem_cons.1 hy with rfl | hy
        · exact hx
        · exact ltB_trans hx (rising_all h4 y hy)
    | false =>
      refine floorV_det f s l (D ++ [x]) x h4 (fun y hy => ?_) hx (by rw [List.append_assoc]; exact h)
      rcases List.mem_append.1 hy with hy | hy
      · exact ltB_asymm (ltB_of_le_of_lt (hD y hy) h3)
      · rw [List.mem_singleton.1 hy]; exact ltB_irrefl _
/-- Of the empty text and rising edges, by which it is told what is in: the right list of it. -/
theorem mkR_all {f : List UInt8 → Bool} {es : List (List UInt8)} (hr : risingB [] es = true) (hl : ∀ x ∈ es, x.length ≤ 17) (hd : Det f ([] :: es)) :
    rightL (mkR f ([] :: es) none) = true ∧ ∀ s, hasL (mkR f ([] :: es) none) s = f s := by
  have hn : ∀ s, ltB s [] = false := ltB_nil
  constructor
  · unfold mkR
    cases f [] with
    | true => exact mkR_right f es (some []) [] hr hl (fun lo h => by injection h with h; subst h; exact ⟨by simp, ltB_nil _⟩)
    | false => exact mkR_right f es none [] hr hl (fun lo h => by cases h)
  · intro s
    have h1 : hasL (mkR f ([] :: es) none) s = floorV f (f []) es s := by
      unfold mkR
      cases hf : f [] with
      | true => exact mkR_has f es (some []) [] s hr hl (fun lo h => by injection h with h; subst h; exact ⟨by simp, ltB_nil _, ltB_nil _⟩)
      | false => exact mkR_has f es none [] s hr hl (fun lo h => by cases h)
    rw [h1]
    exact floorV_det f s es [[]] [] hr (fun x hx => by rw [List.mem_singleton.1 hx]; exact ltB_nil _) (ltB_nil _) hd

/-! The edges. -/
/-- A text put among rising ones, once. -/
def putL : List (List UInt8) → List UInt8 → List (List UInt8)
  | [], s => [s]
  | x :: l, s => match ltB x s with | true => x :: putL l s | false => match decide (x = s) with | true => x :: l | false => s :: x :: l
theorem putL_behind {x : List UInt8} {l : List (List UInt8)} {s : List UInt8} (h : ltB x s = true) : putL (x :: l) s = x :: putL l s := by rw [putL, h]
theorem putL_there {x : List UInt8} {l : List (List UInt8)} : putL (x :: l) x = x :: l := by rw [putL, ltB_irrefl, decide_eq_true rfl]
theorem putL_here {x : List UInt8} {l : List (List UInt8)} {s : List UInt8} (h : ltB x s = false) (h' : x ≠ s) : putL (x :: l) s = s :: x :: l := by rw [putL, h, decide_eq_false h']
theorem putL_mem : ∀ {l : List (List UInt8)} {s x : List UInt8}, x ∈ putL l s ↔ x = s ∨ x ∈ l
  | [], s, x => by simp [putL]
  | y :: l, s, x => by
    cases h : ltB y s with
    | true => rw [putL_behind h, List.mem_cons, List.mem_cons, putL_mem]; constructor <;> (rintro (h | h | h) <;> simp [h])
    | false =>
      by_cases h' : y = s
      · subst h'; rw [putL_there]; constructor
        · exact .inr
        · rintro (rfl | h)
          · exact List.mem_cons_self ..
          · exact h
      · rw [putL_here h h', List.mem_cons]
theorem putL_rising : ∀ {l : List (List UInt8)} {c s : List UInt8}, risingB c l = true → ltB c s = true → risingB c (putL l s) = true
  | [], c, s, _, h => by simp [putL, risingB, h]
  | x :: l, c, s, hr, hs => by
    obtain ⟨h1, h2⟩ := rising_head hr
    cases h : ltB x s with
    | true => rw [putL_behind h]; unfold risingB; rw [h1, putL_rising h2 h]; rfl
    | false =>
      by_cases h' : x = s
      · subst h'; rw [putL_there]; exact hr
      · have h3 : ltB s x = true := by
          cases hc : ltB s x with
          | true => rfl
          | false => exact absurd (ltB_total h hc) h'
        rw [putL_here h h']; unfold risingB risingB; rw [hs, h3, h2]; rfl
/-- The empty text stands first. -/
theorem putL_first {l : List (List UInt8)} {s : List UInt8} (h : risingB [] l = true) : ∃ m, putL ([] :: l) s = [] :: m ∧ risingB [] m = true := by
  cases s with
  | nil => exact ⟨l, putL_there, h⟩
  | cons x s => exact ⟨putL l (x :: s), putL_behind (ltB_nil_cons x s), putL_rising h (ltB_nil_cons x s)⟩
def addE (E : List (List UInt8)) (r : Rng) : List (List UInt8) := match rightR r with
  | true => (match r.op with | true => putL E r.lo | false => putL (putL E r.lo) r.hi)
  | false => E
def edgesL (l : List Rng) : List (List UInt8) := l.foldl addE [[]]
theorem edgesL_snoc (l : List Rng) (r : Rng) : edgesL (l ++ [r]) = addE (edgesL l) r := by simp [edgesL]
/-- Texts that begin with the empty one, rise, and are edges. -/
def EdgesOk (E : List (List UInt8)) : Prop := ∃ m, E = [] :: m ∧ risingB [] m = true ∧ ∀ x ∈ m, x.length ≤ 17
theorem EdgesOk.put {E : List (List UInt8)} (h : EdgesOk E) {s : List UInt8} (hs : s.length ≤ 17) : EdgesOk (putL E s) := by
  obtain ⟨m, rfl, h1, h2⟩ := h
  obtain ⟨m', h3, h4⟩ := putL_first (s := s) h1
  refine ⟨m', h3, h4, fun x hx => ?_⟩
  have h5 : x ∈ putL ([] :: m) s := by rw [h3]; exact List.mem_cons_of_mem _ hx
  rcases putL_mem.1 h5 with rfl | h5
  · exact hs
  · rcases List.mem_cons.1 h5 with rfl | h5
    · simp
    · exact h2 x h5
theorem EdgesOk.add {E : List (List UInt8)} (h : EdgesOk E) (r : Rng) : EdgesOk (addE E r) := by
  unfold addE
  cases hr : rightR r with
  | false => exact h
  | true => cases r.op with
    | true => exact h.put (rightR_lo hr)
    | false => exact (h.put (rightR_lo hr)).put (rightR_hi hr)
theorem edges_ok : ∀ (l : List Rng) (E : List (List UInt8)), EdgesOk E → EdgesOk (l.foldl addE E)
  | [], _, h => h
  | r :: l, E, h => edges_ok l (addE E r) (h.add r)
theorem addE_keep {E : List (List UInt8)} {r : Rng} {x : List UInt8} (h : x ∈ E) : x ∈ addE E r := by
  unfold addE
  cases rightR r with
  | false => exact h
  | true => cases r.op with
    | true => exact putL_mem.2 (.inr h)
    | false => exact putL_mem.2 (.inr (putL_mem.2 (.inr h)))
theorem edges_keep : ∀ (l : List Rng) (E : List (List UInt8)) {x : List UInt8}, x ∈ E → x ∈ l.foldl addE E
  | [], _, _, h => h
  | r :: l, E, _, h => edges_keep l (addE E r) (addE_keep h)
theorem edges_mem : ∀ (l : List Rng) (E : List (List UInt8)) {r : Rng}, r ∈ l → rightR r = true → r.lo ∈ l.foldl addE E ∧ (r.op = false → r.hi ∈ l.foldl addE E)
  | [], _, _, h, _ => by cases h
  | t :: l, E, r, h, hr => by
    rcases List.mem_cons.1 h with rfl | h
    · constructor
      · refine edges_keep l _ ?_
        unfold addE; rw [hr]
        cases r.op with
        | true => exact putL_mem.2 (.inl rfl)
        | false => exact putL_mem.2 (.inr (putL_mem.2 (.inl rfl)))
      · intro ho
        refine edges_keep l _ ?_
        unfold addE; rw [hr, ho]
        exact putL_mem.2 (.inl rfl)
    · exact edges_mem l (addE E t) h hr
theorem edgesL_ok (l : List Rng) : EdgesOk (edgesL l) := edges_ok l [[]] ⟨[], rfl, rfl, by simp⟩
theorem hasR_det {r : Rng} {E : List (List UInt8)} (h : rightR r = true → r.lo ∈ E ∧ (r.op = false → r.hi ∈ E)) : Det (hasR r) E := fun s c hs => by
  cases hr : rightR r with
  | false => unfold hasR; rw [hr]; rfl
  | true =>
    obtain ⟨h1, h2⟩ := h hr
    unfold hasR aheadR
    rw [hs _ h1]
    cases ho : r.op with
    | true => rfl
    | false => rw [hs _ (h2 ho)]
theorem hasL_det : ∀ {l : List Rng} {E : List (List UInt8)}, (∀ r ∈ l, rightR r = true → r.lo ∈ E ∧ (r.op = false → r.hi ∈ E)) → Det (hasL l) E
  | [], _, _ => fun _ _ _ => rfl
  | r :: l, E, h => fun s c hs => by
    rw [hasL_cons, hasL_cons, hasR_det (h r (List.mem_cons_self ..)) s c hs, hasL_det (fun t ht => h t (List.mem_cons_of_mem _ ht)) s c hs]
/-- The right list of what is told by what two lists have. -/
theorem make_ok (a b : List Rng) (g : Bool → Bool → Bool) : rightL (mkR (fun s => g (hasL a s) (hasL b s)) (edgesL (a ++ b)) none) = true ∧ ∀ s, hasL (mkR (fun s => g (hasL a s) (hasL b s)) (edgesL (a ++ b)) none) s = g (hasL a s) (hasL b s) := by
  obtain ⟨m, hm, h1, h2⟩ := edgesL_ok (a ++ b)
  have ha : Det (hasL a) (edgesL (a ++ b)) := hasL_det fun r hr hR => edges_mem (a ++ b) [[]] (List.mem_append.2 (.inl hr)) hR
  have hb : Det (hasL b) (edgesL (a ++ b)) := hasL_det fun r hr hR => edges_mem (a ++ b) [[]] (List.mem_append.2 (.inr hr)) hR
  rw [hm] at ha hb ⊢
  exact mkR_all h1 h2 fun s c hs => by simp only [ha s c hs, hb s c hs]
end Go.Proofs.Ytgoenmgkhdibnaa
