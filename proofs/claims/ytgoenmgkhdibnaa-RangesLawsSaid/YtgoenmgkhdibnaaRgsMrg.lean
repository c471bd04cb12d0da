/-
  Plain facts on how right lists are made (layer 8): ranges in the order of their beginnings, merged; the edges of two lists, swept together. No program in this text.
-/
import Derived.Test.YtgoenmgkhdibnaaRgsSets
namespace Go.Proofs.Ytgoenmgkhdibnaa

/-! Ranges in the order of their beginnings, merged. -/
def mergeL : Option Rng → List Rng → List Rng
  | none, [] => []
  | some p, [] => [p]
  | none, r :: l => mergeL (some r) l
  | some p, r :: l => match gapR p r with
    | true => p :: mergeL (some r) l
    | false => match endLt p r with
      | true => mergeL (some ⟨p.lo, r.hi, r.op⟩) l
      | false => mergeL (some p) l
theorem mergeL_gap {p r : Rng} {l : List Rng} (h : gapR p r = true) : mergeL (some p) (r :: l) = p :: mergeL (some r) l := by rw [mergeL, h]
theorem mergeL_more {p r : Rng} {l : List Rng} (h : gapR p r = false) (h' : endLt p r = true) : mergeL (some p) (r :: l) = mergeL (some ⟨p.lo, r.hi, r.op⟩) l := by rw [mergeL, h, h']
theorem mergeL_in {p r : Rng} {l : List Rng} (h : gapR p r = false) (h' : endLt p r = false) : mergeL (some p) (r :: l) = mergeL (some p) l := by rw [mergeL, h, h']
/-- Ranges, each of which begins not behind those behind it. -/
def SortedL (l : List Rng) : Prop := l.Pairwise fun a b => ltB b.lo a.lo = false
theorem gapR_false {p r : Rng} (h : gapR p r = false) : p.op = true ∨ (p.op = false ∧ ltB p.hi r.lo = false) := by
  unfold gapR at h
  cases ho : p.op with
  | true => exact .inl rfl
  | false => rw [ho] at h; exact .inr ⟨rfl, h⟩
theorem endLt_true {p r : Rng} (h : endLt p r = true) : p.op = false ∧ (r.op = true ∨ (r.op = false ∧ ltB p.hi r.hi = true)) := by
  unfold endLt at h
  cases ho : p.op <;> cases hr : r.op <;> rw [ho, hr] at h
  · exact ⟨rfl, .inr ⟨rfl, h⟩⟩
  · exact ⟨rfl, .inl rfl⟩
  · cases h
  · cases h
theorem endLt_false {p r : Rng} (h : endLt p r = false) : p.op = true ∨ (p.op = false ∧ r.op = false ∧ ltB p.hi r.hi = false) := by
  unfold endLt at h
  cases ho : p.op <;> cases hr : r.op <;> rw [ho, hr] at h
  · exact .inr ⟨rfl, rfl, h⟩
  · cases h
  · exact .inl rfl
  · exact .inl rfl
theorem hasR_eq {r : Rng} (h : rightR r = true) (s : List UInt8) : hasR r s = (!ltB s r.lo && (r.op || ltB s r.hi)) := by unfold hasR aheadR; rw [h, Bool.true_and]
theorem more_right {p r : Rng} (hp : rightR p = true) (hr : rightR r = true) (h : ltB r.lo p.lo = false) : rightR ⟨p.lo, r.hi, r.op⟩ = true :=
  rightR_iff.2 ⟨(show p.lo.length ≤ 17 from rightR_lo hp), (show r.hi.length ≤ 17 from rightR_hi hr), (show r.op = true → r.hi = [] from rightR_op hr), (show r.op = false → ltB p.lo r.hi = true from fun ho => ltB_of_le_of_lt h (rightR_lt hr ho))⟩
theorem more_has {p r : Rng} (hp : rightR p = true) (hr : rightR r = true) (h : ltB r.lo p.lo = false) (hg : gapR p r = false) (he : endLt p r = true) (s : List UInt8) : hasR ⟨p.lo, r.hi, r.op⟩ s = (hasR p s || hasR r s) := by
  rw [hasR_eq (more_right hp hr h), hasR_eq hp, hasR_eq hr]
  obtain ⟨ho, he⟩ := endLt_true he
  rcases gapR_false hg with h1 | ⟨_, h1⟩
  · rw [ho] at h1; cases h1
  rw [ho, Bool.false_or]
  cases hs : ltB s p.hi with
  | true =>
    have h2 : (r.op || ltB s r.hi) = true := by
      rcases he with he | ⟨_, he⟩
      · rw [he]; rfl
      · rw [ltB_trans hs he, Bool.or_true]
    show (!ltB s p.lo && (r.op || ltB s r.hi)) = _
    rw [h2, Bool.and_true, Bool.and_true]
    cases h3 : ltB s p.lo with
    | false => rfl
    | true => rw [ltB_of_lt_of_le h3 h]; rfl
  | false =>
    have h2 : ltB s r.lo = false := leB_trans h1 hs
    have h3 : ltB s p.lo = false := leB_trans h h2
    show (!ltB s p.lo && (r.op || ltB s r.hi)) = _
    rw [h2, h3]; rfl
theorem in_has {p r : Rng} (hp : rightR p = true) (h : ltB r.lo p.lo = false) (he : endLt p r = false) (s : List UInt8) : hasR p s = (hasR p s || hasR r s) := by
  cases hs : hasR r s with
  | false => rw [Bool.or_false]
  | true =>
    rw [Bool.or_true]
    have h1 := hasR_ge hs
    have h2 := hasR_ahead hs
    rw [hasR_eq hp, leB_trans h h1]
    rcases endLt_false he with h3 | ⟨h3, h4, h5⟩
    · rw [h3]; rfl
    · unfold aheadR at h2
      rw [h4, Bool.false_or] at h2
      rw [ltB_of_lt_of_le h2 h5, Bool.or_true]; rfl
theorem mergeL_ok : ∀ (l : List Rng) (p : Rng), rightR p = true → (∀ r ∈ l, rightR r = true ∧ ltB r.lo p.lo = false) → SortedL l →
    rightL (mergeL (some p) l) = true ∧ (∀ s, hasL (mergeL (some p) l) s = (hasR p s || hasL l s)) ∧ ∃ t m, mergeL (some p) l = t :: m ∧ t.lo = p.lo
  | [], p, hp, _, _ => ⟨hp, fun s => by rw [show mergeL (some p) [] = [p] from rfl, hasL_cons], p, [], rfl, rfl⟩
  | r :: l, p, hp, hl, hs => by
    obtain ⟨hr, hlo⟩ := hl r (List.mem_cons_self ..)
    obtain ⟨hs1, hs2⟩ := List.pairwise_cons.1 hs
    have hl' : ∀ t ∈ l, rightR t = true ∧ ltB t.lo r.lo = false := fun t ht => ⟨(hl t (List.mem_cons_of_mem _ ht)).1, hs1 t ht⟩
    cases hg : gapR p r with
    | true =>
      obtain ⟨h1, h2, t, m, h3, h4⟩ := mergeL_ok l r hr hl' hs2
      rw [mergeL_gap hg]
      refine ⟨?_, fun s => by rw [hasL_cons, h2, hasL_cons], p, _, rfl, rfl⟩
      rw [h3] at h1 ⊢
      have h5 : gapR p t = true := by unfold gapR at hg ⊢; rw [h4]; exact hg
      unfold rightL
      rw [hp, h5, h1]; rfl
    | false =>
      cases he : endLt p r with
      | true =>
        obtain ⟨h1, h2, t, m, h3, h4⟩ := mergeL_ok l ⟨p.lo, r.hi, r.op⟩ (more_right hp hr hlo) (fun t ht => ⟨(hl' t ht).1, leB_trans hlo (hl' t ht).2⟩) hs2
        rw [mergeL_more hg he]
        exact ⟨h1, fun s => by rw [h2, more_has hp hr hlo hg he, hasL_cons, Bool.or_assoc], t, m, h3, h4⟩
      | false =>
        obtain ⟨h1, h2, t, m, h3, h4⟩ := mergeL_ok l p hp (fun t ht => hl t (List.mem_cons_of_mem _ ht)) hs2
        rw [mergeL_in hg he]
        exact ⟨h1, fun s => by rw [h2, hasL_cons, ← Bool.or_assoc, ← in_has hp hlo he], t, m, h3, h4⟩
theorem mergeL_all {l : List Rng} (hl : ∀ r ∈ l, rightR r = true) (hs : SortedL l) : rightL (mergeL none l) = true ∧ ∀ s, hasL (mergeL none l) s = hasL l s := by
  cases l with
  | nil => exact ⟨rfl, fun _ => rfl⟩
  | cons r l =>
    obtain ⟨hs1, hs2⟩ := List.pairwise_cons.1 hs
    obtain ⟨h1, h2, _⟩ := mergeL_ok l r (hl r (List.mem_cons_self ..)) (fun t ht => ⟨hl t (List.mem_cons_of_mem _ ht), hs1 t ht⟩) hs2
    exact ⟨h1, fun s => by rw [show mergeL none (r :: l) = mergeL (some r) l from rfl, h2, hasL_cons]⟩
/-- The right ones, in some order of their beginnings, merged: the right list of all. -/
theorem mergeL_norm {l m : List Rng} (hp : m.Perm (l.filter rightR)) (hs : SortedL m) : mergeL none m = normV l := by
  have hm : ∀ r ∈ m, rightR r = true := fun r hr => by have := hp.mem_iff.1 hr; exact (List.mem_filter.1 this).2
  obtain ⟨h1, h2⟩ := mergeL_all hm hs
  refine makeV_unique h1 fun s => ?_
  rw [h2, gV1, hasL_nil, Bool.or_false, Bool.eq_iff_iff]
  unfold hasL
  rw [List.any_eq_true, List.any_eq_true]
  constructor
  · rintro ⟨r, hr, h⟩; exact ⟨r, (List.mem_filter.1 (hp.mem_iff.1 hr)).1, h⟩
  · rintro ⟨r, hr, h⟩; exact ⟨r, hp.mem_iff.2 (List.mem_filter.2 ⟨hr, hasR_right h⟩), h⟩
/-- The last one that is kept, behind a range. -/
def lastR (p r : Rng) : Rng := match endLt p r with | true => ⟨p.lo, r.hi, r.op⟩ | false => p
theorem mergeL_last {p r : Rng} {l : List Rng} (h : gapR p r = false) : mergeL (some p) (r :: l) = mergeL (some (lastR p r)) l := by
  unfold lastR
  cases h' : endLt p r with
  | true => rw [mergeL_more h h']
  | false => rw [mergeL_in h h']

/-! The edges of a right list. -/
def edgesR : List Rng → List (List UInt8)
  | [] => []
  | r :: l => match r.op with
    | true => r.lo :: edgesR l
    | false => r.lo :: r.hi :: edgesR l
theorem edgesR_open {r : Rng} {l : List Rng} (h : r.op = true) : edgesR (r :: l) = r.lo :: edgesR l := by rw [edgesR, h]
theorem edgesR_shut {r : Rng} {l : List Rng} (h : r.op = false) : edgesR (r :: l) = r.lo :: r.hi :: edgesR l := by rw [edgesR, h]
theorem edgesR_append : ∀ (a b : List Rng), edgesR (a ++ b) = edgesR a ++ edgesR b
  | [], _ => rfl
  | r :: a, b => by
    rw [List.cons_append]
    cases ho : r.op with
    | true => rw [edgesR_open ho, edgesR_open ho, edgesR_append a b, List.cons_append]
    | false => rw [edgesR_shut ho, edgesR_shut ho, edgesR_append a b, List.cons_append, List.cons_append]
/-- Are texts rising? -/
def riseB : List (List UInt8) → Bool
  | [] => true
  | x :: l => risingB x l
theorem risingB_of {c x : List UInt8} {l : List (List UInt8)} (h : ltB c x = true) (h' : risingB x l = true) : risingB c (x :: l) = true := by unfold risingB; rw [h, h']; rfl
theorem edgesR_rise : ∀ {l : List Rng}, rightL l = true → (∀ c, (∀ r m, l = r :: m → ltB c r.lo = true) → risingB c (edgesR l) = true)
  | [], _, _, _ => rfl
  | r :: l, h, c, hc => by
    have h1 := hc r l rfl
    cases ho : r.op with
    | true =>
      have hl : l = [] := by
        cases l with
        | nil => rfl
        | cons t m => have := (rightL_gap h).1; rw [ho] at this; cases this
      rw [edgesR_open ho, hl]
      exact risingB_of h1 rfl
    | false =>
      rw [edgesR_shut ho]
      refine risingB_of h1 (risingB_of (rightR_lt (rightL_head h) ho) (edgesR_rise (rightL_tail h) _ fun t m e => ?_))
      subst e
      exact (rightL_gap h).2
theorem edgesR_riseB {l : List Rng} (h : rightL l = true) : riseB (edgesR l) = true := by
  cases l with
  | nil => rfl
  | cons r l =>
    cases ho : r.op with
    | true =>
      have hl : l = [] := by
        cases l with
        | nil => rfl
        | cons t m => have := (rightL_gap h).1; rw [ho] at this; cases this
      rw [edgesR_open ho, hl]; rfl
    | false =>
      rw [edgesR_shut ho]
      refine risingB_of (rightR_lt (rightL_head h) ho) (edgesR_rise (rightL_tail h) _ fun t m e => ?_)
      subst e
      exact (rightL_gap h).2
theorem edgesR_len17 : ∀ {l : List Rng}, (∀ r ∈ l, rightR r = true) → ∀ x ∈ edgesR l, x.length ≤ 17
  | [], _, x, hx => by cases hx
  | r :: l, h, x, hx => by
    have h1 := h r (List.mem_cons_self ..)
    have h2 := edgesR_len17 fun t ht => h t (List.mem_cons_of_mem _ ht)
    cases ho : r.op with
    | true =>
      rw [edgesR_open ho] at hx
      rcases List.mem_cons.1 hx with rfl | hx
      · exact rightR_lo h1
      · exact h2 x hx
    | false =>
      rw [edgesR_shut ho] at hx
      rcases List.mem_cons.1 hx with rfl | hx
      · exact rightR_lo h1
      · rcases List.mem_cons.1 hx with rfl | hx
        · exact rightR_hi h1
        · exact h2 x hx
theorem edgesR_len : ∀ l : List Rng, (edgesR l).length ≤ 2 * l.length
  | [] => by simp [edgesR]
  | r :: l => by
    have := edgesR_len l
    cases ho : r.op with
    | true => rw [edgesR_open ho]; simp only [List.length_cons]; omega
    | false => rw [edgesR_shut ho]; simp only [List.length_cons]; omega
/-- Is a text in, by the edges at which that turns? -/
def togV : Bool → List (List UInt8) → List UInt8 → Bool
  | v, [], _ => v
  | v, x :: l, s => match ltB s x with | true => v | false => togV (!v) l s
theorem togV_low {v : Bool} {x s : List UInt8} {l : List (List UInt8)} (h : ltB s x = true) : togV v (x :: l) s = v := by rw [togV, h]
theorem togV_high {v : Bool} {x s : List UInt8} {l : List (List UInt8)} (h : ltB s x = false) : togV v (x :: l) s = togV (!v) l s := by rw [togV, h]
theorem togV_all {v : Bool} {s : List UInt8} {l : List (List UInt8)} (h : ∀ x ∈ l, ltB s x = true) : togV v l s = v := by
  cases l with
  | nil => rfl
  | cons x l => exact togV_low (h x (List.mem_cons_self ..))
theorem togV_edges : ∀ {l : List Rng}, rightL l = true → ∀ s, togV false (edgesR l) s = hasL l s
  | [], _, _ => rfl
  | r :: l, h, s => by
    have hr := rightL_head h
    cases h1 : ltB s r.lo with
    | true =>
      have h2 : hasL (r :: l) s = false := by
        cases hc : hasL (r :: l) s with
        | false => rfl
        | true => rw [hasL_ge h hc] at h1; cases h1
      rw [h2]
      cases ho : r.op with
      | true => rw [edgesR_open ho, togV_low h1]
      | false => rw [edgesR_shut ho, togV_low h1]
    | false =>
      cases ho : r.op with
      | true =>
        have hl : l = [] := by
          cases l with
          | nil => rfl
          | cons t m => have := (rightL_gap h).1; rw [ho] at this; cases this
        rw [edgesR_open ho, togV_high h1, hl, hasL_cons, hasR_eq hr, h1, ho]; rfl
      | false =>
        rw [edgesR_shut ho, togV_high h1, hasL_cons, hasR_eq hr, h1, ho]
        cases h3 : ltB s r.hi with
        | true => rw [togV_low h3]; rfl
        | false => rw [togV_high h3, show (!!false) = false from rfl, togV_edges (rightL_tail h)]; rfl
theorem togV_det : ∀ (l : List (List UInt8)) (v : Bool) {s c : List UInt8}, (∀ x ∈ l, ltB s x = ltB c x) → togV v l s = togV v l c
  | [], _, _, _, _ => rfl
  | x :: l, v, s, c, h => by
    have h1 := h x (List.mem_cons_self ..)
    have h2 := togV_det l (!v) fun y hy => h y (List.mem_cons_of_mem _ hy)
    unfold togV
    rw [h1, h2]

/-! The edges of two lists, together. -/
/-- What is left of edges behind one that may be the first of them. -/
def dropE (e : List UInt8) : List (List UInt8) → List (List UInt8)
  | [] => []
  | x :: l => match decide (x = e) with | true => l | false => x :: l
/-- .. and whether a text is in from there on. -/
def passB (e : List UInt8) (v : Bool) : List (List UInt8) → Bool
  | [] => v
  | x :: _ => match decide (x = e) with | true => !v | false => v
theorem dropE_same {e : List UInt8} {l : List (List UInt8)} : dropE e (e :: l) = l := by rw [dropE, decide_eq_true rfl]
theorem dropE_other {e x : List UInt8} {l : List (List UInt8)} (h : x ≠ e) : dropE e (x :: l) = x :: l := by rw [dropE, decide_eq_false h]
theorem passB_same {e : List UInt8} {v : Bool} {l : List (List UInt8)} : passB e v (e :: l) = !v := by rw [passB, decide_eq_true rfl]
theorem passB_other {e x : List UInt8} {v : Bool} {l : List (List UInt8)} (h : x ≠ e) : passB e v (x :: l) = v := by rw [passB, decide_eq_false h]
theorem dropE_len (e : List UInt8) (l : List (List UInt8)) : (dropE e l).length ≤ l.length := by
  cases l with
  | nil => exact Nat.le_refl _
  | cons x l =>
    by_cases h : x = e
    · subst h; rw [dropE_same]; simp
    · rw [dropE_other h]; exact Nat.le_refl _
theorem dropE_mem {e x : List UInt8} {l : List (List UInt8)} (h : x ∈ dropE e l) : x ∈ l := by
  cases l with
  | nil => cases h
  | cons y l =>
    by_cases hy : y = e
    · subst hy; rw [dropE_same] at h; exact List.mem_cons_of_mem _ h
    · rw [dropE_other hy] at h; exact h
theorem mem_dropE {e x : List UInt8} {l : List (List UInt8)} (h : x ∈ l) (hne : x ≠ e) : x ∈ dropE e l := by
  cases l with
  | nil => cases h
  | cons y l =>
    by_cases hy : y = e
    · subst hy; rw [dropE_same]
      rcases List.mem_cons.1 h with rfl | h
      · exact absurd rfl hne
      · exact h
    · rw [dropE_other hy]; exact h
/-- Rising texts, none of them ahead of one. -/
def FromE (e : List UInt8) (l : List (List UInt8)) : Prop := riseB l = true ∧ ∀ x ∈ l, ltB x e = false
theorem FromE.drop {e : List UInt8} {l : List (List UInt8)} (h : FromE e l) : risingB e (dropE e l) = true := by
  obtain ⟨h1, h2⟩ := h
  cases l with
  | nil => rfl
  | cons x l =>
    by_cases hx : x = e
    · subst hx; rw [dropE_same]; exact h1
    · rw [dropE_other hx]
      refine risingB_of ?_ h1
      have h3 := h2 x (List.mem_cons_self ..)
      cases hc : ltB e x with
      | true => rfl
      | false => exact absurd (ltB_total h3 hc) hx
theorem riseB_of {c : List UInt8} {l : List (List UInt8)} (h : risingB c l = true) : riseB l = true := by
  cases l with
  | nil => rfl
  | cons x l => exact (rising_head h).2
theorem FromE.pass {e : List UInt8} {l : List (List UInt8)} {v : Bool} (_h : FromE e l) {s : List UInt8} (hs : ltB s e = false) : togV (passB e v l) (dropE e l) s = togV v l s := by
  cases l with
  | nil => rfl
  | cons x l =>
    by_cases hx : x = e
    · subst hx; rw [dropE_same, passB_same, togV_high hs]
    · rw [dropE_other hx, passB_other hx]
theorem FromE.at {e : List UInt8} {l : List (List UInt8)} {v : Bool} (h : FromE e l) : togV v l e = passB e v l := by
  rw [← h.pass (ltB_irrefl e)]
  exact togV_all (rising_all h.drop)
/-- The next edge of both. -/
def nearE : List (List UInt8) → List (List UInt8) → Option (List UInt8)
  | [], [] => none
  | [], y :: _ => some y
  | x :: _, [] => some x
  | x :: _, y :: _ => match ltB x y with | true => some x | false => some y
theorem nearE_lt {x y : List UInt8} {a b : List (List UInt8)} (h : ltB x y = true) : nearE (x :: a) (y :: b) = some x := by rw [nearE, h]
theorem nearE_ge {x y : List UInt8} {a b : List (List UInt8)} (h : ltB x y = false) : nearE (x :: a) (y :: b) = some y := by rw [nearE, h]
/-- What is known of the next edge of two rising lists. -/
theorem nearE_some {c e : List UInt8} {a b : List (List UInt8)} (ha : risingB c a = true) (hb : risingB c b = true) (h : nearE a b = some e) :
    ltB c e = true ∧ FromE e a ∧ FromE e b ∧ (dropE e a).length + (dropE e b).length < a.length + b.length ∧ (e ∈ a ∨ e ∈ b) := by
  have up : ∀ {x : List UInt8} {l : List (List UInt8)}, risingB x l = true → ∀ y ∈ x :: l, ltB y x = false := fun hl y hy => by
    rcases List.mem_cons.1 hy with rfl | hy
    · exact ltB_irrefl _
    · exact ltB_asymm (rising_all hl y hy)
  cases a with
  | nil =>
    cases b with
    | nil => cases h
    | cons y b =>
      obtain rfl : y = e := by rw [nearE] at h; injection h
      obtain ⟨h1, h2⟩ := rising_head hb
      refine ⟨h1, ⟨rfl, by simp⟩, ⟨h2, up h2⟩, ?_, .inr (List.mem_cons_self ..)⟩
      rw [dropE_same]; simp [dropE]
  | cons x a =>
    obtain ⟨h1, h2⟩ := rising_head ha
    cases b with
    | nil =>
      obtain rfl : x = e := by rw [nearE] at h; injection h
      refine ⟨h1, ⟨h2, up h2⟩, ⟨rfl, by simp⟩, ?_, .inl (List.mem_cons_self ..)⟩
      rw [dropE_same]; simp [dropE]
    | cons y b =>
      obtain ⟨h3, h4⟩ := rising_head hb
      cases hxy : ltB x y with
      | true =>
        rw [nearE_lt hxy] at h
        obtain rfl : x = e := by injection h
        refine ⟨h1, ⟨h2, up h2⟩, ⟨h4, fun z hz => leB_trans (ltB_asymm hxy) (up h4 z hz)⟩, ?_, .inl (List.mem_cons_self ..)⟩
        have := dropE_len x (y :: b)
        rw [dropE_same]; simp only [List.length_cons] at this ⊢; omega
      | false =>
        rw [nearE_ge hxy] at h
        obtain rfl : y = e := by injection h
        refine ⟨h3, ⟨h2, fun z hz => leB_trans hxy (up h2 z hz)⟩, ⟨h4, up h4⟩, ?_, .inr (List.mem_cons_self ..)⟩
        have := dropE_len y (x :: a)
        rw [dropE_same]; simp only [List.length_cons] at this ⊢; omega
theorem nearE_none {a b : List (List UInt8)} (h : nearE a b = none) : a = [] ∧ b = [] := by
  cases a with
  | nil => cases b with
    | nil => exact ⟨rfl, rfl⟩
    | cons y b => cases h
  | cons x a => cases b with
    | nil => cases h
    | cons y b => rw [nearE] at h; cases hxy : ltB x y <;> rw [hxy] at h <;> cases h
/-- All edges of both, rising. -/
def mrgE : Nat → List (List UInt8) → List (List UInt8) → List (List UInt8)
  | 0, _, _ => []
  | n + 1, a, b => match nearE a b with
    | none => []
    | some e => e :: mrgE n (dropE e a) (dropE e b)
theorem mrgE_some {n : Nat} {a b : List (List UInt8)} {e : List UInt8} (h : nearE a b = some e) : mrgE (n + 1) a b = e :: mrgE n (dropE e a) (dropE e b) := by rw [mrgE, h]
theorem mrgE_none {n : Nat} {a b : List (List UInt8)} (h : nearE a b = none) : mrgE n a b = [] := by
  cases n with
  | zero => rfl
  | succ n => rw [mrgE, h]
theorem mrgE_rise : ∀ (n : Nat) {c : List UInt8} {a b : List (List UInt8)}, risingB c a = true → risingB c b = true → risingB c (mrgE n a b) = true
  | 0, _, _, _, _, _ => rfl
  | n + 1, c, a, b, ha, hb => by
    cases h : nearE a b with
    | none => rw [mrgE_none h]; rfl
    | some e =>
      obtain ⟨h1, h2, h3, _⟩ := nearE_some ha hb h
      rw [mrgE_some h]
      exact risingB_of h1 (mrgE_rise n h2.drop h3.drop)
theorem mrgE_mem : ∀ (n : Nat) {c : List UInt8} {a b : List (List UInt8)}, risingB c a = true → risingB c b = true → a.length + b.length ≤ n → ∀ x, (x ∈ a ∨ x ∈ b) → x ∈ mrgE n a b
  | 0, _, a, b, _, _, hn, x, hx => by
    have h1 : a = [] := List.length_eq_zero_iff.1 (by omega)
    have h2 : b = [] := List.length_eq_zero_iff.1 (by omega)
    rw [h1, h2] at hx; rcases hx with hx | hx <;> cases hx
  | n + 1, c, a, b, ha, hb, hn, x, hx => by
    cases h : nearE a b with
    | none =>
      obtain ⟨h1, h2⟩ := nearE_none h
      rw [h1, h2] at hx; rcases hx with hx | hx <;> cases hx
    | some e =>
      obtain ⟨_, h2, h3, h4, _⟩ := nearE_some ha hb h
      rw [mrgE_some h]
      by_cases he : x = e
      · subst he; exact List.mem_cons_self ..
      · refine List.mem_cons_of_mem _ (mrgE_mem n h2.drop h3.drop (by omega) x ?_)
        rcases hx with hx | hx
        · exact .inl (mem_dropE hx he)
        · exact .inr (mem_dropE hx he)
theorem mrgE_of : ∀ (n : Nat) {a b : List (List UInt8)} {x : List UInt8}, x ∈ mrgE n a b → x ∈ a ∨ x ∈ b
  | 0, _, _, _, h => by cases h
  | n + 1, a, b, x, h => by
    cases hn : nearE a b with
    | none => rw [mrgE_none hn] at h; cases h
    | some e =>
      rw [mrgE_some hn] at h
      rcases List.mem_cons.1 h with rfl | h
      · cases a with
        | nil => cases b with
          | nil => cases hn
          | cons y b => injection hn with hn; subst hn; exact .inr (List.mem_cons_self ..)
        | cons u a => cases b with
          | nil => injection hn with hn; subst hn; exact .inl (List.mem_cons_self ..)
          | cons y b =>
            cases hu : ltB u y with
            | true => rw [nearE_lt hu] at hn; injection hn with hn; subst hn; exact .inl (List.mem_cons_self ..)
            | false => rw [nearE_ge hu] at hn; injection hn with hn; subst hn; exact .inr (List.mem_cons_self ..)
      · rcases mrgE_of n h with h | h
        · exact .inl (dropE_mem h)
        · exact .inr (dropE_mem h)
/-- What is swept, edge by edge: what is still to come. -/
def restE (n : Nat) (a b : List (List UInt8)) : Option (List UInt8) → List (List UInt8)
  | none => []
  | some e => e :: mrgE n (dropE e a) (dropE e b)
theorem restE_next (n : Nat) (a b : List (List UInt8)) : mrgE (n + 1) a b = restE n a b (nearE a b) := by
  cases hn : nearE a b with
  | none => rw [mrgE_none hn]; rfl
  | some e => rw [mrgE_some hn]; rfl
/-- The swept list is what is meant. -/
theorem sweep_make (op : Int) (a b : List Rng) (f : List UInt8 → Bool) (hf : ∀ s, f s = inV op a b s) (n : Nat) (hn : (edgesR (normV a)).length + (edgesR (normV b)).length ≤ n) :
    mkR f (restE n (edgesR (normV a)) (edgesR (normV b)) (some [])) none = makeV op a b := by
  have ra : rightL (normV a) = true := makeV_right _ _ _
  have rb : rightL (normV b) = true := makeV_right _ _ _
  have fa : FromE [] (edgesR (normV a)) := ⟨edgesR_riseB ra, fun x _ => ltB_nil x⟩
  have fb : FromE [] (edgesR (normV b)) := ⟨edgesR_riseB rb, fun x _ => ltB_nil x⟩
  have hlen : ∀ x ∈ mrgE n (dropE [] (edgesR (normV a))) (dropE [] (edgesR (normV b))), x.length ≤ 17 := fun x hx => by
    rcases mrgE_of n hx with h | h
    · exact edgesR_len17 (rightL_all ra) x (dropE_mem h)
    · exact edgesR_len17 (rightL_all rb) x (dropE_mem h)
  have hmem : ∀ x, (x ∈ edgesR (normV a) ∨ x ∈ edgesR (normV b)) → x ∈ [] :: mrgE n (dropE [] (edgesR (normV a))) (dropE [] (edgesR (normV b))) := fun x hx => by
    by_cases he : x = []
    · rw [he]; exact List.mem_cons_self ..
    · refine List.mem_cons_of_mem _ (mrgE_mem n fa.drop fb.drop ?_ x ?_)
      · have := dropE_len [] (edgesR (normV a)); have := dropE_len [] (edgesR (normV b)); omega
      · rcases hx with hx | hx
        · exact .inl (mem_dropE hx he)
        · exact .inr (mem_dropE hx he)
  have hdet : Det f ([] :: mrgE n (dropE [] (edgesR (normV a))) (dropE [] (edgesR (normV b)))) := fun s c h => by
    rw [hf, hf]
    unfold inV
    rw [← normV_has a s, ← normV_has b s, ← normV_has a c, ← normV_has b c, ← togV_edges ra, ← togV_edges rb, ← togV_edges ra, ← togV_edges rb,
      togV_det (edgesR (normV a)) false fun x hx => h x (hmem x (.inl hx)), togV_det (edgesR (normV b)) false fun x hx => h x (hmem x (.inr hx))]
  obtain ⟨h1, h2⟩ := mkR_all (mrgE_rise n fa.drop fb.drop) hlen hdet
  exact makeV_unique h1 fun s => by
    rw [show restE n (edgesR (normV a)) (edgesR (normV b)) (some []) = [] :: mrgE n (dropE [] (edgesR (normV a))) (dropE [] (edgesR (normV b))) from rfl, h2, hf]; rfl
end Go.Proofs.Ytgoenmgkhdibnaa
