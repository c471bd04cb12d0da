/-
  Plain facts on how the right list of counts is made (layer 13): runs in the order of their beginnings, merged; two lists swept together, edge by edge; the greatest count of a list. No program in this text.
-/
import Derived.Test.YtnfhkmlggajhaaaCntSets
namespace Go.Proofs.Ytnfhkmlggajhaaa

/-! Runs in the order of their beginnings, merged. -/
def gapC (p r : Rn) : Bool := decide (p.to + 1 < r.fr)
def moreC (p r : Rn) : Rn := ⟨p.fr, max p.to r.to⟩
def mergeC : Option Rn → List Rn → List Rn
  | none, [] => []
  | some p, [] => [p]
  | none, r :: l => mergeC (some r) l
  | some p, r :: l => match gapC p r with
    | true => p :: mergeC (some r) l
    | false => mergeC (some (moreC p r)) l
theorem mergeC_gap {p r : Rn} {l : List Rn} (h : gapC p r = true) : mergeC (some p) (r :: l) = p :: mergeC (some r) l := by rw [mergeC, h]
theorem mergeC_more {p r : Rn} {l : List Rn} (h : gapC p r = false) : mergeC (some p) (r :: l) = mergeC (some (moreC p r)) l := by rw [mergeC, h]
def SortedC (l : List Rn) : Prop := l.Pairwise fun a b => a.fr ≤ b.fr
theorem SortedC.from {l : List Rn} (h : SortedC l) (k : Nat) : SortedC (l.drop k) := List.Pairwise.sublist (List.drop_sublist k l) h
theorem gapC_true {p r : Rn} (h : gapC p r = true) : p.to + 1 < r.fr := of_decide_eq_true h
theorem gapC_false {p r : Rn} (h : gapC p r = false) : r.fr ≤ p.to + 1 := by have := of_decide_eq_false h; omega
theorem moreC_right {p r : Rn} (hp : oneC p = true) (hr : oneC r = true) : oneC (moreC p r) = true := by
  have h1 := oneC_iff.1 hp
  have h2 := oneC_iff.1 hr
  refine oneC_iff.2 ⟨h1.1, ?_, ?_⟩
  · show p.fr ≤ max p.to r.to; omega
  · show max p.to r.to ≤ _; omega
theorem moreC_has {p r : Rn} (hp : oneC p = true) (hr : oneC r = true) (h : p.fr ≤ r.fr) (hg : gapC p r = false) (n : Int) : inC (moreC p r) n = (inC p n || inC r n) := by
  have h1 := gapC_false hg
  have h2 := oneC_iff.1 hp
  have h3 := oneC_iff.1 hr
  rw [Bool.eq_iff_iff, Bool.or_eq_true, inC_iff, inC_iff, inC_iff]
  show (oneC (moreC p r) = true ∧ p.fr ≤ n ∧ n ≤ max p.to r.to) ↔ _
  rw [moreC_right hp hr]
  simp only [hp, hr, true_and]
  omega
theorem mergeC_ok : ∀ (l : List Rn) (p : Rn), oneC p = true → (∀ r ∈ l, oneC r = true ∧ p.fr ≤ r.fr) → SortedC l →
    rightC (mergeC (some p) l) = true ∧ (∀ n, hasC (mergeC (some p) l) n = (inC p n || hasC l n)) ∧ ∃ t m, mergeC (some p) l = t :: m ∧ t.fr = p.fr
  | [], p, hp, _, _ => ⟨hp, fun n => rfl, p, [], rfl, rfl⟩
  | r :: l, p, hp, hl, hs => by
    obtain ⟨hr, hlo⟩ := hl r (List.mem_cons_self ..)
    obtain ⟨hs1, hs2⟩ := List.pairwise_cons.1 hs
    have hl' : ∀ t ∈ l, oneC t = true ∧ r.fr ≤ t.fr := fun t ht => ⟨(hl t (List.mem_cons_of_mem _ ht)).1, hs1 t ht⟩
    cases hg : gapC p r with
    | true =>
      obtain ⟨h1, h2, t, m, h3, h4⟩ := mergeC_ok l r hr hl' hs2
      rw [mergeC_gap hg]
      refine ⟨?_, fun n => by rw [hasC_cons, h2, hasC_cons], p, _, rfl, rfl⟩
      rw [h3] at h1 ⊢
      have := gapC_true hg
      unfold rightC
      rw [hp, h1, decide_eq_true (show p.to + 2 ≤ t.fr by omega)]; rfl
    | false =>
      obtain ⟨h1, h2, t, m, h3, h4⟩ := mergeC_ok l (moreC p r) (moreC_right hp hr) (fun t ht => ⟨(hl' t ht).1, by show p.fr ≤ _; have := (hl' t ht).2; omega⟩) hs2
      rw [mergeC_more hg]
      exact ⟨h1, fun n => by rw [h2, moreC_has hp hr hlo hg, hasC_cons, Bool.or_assoc], t, m, h3, h4⟩
theorem mergeC_all {l : List Rn} (hl : ∀ r ∈ l, oneC r = true) (hs : SortedC l) : rightC (mergeC none l) = true ∧ ∀ n, hasC (mergeC none l) n = hasC l n := by
  cases l with
  | nil => exact ⟨rfl, fun _ => rfl⟩
  | cons r l =>
    obtain ⟨hs1, hs2⟩ := List.pairwise_cons.1 hs
    obtain ⟨h1, h2, _⟩ := mergeC_ok l r (hl r (List.mem_cons_self ..)) (fun t ht => ⟨hl t (List.mem_cons_of_mem _ ht), hs1 t ht⟩) hs2
    exact ⟨h1, fun n => by rw [show mergeC none (r :: l) = mergeC (some r) l from rfl, h2, hasC_cons]⟩
/-- The right ones, in some order of their beginnings, merged: the right list of all. -/
theorem mergeC_norm {l m : List Rn} (hp : m.Perm (l.filter oneC)) (hs : SortedC m) : mergeC none m = ofC l := by
  have hm : ∀ r ∈ m, oneC r = true := fun r hr => by have := hp.mem_iff.1 hr; exact (List.mem_filter.1 this).2
  obtain ⟨h1, h2⟩ := mergeC_all hm hs
  refine ofC_unique h1 fun n => ?_
  rw [h2, Bool.eq_iff_iff]
  unfold hasC
  rw [List.any_eq_true, List.any_eq_true]
  constructor
  · rintro ⟨r, hr, h⟩; exact ⟨r, (List.mem_filter.1 (hp.mem_iff.1 hr)).1, h⟩
  · rintro ⟨r, hr, h⟩; exact ⟨r, hp.mem_iff.2 (List.mem_filter.2 ⟨hr, (inC_iff.1 h).1⟩), h⟩
/-- The one that was begun last is right, and begins not behind those to come. -/
def LastC (o : Option Rn) (l : List Rn) : Prop := ∀ p, o = some p → oneC p = true ∧ ∀ t ∈ l, p.fr ≤ t.fr
theorem LastC.none (l : List Rn) : LastC .none l := fun p h => by cases h
theorem LastC.new {r : Rn} {l : List Rn} (hr : oneC r = true) (hs : SortedC (r :: l)) : LastC (some r) l := fun p h => by
  injection h with h; subst h
  exact ⟨hr, (List.pairwise_cons.1 hs).1⟩
theorem LastC.more {p r : Rn} {l : List Rn} (h : LastC (some p) (r :: l)) (hr : oneC r = true) : LastC (some (moreC p r)) l := fun p' h' => by
  injection h' with h'; subst h'
  obtain ⟨h1, h2⟩ := h p rfl
  exact ⟨moreC_right h1 hr, fun t ht => h2 t (List.mem_cons_of_mem _ ht)⟩

/-! The edges of a right list. -/
def edgesI : List Rn → List Int
  | [] => []
  | r :: l => r.fr :: (r.to + 1) :: edgesI l
theorem edgesI_append : ∀ (a b : List Rn), edgesI (a ++ b) = edgesI a ++ edgesI b
  | [], _ => rfl
  | r :: a, b => by rw [List.cons_append, edgesI, edgesI, edgesI_append a b, List.cons_append, List.cons_append]
theorem edgesI_len : ∀ l : List Rn, (edgesI l).length = 2 * l.length
  | [] => rfl
  | r :: l => by rw [edgesI, List.length_cons, List.length_cons, edgesI_len l, List.length_cons]; omega
theorem edgesI_next {m : List Rn} {k : Nat} {r : Rn} (h : m[k]? = some r) : edgesI (m.take (k + 1)) = edgesI (m.take k) ++ [r.fr, r.to + 1] := by
  rw [List.take_add_one, h, edgesI_append]; rfl
theorem edgesI_up : ∀ {l : List Rn} {c : Int}, rightC l = true → (∀ r m, l = r :: m → c < r.fr) → upC c (edgesI l) = true
  | [], _, _, _ => rfl
  | r :: l, c, h, hc => by
    have h1 := hc r l rfl
    have h2 := oneC_iff.1 (rightC_head h)
    rw [edgesI, upC, decide_eq_true h1, Bool.true_and, upC, decide_eq_true (show r.fr < r.to + 1 by omega), Bool.true_and]
    refine edgesI_up (rightC_tail h) fun t m e => ?_
    subst e
    have := rightC_gap h
    omega
theorem edgesI_top : ∀ {l : List Rn}, rightC l = true → ∀ z ∈ edgesI l, z ≤ 1099511627777
  | [], _, z, hz => by cases hz
  | r :: l, h, z, hz => by
    have h2 := oneC_iff.1 (rightC_head h)
    rw [edgesI] at hz
    rcases List.mem_cons.1 hz with rfl | hz
    · omega
    · rcases List.mem_cons.1 hz with rfl | hz
      · omega
      · exact edgesI_top (rightC_tail h) z hz
/-- Is a count in, by the edges at which that turns? -/
def togI : Bool → List Int → Int → Bool
  | v, [], _ => v
  | v, x :: l, n => match decide (n < x) with | true => v | false => togI (!v) l n
theorem togI_low {v : Bool} {x n : Int} {l : List Int} (h : n < x) : togI v (x :: l) n = v := by rw [togI, decide_eq_true h]
theorem togI_high {v : Bool} {x n : Int} {l : List Int} (h : ¬ n < x) : togI v (x :: l) n = togI (!v) l n := by rw [togI, decide_eq_false h]
theorem togI_edges : ∀ {l : List Rn}, rightC l = true → ∀ n, togI false (edgesI l) n = hasC l n
  | [], _, n => rfl
  | r :: l, h, n => by
    have h2 := oneC_iff.1 (rightC_head h)
    rw [edgesI]
    by_cases h1 : n < r.fr
    · rw [togI_low h1]
      cases hh : hasC (r :: l) n with
      | false => rfl
      | true => have := hasC_least h hh; omega
    · rw [togI_high h1]
      by_cases h3 : n < r.to + 1
      · rw [togI_low h3, hasC_first h (by omega) (by omega)]; rfl
      · rw [togI_high h3, show (!!false) = false from rfl, togI_edges (rightC_tail h), hasC_tail h n, decide_eq_true (show r.to < n by omega), Bool.and_true]
/-- What is left of edges behind one that may be the first of them. -/
def dropI (e : Int) : List Int → List Int
  | [] => []
  | x :: l => match decide (x = e) with | true => l | false => x :: l
/-- .. and whether a count is in from there on. -/
def passI (e : Int) (v : Bool) : List Int → Bool
  | [] => v
  | x :: _ => match decide (x = e) with | true => !v | false => v
theorem dropI_same {e : Int} {l : List Int} : dropI e (e :: l) = l := by rw [dropI, decide_eq_true rfl]
theorem dropI_other {e x : Int} {l : List Int} (h : x ≠ e) : dropI e (x :: l) = x :: l := by rw [dropI, decide_eq_false h]
theorem passI_same {e : Int} {v : Bool} {l : List Int} : passI e v (e :: l) = !v := by rw [passI, decide_eq_true rfl]
theorem passI_other {e x : Int} {v : Bool} {l : List Int} (h : x ≠ e) : passI e v (x :: l) = v := by rw [passI, decide_eq_false h]
theorem dropI_len (e : Int) (l : List Int) : (dropI e l).length ≤ l.length := by
  cases l with
  | nil => exact Nat.le_refl _
  | cons x l =>
    by_cases h : x = e
    · subst h; rw [dropI_same]; simp
    · rw [dropI_other h]; exact Nat.le_refl _
theorem dropI_mem {e x : Int} {l : List Int} (h : x ∈ dropI e l) : x ∈ l := by
  cases l with
  | nil => cases h
  | cons y l =>
    by_cases hy : y = e
    · subst hy; rw [dropI_same] at h; exact List.mem_cons_of_mem _ h
    · rw [dropI_other hy] at h; exact h
/-- What is known of edges from a count on, behind one that is none ahead of their first. -/
theorem dropI_ok {c e : Int} {l : List Int} {v : Bool} (h : upC c l = true) (hc : c < e) (he : ∀ x m, l = x :: m → e ≤ x) :
    upC e (dropI e l) = true ∧ (∀ n, e ≤ n → togI (passI e v l) (dropI e l) n = togI v l n) ∧ (∀ n, n < e → togI v l n = v) := by
  cases l with
  | nil => exact ⟨rfl, fun _ _ => rfl, fun _ _ => rfl⟩
  | cons x l =>
    obtain ⟨h1, h2⟩ := upC_head h
    have h3 := he x l rfl
    refine ⟨?_, fun n hn => ?_, fun n hn => togI_low (by omega)⟩
    · by_cases hx : x = e
      · subst hx; rw [dropI_same]; exact h2
      · rw [dropI_other hx]; unfold upC; rw [h2, decide_eq_true (show e < x by omega)]; rfl
    · by_cases hx : x = e
      · subst hx; rw [dropI_same, passI_same, togI_high (by omega)]
      · rw [dropI_other hx, passI_other hx]
/-- At the edge itself. -/
theorem passI_at {e : Int} {l : List Int} {v : Bool} (h : upC e (dropI e l) = true) (ht : ∀ n, e ≤ n → togI (passI e v l) (dropI e l) n = togI v l n) : passI e v l = togI v l e := by
  rw [← ht e (Int.le_refl _)]
  cases hd : dropI e l with
  | nil => rfl
  | cons x m => rw [hd] at h; rw [togI_low (upC_head h).1]
/-- The next edge of both. -/
def nearI : List Int → List Int → Option Int
  | [], [] => none
  | [], y :: _ => some y
  | x :: _, [] => some x
  | x :: _, y :: _ => some (min x y)
theorem nearI_none {a b : List Int} (h : nearI a b = none) : a = [] ∧ b = [] := by
  cases a with
  | nil => cases b with
    | nil => exact ⟨rfl, rfl⟩
    | cons y b => cases h
  | cons x a => cases b with
    | nil => cases h
    | cons y b => cases h
theorem nearI_some {c e : Int} {a b : List Int} (ha : upC c a = true) (hb : upC c b = true) (h : nearI a b = some e) :
    c < e ∧ (∀ x m, a = x :: m → e ≤ x) ∧ (∀ y m, b = y :: m → e ≤ y) ∧ (dropI e a).length + (dropI e b).length < a.length + b.length ∧ (e ∈ a ∨ e ∈ b) := by
  cases a with
  | nil =>
    cases b with
    | nil => cases h
    | cons y b =>
      obtain rfl : y = e := by rw [nearI] at h; injection h
      refine ⟨(upC_head hb).1, (fun x m h => by cases h), (fun y' m h => by injection h with h; omega), ?_, .inr (List.mem_cons_self ..)⟩
      rw [dropI_same]; simp [dropI]
  | cons x a =>
    have h1 := (upC_head ha).1
    cases b with
    | nil =>
      obtain rfl : x = e := by rw [nearI] at h; injection h
      refine ⟨h1, (fun x' m h => by injection h with h; omega), (fun y m h => by cases h), ?_, .inl (List.mem_cons_self ..)⟩
      rw [dropI_same]; simp [dropI]
    | cons y b =>
      have h3 := (upC_head hb).1
      obtain rfl : min x y = e := by rw [nearI] at h; injection h
      refine ⟨by omega, (fun x' m h => by injection h with h; omega), (fun y' m h => by injection h with h; omega), ?_, ?_⟩
      · have d1 := dropI_len (min x y) (x :: a)
        have d2 := dropI_len (min x y) (y :: b)
        by_cases hxy : x ≤ y
        · rw [show min x y = x by omega] at d2 ⊢
          rw [dropI_same]; simp only [List.length_cons] at *; omega
        · rw [show min x y = y by omega] at d1 ⊢
          rw [dropI_same]; simp only [List.length_cons] at *; omega
      · by_cases hxy : x ≤ y
        · rw [show min x y = x by omega]; exact .inl (List.mem_cons_self ..)
        · rw [show min x y = y by omega]; exact .inr (List.mem_cons_self ..)

/-! The sweep. -/
def inO : Option Int → Int → Bool
  | none, _ => false
  | some lo, n => decide (lo ≤ n)
def LowC (c : Int) (dn : List Rn) : Option Int → Prop
  | none => ∀ r ∈ dn, r.to < c
  | some lo => 1 ≤ lo ∧ lo ≤ c ∧ ∀ r ∈ dn, r.to + 2 ≤ lo
/-- What holds behind an edge c of both lists. -/
structure SwC (kf : Bool → Bool → Bool) (a b : List Rn) (c : Int) (x : Bool) (ea : List Int) (y : Bool) (eb : List Int) (dn : List Rn) (o : Option Int) : Prop where
  c0 : 0 ≤ c
  ua : upC c ea = true
  ub : upC c eb = true
  la : ∀ z ∈ ea, z ≤ 1099511627777
  lb : ∀ z ∈ eb, z ≤ 1099511627777
  ha : ∀ n, c ≤ n → togI x ea n = hasC a n
  hb : ∀ n, c ≤ n → togI y eb n = hasC b n
  rd : rightC dn = true
  low : LowC c dn o
  has : ∀ n, n ≤ c → kf (hasC a n) (hasC b n) = (hasC dn n || inO o n)
theorem hasC_zero (l : List Rn) {n : Int} (h : n ≤ 0) : hasC l n = false := by
  cases e : hasC l n with
  | false => rfl
  | true => have := hasC_range e; omega
theorem SwC.start {kf : Bool → Bool → Bool} (hk : kf false false = false) (a b : List Rn) : SwC kf a b 0 false (edgesI (ofC a)) false (edgesI (ofC b)) [] none where
  c0 := Int.le_refl _
  ua := edgesI_up (ofC_right a) fun r m e => by have := ofC_right a; rw [e] at this; have := oneC_iff.1 (rightC_head this); omega
  ub := edgesI_up (ofC_right b) fun r m e => by have := ofC_right b; rw [e] at this; have := oneC_iff.1 (rightC_head this); omega
  la := edgesI_top (ofC_right a)
  lb := edgesI_top (ofC_right b)
  ha := fun n _ => by rw [togI_edges (ofC_right a), ofC_has]
  hb := fun n _ => by rw [togI_edges (ofC_right b), ofC_has]
  rd := rfl
  low := fun r hr => by cases hr
  has := fun n hn => by rw [hasC_zero a hn, hasC_zero b hn, hk]; rfl
/-- What is told at an edge: what is done, and what stands open. -/
def stepD (e : Int) (v : Bool) (dn : List Rn) : Option Int → List Rn
  | none => dn
  | some lo => match v with | true => dn | false => dn ++ [⟨lo, e - 1⟩]
def stepO (e : Int) (v : Bool) : Option Int → Option Int
  | none => match v with | true => some e | false => none
  | some lo => match v with | true => some lo | false => none
theorem hasC_none {l : List Rn} {n : Int} (h : ∀ r ∈ l, r.to < n) : hasC l n = false := by
  unfold hasC
  rw [List.any_eq_false]
  intro r hr
  cases hi : inC r n with
  | false => simp
  | true => have := (inC_iff.1 hi).2.2; have := h r hr; omega
theorem rightC_snoc : ∀ {l : List Rn} {r : Rn}, rightC l = true → oneC r = true → (∀ t ∈ l, t.to + 2 ≤ r.fr) → rightC (l ++ [r]) = true
  | [], r, _, hr, _ => hr
  | [t], r, hl, hr, h => by
    show (oneC t && decide (t.to + 2 ≤ r.fr) && rightC [r]) = true
    rw [show oneC t = true from hl, decide_eq_true (h t (List.mem_cons_self ..)), show rightC [r] = true from hr]; rfl
  | t :: u :: l, r, hl, hr, h => by
    show (oneC t && decide (t.to + 2 ≤ u.fr) && rightC ((u :: l) ++ [r])) = true
    rw [rightC_head hl, decide_eq_true (rightC_gap hl), rightC_snoc (rightC_tail hl) hr fun t' ht' => h t' (List.mem_cons_of_mem _ ht')]; rfl
theorem SwC.step {kf : Bool → Bool → Bool} {a b : List Rn} {c : Int} {x : Bool} {ea : List Int} {y : Bool} {eb : List Int} {dn : List Rn} {o : Option Int} (h : SwC kf a b c x ea y eb dn o) {e : Int} (he : nearI ea eb = some e) :
    SwC kf a b e (passI e x ea) (dropI e ea) (passI e y eb) (dropI e eb) (stepD e (kf (passI e x ea) (passI e y eb)) dn o) (stepO e (kf (passI e x ea) (passI e y eb)) o) ∧ (dropI e ea).length + (dropI e eb).length < ea.length + eb.length ∧ 1 ≤ e ∧ e ≤ 1099511627777 := by
  obtain ⟨k1, k2, k3, k4, k5⟩ := nearI_some h.ua h.ub he
  obtain ⟨a1, a2, a3⟩ := dropI_ok (v := x) h.ua k1 k2
  obtain ⟨b1, b2, b3⟩ := dropI_ok (v := y) h.ub k1 k3
  have hc0 := h.c0
  have he1 : e ≤ 1099511627777 := by
    rcases k5 with k5 | k5
    · exact h.la _ k5
    · exact h.lb _ k5
  have pa : passI e x ea = hasC a e := by rw [passI_at a1 a2, h.ha e (by omega)]
  have pb : passI e y eb = hasC b e := by rw [passI_at b1 b2, h.hb e (by omega)]
  have ca : ∀ n, c ≤ n → n < e → hasC a n = hasC a c := fun n h1 h2 => by rw [← h.ha n h1, ← h.ha c (Int.le_refl _), a3 n h2, a3 c k1]
  have cb : ∀ n, c ≤ n → n < e → hasC b n = hasC b c := fun n h1 h2 => by rw [← h.hb n h1, ← h.hb c (Int.le_refl _), b3 n h2, b3 c k1]
  have hfc := h.has c (Int.le_refl _)
  have hlow := h.low
  refine ⟨?_, k4, by omega, he1⟩
  obtain ⟨v, hv⟩ : ∃ v, kf (passI e x ea) (passI e y eb) = v := ⟨_, rfl⟩
  rw [hv]
  have hv' : kf (hasC a e) (hasC b e) = v := by rw [← pa, ← pb, hv]
  have main : rightC (stepD e v dn o) = true ∧ LowC e (stepD e v dn o) (stepO e v o) ∧ ∀ n, n ≤ e → kf (hasC a n) (hasC b n) = (hasC (stepD e v dn o) n || inO (stepO e v o) n) := by
    cases o with
    | none =>
      have hlow : ∀ r ∈ dn, r.to < c := hlow
      have hz : ∀ n, c ≤ n → hasC dn n = false := fun n hn => hasC_none fun r hr => by have := hlow r hr; omega
      have hf : kf (hasC a c) (hasC b c) = false := by rw [hfc, hz c (Int.le_refl _)]; rfl
      cases v with
      | false =>
        refine ⟨h.rd, fun r hr => by have := hlow r hr; omega, fun n hn => ?_⟩
        show _ = (hasC dn n || false)
        by_cases h1 : n ≤ c
        · exact h.has n h1
        · rw [hz n (by omega)]
          by_cases h2 : n = e
          · rw [h2, hv']; rfl
          · rw [ca n (by omega) (by omega), cb n (by omega) (by omega), hf]; rfl
      | true =>
        refine ⟨h.rd, ⟨by omega, Int.le_refl _, fun r hr => by have := hlow r hr; omega⟩, fun n hn => ?_⟩
        show _ = (hasC dn n || decide (e ≤ n))
        by_cases h1 : n ≤ c
        · rw [decide_eq_false (by omega)]; exact h.has n h1
        · rw [hz n (by omega)]
          by_cases h2 : n = e
          · rw [h2, hv', decide_eq_true (Int.le_refl _)]; rfl
          · rw [ca n (by omega) (by omega), cb n (by omega) (by omega), hf, decide_eq_false (by omega)]; rfl
    | some lo =>
      have hlow : 1 ≤ lo ∧ lo ≤ c ∧ ∀ r ∈ dn, r.to + 2 ≤ lo := hlow
      obtain ⟨l1, l2, l3⟩ := hlow
      have hz : ∀ n, lo ≤ n → hasC dn n = false := fun n hn => hasC_none fun r hr => by have := l3 r hr; omega
      have hf : kf (hasC a c) (hasC b c) = true := by rw [hfc]; show (hasC dn c || decide (lo ≤ c)) = true; rw [decide_eq_true l2, Bool.or_true]
      cases v with
      | true =>
        refine ⟨h.rd, ⟨l1, by omega, l3⟩, fun n hn => ?_⟩
        show _ = (hasC dn n || decide (lo ≤ n))
        by_cases h1 : n ≤ c
        · exact h.has n h1
        · rw [decide_eq_true (show lo ≤ n by omega), Bool.or_true]
          by_cases h2 : n = e
          · rw [h2, hv']
          · rw [ca n (by omega) (by omega), cb n (by omega) (by omega), hf]
      | false =>
        have hone : oneC ⟨lo, e - 1⟩ = true := oneC_iff.2 ⟨l1, by show lo ≤ e - 1; omega, by show e - 1 ≤ _; omega⟩
        refine ⟨rightC_snoc h.rd hone l3, fun r hr => ?_, fun n hn => ?_⟩
        · rcases List.mem_append.1 hr with hr | hr
          · have := l3 r hr; omega
          · rw [List.mem_singleton.1 hr]; show e - 1 < e; omega
        · show _ = (hasC (dn ++ [⟨lo, e - 1⟩]) n || false)
          have hi : inC ⟨lo, e - 1⟩ n = (decide (lo ≤ n) && decide (n ≤ e - 1)) := by unfold inC; rw [hone, Bool.true_and]
          rw [hasC_append, hasC_cons, hasC_nil, Bool.or_false, Bool.or_false, hi]
          by_cases h2 : n = e
          · rw [h2, hv', hz e (by omega), decide_eq_false (show ¬ e ≤ e - 1 by omega), Bool.and_false]; rfl
          · rw [decide_eq_true (show n ≤ e - 1 by omega), Bool.and_true]
            by_cases h1 : n ≤ c
            · exact h.has n h1
            · rw [decide_eq_true (show lo ≤ n by omega), Bool.or_true, ca n (by omega) (by omega), cb n (by omega) (by omega), hf]
  exact ⟨by omega, a1, b1, fun z hz => h.la z (dropI_mem hz), fun z hz => h.lb z (dropI_mem hz), fun n hn => by rw [a2 n hn, h.ha n (by omega)], fun n hn => by rw [b2 n hn, h.hb n (by omega)], main.1, main.2.1, main.2.2⟩
theorem SwC.fin {kf : Bool → Bool → Bool} (hk : kf false false = false) {a b : List Rn} {c : Int} {x : Bool} {ea : List Int} {y : Bool} {eb : List Int} {dn : List Rn} {o : Option Int} (h : SwC kf a b c x ea y eb dn o) (he : nearI ea eb = none) (op : Int) (hop : ∀ n, kf (hasC a n) (hasC b n) = isC op a b n) : o = none ∧ dn = makeC op a b := by
  obtain ⟨rfl, rfl⟩ := nearI_none he
  have ha : ∀ n, c ≤ n → hasC a n = false := fun n hn => by
    rw [← h.ha n hn, show togI x [] n = togI x [] (n + 1099511627777) from rfl, h.ha _ (by omega)]
    cases e : hasC a (n + 1099511627777) with
    | false => rfl
    | true => have := hasC_range e; have := h.c0; omega
  have hb : ∀ n, c ≤ n → hasC b n = false := fun n hn => by
    rw [← h.hb n hn, show togI y [] n = togI y [] (n + 1099511627777) from rfl, h.hb _ (by omega)]
    cases e : hasC b (n + 1099511627777) with
    | false => rfl
    | true => have := hasC_range e; have := h.c0; omega
  have hc := h.has c (Int.le_refl _)
  rw [ha c (Int.le_refl _), hb c (Int.le_refl _), hk] at hc
  have hlow := h.low
  cases o with
  | some lo =>
    exfalso
    have hlow : 1 ≤ lo ∧ lo ≤ c ∧ ∀ r ∈ dn, r.to + 2 ≤ lo := hlow
    rw [show inO (some lo) c = decide (lo ≤ c) from rfl, decide_eq_true hlow.2.1, Bool.or_true] at hc
    cases hc
  | none =>
    have hlow : ∀ r ∈ dn, r.to < c := hlow
    refine ⟨rfl, makeC_unique h.rd fun n => ?_⟩
    show _ = isC op a b n
    rw [← hop]
    by_cases h1 : n ≤ c
    · rw [h.has n h1]; show _ = (_ || false); rw [Bool.or_false]
    · rw [ha n (by omega), hb n (by omega), hk]
      exact hasC_none fun r hr => by have := hlow r hr; omega

/-! The greatest count. -/
def topC : Int → List Rn → Int
  | m, [] => m
  | m, r :: l => topC (match oneC r with | true => max m r.to | false => m) l
theorem topC_ok : ∀ (l : List Rn) (m : Int), m ≤ topC m l ∧ (∀ n, hasC l n = true → n ≤ topC m l) ∧ (topC m l = m ∨ hasC l (topC m l) = true)
  | [], m => ⟨Int.le_refl _, (fun n h => by cases h), .inl rfl⟩
  | r :: l, m => by
    cases hr : oneC r with
    | false =>
      obtain ⟨h1, h2, h3⟩ := topC_ok l m
      rw [show topC m (r :: l) = topC m l by rw [topC, hr]]
      have hi : ∀ n, inC r n = false := fun n => by unfold inC; rw [hr]; rfl
      refine ⟨h1, fun n hn => h2 n ?_, h3.imp id fun h => ?_⟩
      · rw [hasC_cons, hi, Bool.false_or] at hn; exact hn
      · rw [hasC_cons, hi, Bool.false_or]; exact h
    | true =>
      obtain ⟨h1, h2, h3⟩ := topC_ok l (max m r.to)
      rw [show topC m (r :: l) = topC (max m r.to) l by rw [topC, hr]]
      refine ⟨by omega, fun n hn => ?_, ?_⟩
      · rw [hasC_cons, Bool.or_eq_true] at hn
        rcases hn with hn | hn
        · have := (inC_iff.1 hn).2.2; omega
        · exact h2 n hn
      · rcases h3 with h3 | h3
        · by_cases h4 : m ≤ r.to
          · refine .inr ?_
            rw [h3, show max m r.to = r.to by omega, hasC_cons, inC_iff.2 ⟨hr, (oneC_iff.1 hr).2.1, Int.le_refl _⟩]; rfl
          · exact .inl (by omega)
        · exact .inr (by rw [hasC_cons, h3, Bool.or_true])
theorem topC_most (l : List Rn) : topC 0 l = mostC l := by
  obtain ⟨h1, h2, h3⟩ := topC_ok l 0
  obtain ⟨m1, m2, m3, _⟩ := most_ok l
  by_cases h4 : 0 < mostC l
  · have := h2 _ (m2 h4)
    rcases h3 with h3 | h3
    · omega
    · have := m1 _ h3; omega
  · rcases h3 with h3 | h3
    · omega
    · have := m1 _ h3; omega
theorem topC_range {l : List Rn} {m : Int} (h0 : 0 ≤ m) (h1 : m ≤ 1099511627776) : 0 ≤ topC m l ∧ topC m l ≤ 1099511627776 := by
  obtain ⟨h2, _, h3⟩ := topC_ok l m
  rcases h3 with h3 | h3
  · omega
  · have := hasC_range h3; omega
theorem topC_take {l : List Rn} {k : Nat} {r : Rn} (h : l[k]? = some r) (m : Int) : topC m (l.take (k + 1)) = (match oneC r with | true => max (topC m (l.take k)) r.to | false => topC m (l.take k)) := by
  have ap : ∀ (a : List Rn) (m : Int) (r : Rn), topC m (a ++ [r]) = (match oneC r with | true => max (topC m a) r.to | false => topC m a) := by
    intro a
    induction a with
    | nil => intro m r; cases hr : oneC r <;> simp [topC, hr]
    | cons t a ih => intro m r; rw [List.cons_append, topC, ih, topC]
  rw [List.take_add_one, h]
  exact ap _ m r

/-! How many. -/
theorem rightC_take : ∀ {l : List Rn} (k : Nat), rightC l = true → rightC (l.take k) = true
  | [], k, h => by simp [rightC]
  | r :: l, 0, h => rfl
  | [r], k + 1, h => by rw [List.take_succ_cons, List.take_nil]; exact h
  | r :: t :: l, 1, h => by exact rightC_head h
  | r :: t :: l, k + 2, h => by
    have := rightC_take (k + 1) (rightC_tail h)
    rw [List.take_succ_cons] at this
    rw [List.take_succ_cons, List.take_succ_cons]
    unfold rightC
    rw [rightC_head h, decide_eq_true (rightC_gap h), this]; rfl
theorem sumC_range {l : List Rn} (h : rightC l = true) : 0 ≤ sumC l ∧ sumC l ≤ 1099511627776 := by
  obtain ⟨k, hk⟩ : ∃ k : Nat, (k : Int) = 1099511627776 := ⟨1099511627776, rfl⟩
  rw [sum_card h hk]
  have := card_bounds (hasC l) k
  omega
theorem sumC_append : ∀ (a b : List Rn), sumC (a ++ b) = sumC a + sumC b
  | [], b => by show _ = 0 + _; rw [Int.zero_add]; rfl
  | r :: a, b => by rw [List.cons_append, sumC, sumC, sumC_append a b]; omega
theorem sumC_take {l : List Rn} {k : Nat} {r : Rn} (h : l[k]? = some r) : sumC (l.take (k + 1)) = sumC (l.take k) + (r.to - r.fr + 1) := by
  rw [List.take_add_one, h, sumC_append]
  show _ + ((r.to - r.fr + 1) + 0) = _
  omega
theorem baseC_first (l : List Rn) : baseC l = (match ofC l with | [] => 0 | r :: _ => match decide (r.fr > 1) with | true => 0 | false => r.to) := by
  unfold baseC
  cases h : ofC l with
  | nil => rfl
  | cons r u =>
    have h1 := ofC_right l
    rw [h] at h1
    have h2 := oneC_iff.1 (rightC_head h1)
    show (match decide (r.fr = 1) with | true => r.to | false => 0) = (match decide (r.fr > 1) with | true => 0 | false => r.to)
    by_cases h3 : r.fr = 1
    · rw [decide_eq_true h3, decide_eq_false (show ¬ r.fr > 1 by omega)]
    · rw [decide_eq_false h3, decide_eq_true (show r.fr > 1 by omega)]
end Go.Proofs.Ytnfhkmlggajhaaa
