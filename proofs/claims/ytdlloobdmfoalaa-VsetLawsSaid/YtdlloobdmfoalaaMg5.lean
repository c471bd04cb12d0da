/-
  Several texts in one: CntMrg, RnAt, CntF, VstN, RowsG, VstI, VstMrg, Step, VstJ, VstO, Law13A, Law13B.
-/
import Derived.Deep.RegionLaw
import Derived.Deep.DeepCutAuto
import Derived.Test.YtdlloobdmfoalaaMg4
/-
  Plain facts on how the right list of counts is made (layer 13): runs in the order of their beginnings, merged; two lists swept together, edge by edge; the greatest count of a list. No program in this text.
-/
namespace Go.Proofs.Ytdlloobdmfoalaa

/-! Runs in the order of their beginnings, merged. -/
def gapC (p r : Rn) : Bool := decide (p.to + 1 < r.fr)
def moreC (p r : Rn) : Rn := ⟨p.fr, max p.to r.to⟩
def mergeC : Option Rn → List Rn → List Rn
  | none, [] => []
  | some p, [] => [p]
  | none, r :: l => mergeC (some r) l
  | some p, r :: l => match gapC p r with
    | true => p :: mergeC (some r) l
    | false => mergeC (some (moreC p r)) l
theorem mergeC_gap {p r : Rn} {l : List Rn} (h : gapC p r = true) : mergeC (some p) (r :: l) = p :: mergeC (some r) l := by rw [mergeC, h]
theorem mergeC_more {p r : Rn} {l : List Rn} (h : gapC p r = false) : mergeC (some p) (r :: l) = mergeC (some (moreC p r)) l := by rw [mergeC, h]
def SortedC (l : List Rn) : Prop := l.Pairwise fun a b => a.fr ≤ b.fr
theorem SortedC.from {l : List Rn} (h : SortedC l) (k : Nat) : SortedC (l.drop k) := List.Pairwise.sublist (List.drop_sublist k l) h
theorem gapC_true {p r : Rn} (h : gapC p r = true) : p.to + 1 < r.fr := of_decide_eq_true h
theorem gapC_false {p r : Rn} (h : gapC p r = false) : r.fr ≤ p.to + 1 := by have := of_decide_eq_false h; omega
theorem moreC_right {p r : Rn} (hp : oneC p = true) (hr : oneC r = true) : oneC (moreC p r) = true := by
  have h1 := oneC_iff.1 hp
  have h2 := oneC_iff.1 hr
  refine oneC_iff.2 ⟨h1.1, ?_, ?_⟩
  · show p.fr ≤ max p.to r.to; omega
  · show max p.to r.to ≤ _; omega
theorem moreC_has {p r : Rn} (hp : oneC p = true) (hr : oneC r = true) (h : p.fr ≤ r.fr) (hg : gapC p r = false) (n : Int) : inC (moreC p r) n = (inC p n || inC r n) := by
  have h1 := gapC_false hg
  have h2 := oneC_iff.1 hp
  have h3 := oneC_iff.1 hr
  rw [Bool.eq_iff_iff, Bool.or_eq_true, inC_iff, inC_iff, inC_iff]
  show (oneC (moreC p r) = true ∧ p.fr ≤ n ∧ n ≤ max p.to r.to) ↔ _
  rw [moreC_right hp hr]
  simp only [hp, hr, true_and]
  omega
theorem mergeC_ok : ∀ (l : List Rn) (p : Rn), oneC p = true → (∀ r ∈ l, oneC r = true ∧ p.fr ≤ r.fr) → SortedC l →
    rightC (mergeC (some p) l) = true ∧ (∀ n, hasC (mergeC (some p) l) n = (inC p n || hasC l n)) ∧ ∃ t m, mergeC (some p) l = t :: m ∧ t.fr = p.fr
  | [], p, hp, _, _ => ⟨hp, fun n => rfl, p, [], rfl, rfl⟩
  | r :: l, p, hp, hl, hs => by
    obtain ⟨hr, hlo⟩ := hl r (List.mem_cons_self ..)
    obtain ⟨hs1, hs2⟩ := List.pairwise_cons.1 hs
    have hl' : ∀ t ∈ l, oneC t = true ∧ r.fr ≤ t.fr := fun t ht => ⟨(hl t (List.mem_cons_of_mem _ ht)).1, hs1 t ht⟩
    cases hg : gapC p r with
    | true =>
      obtain ⟨h1, h2, t, m, h3, h4⟩ := mergeC_ok l r hr hl' hs2
      rw [mergeC_gap hg]
      refine ⟨?_, fun n => by rw [hasC_cons, h2, hasC_cons], p, _, rfl, rfl⟩
      rw [h3] at h1 ⊢
      have := gapC_true hg
      unfold rightC
      rw [hp, h1, decide_eq_true (show p.to + 2 ≤ t.fr by omega)]; rfl
    | false =>
      obtain ⟨h1, h2, t, m, h3, h4⟩ := mergeC_ok l (moreC p r) (moreC_right hp hr) (fun t ht => ⟨(hl' t ht).1, by show p.fr ≤ _; have := (hl' t ht).2; omega⟩) hs2
      rw [mergeC_more hg]
      exact ⟨h1, fun n => by rw [h2, moreC_has hp hr hlo hg, hasC_cons, Bool.or_assoc], t, m, h3, h4⟩
theorem mergeC_all {l : List Rn} (hl : ∀ r ∈ l, oneC r = true) (hs : SortedC l) : rightC (mergeC none l) = true ∧ ∀ n, hasC (mergeC none l) n = hasC l n := by
  cases l with
  | nil => exact ⟨rfl, fun _ => rfl⟩
  | cons r l =>
    obtain ⟨hs1, hs2⟩ := List.pairwise_cons.1 hs
    obtain ⟨h1, h2, _⟩ := mergeC_ok l r (hl r (List.mem_cons_self ..)) (fun t ht => ⟨hl t (List.mem_cons_of_mem _ ht), hs1 t ht⟩) hs2
    exact ⟨h1, fun n => by rw [show mergeC none (r :: l) = mergeC (some r) l from rfl, h2, hasC_cons]⟩
/-- The right ones, in some order of their beginnings, merged: the right list of all. -/
theorem mergeC_norm {l m : List Rn} (hp : m.Perm (l.filter oneC)) (hs : SortedC m) : mergeC none m = ofC l := by
  have hm : ∀ r ∈ m, oneC r = true := fun r hr => by have := hp.mem_iff.1 hr; exact (List.mem_filter.1 this).2
  obtain ⟨h1, h2⟩ := mergeC_all hm hs
  refine ofC_unique h1 fun n => ?_
  rw [h2, Bool.eq_iff_iff]
  unfold hasC
  rw [List.any_eq_true, List.any_eq_true]
  constructor
  · rintro ⟨r, hr, h⟩; exact ⟨r, (List.mem_filter.1 (hp.mem_iff.1 hr)).1, h⟩
  · rintro ⟨r, hr, h⟩; exact ⟨r, hp.mem_iff.2 (List.mem_filter.2 ⟨hr, (inC_iff.1 h).1⟩), h⟩
/-- The one that was begun last is right, and begins not behind those to come. -/
def LastC (o : Option Rn) (l : List Rn) : Prop := ∀ p, o = some p → oneC p = true ∧ ∀ t ∈ l, p.fr ≤ t.fr
theorem LastC.none (l : List Rn) : LastC .none l := fun p h => by cases h
theorem LastC.new {r : Rn} {l : List Rn} (hr : oneC r = true) (hs : SortedC (r :: l)) : LastC (some r) l := fun p h => by
  injection h with h; subst h
  exact ⟨hr, (List.pairwise_cons.1 hs).1⟩
theorem LastC.more {p r : Rn} {l : List Rn} (h : LastC (some p) (r :: l)) (hr : oneC r = true) : LastC (some (moreC p r)) l := fun p' h' => by
  injection h' with h'; subst h'
  obtain ⟨h1, h2⟩ := h p rfl
  exact ⟨moreC_right h1 hr, fun t ht => h2 t (List.mem_cons_of_mem _ ht)⟩

/-! The edges of a right list. -/
def edgesI : List Rn → List Int
  | [] => []
  | r :: l => r.fr :: (r.to + 1) :: edgesI l
theorem edgesI_append : ∀ (a b : List Rn), edgesI (a ++ b) = edgesI a ++ edgesI b
  | [], _ => rfl
  | r :: a, b => by rw [List.cons_append, edgesI, edgesI, edgesI_append a b, List.cons_append, List.cons_append]
theorem edgesI_len : ∀ l : List Rn, (edgesI l).length = 2 * l.length
  | [] => rfl
  | r :: l => by rw [edgesI, List.length_cons, List.length_cons, edgesI_len l, List.length_cons]; omega
theorem edgesI_next {m : List Rn} {k : Nat} {r : Rn} (h : m[k]? = some r) : edgesI (m.take (k + 1)) = edgesI (m.take k) ++ [r.fr, r.to + 1] := by
  rw [List.take_add_one, h, edgesI_append]; rfl
theorem edgesI_up : ∀ {l : List Rn} {c : Int}, rightC l = true → (∀ r m, l = r :: m → c < r.fr) → upC c (edgesI l) = true
  | [], _, _, _ => rfl
  | r :: l, c, h, hc => by
    have h1 := hc r l rfl
    have h2 := oneC_iff.1 (rightC_head h)
    rw [edgesI, upC, decide_eq_true h1, Bool.true_and, upC, decide_eq_true (show r.fr < r.to + 1 by omega), Bool.true_and]
    refine edgesI_up (rightC_tail h) fun t m e => ?_
    subst e
    have := rightC_gap h
    omega
theorem edgesI_top : ∀ {l : List Rn}, rightC l = true → ∀ z ∈ edgesI l, z ≤ 1099511627777
  | [], _, z, hz => by cases hz
  | r :: l, h, z, hz => by
    have h2 := oneC_iff.1 (rightC_head h)
    rw [edgesI] at hz
    rcases List.mem_cons.1 hz with rfl | hz
    · omega
    · rcases List.mem_cons.1 hz with rfl | hz
      · omega
      · exact edgesI_top (rightC_tail h) z hz
/-- Is a count in, by the edges at which that turns? -/
def togI : Bool → List Int → Int → Bool
  | v, [], _ => v
  | v, x :: l, n => match decide (n < x) with | true => v | false => togI (!v) l n
theorem togI_low {v : Bool} {x n : Int} {l : List Int} (h : n < x) : togI v (x :: l) n = v := by rw [togI, decide_eq_true h]
theorem togI_high {v : Bool} {x n : Int} {l : List Int} (h : ¬ n < x) : togI v (x :: l) n = togI (!v) l n := by rw [togI, decide_eq_false h]
theorem togI_edges : ∀ {l : List Rn}, rightC l = true → ∀ n, togI false (edgesI l) n = hasC l n
  | [], _, n => rfl
  | r :: l, h, n => by
    have h2 := oneC_iff.1 (rightC_head h)
    rw [edgesI]
    by_cases h1 : n < r.fr
    · rw [togI_low h1]
      cases hh : hasC (r :: l) n with
      | false => rfl
      | true => have := hasC_least h hh; omega
    · rw [togI_high h1]
      by_cases h3 : n < r.to + 1
      · rw [togI_low h3, hasC_first h (by omega) (by omega)]; rfl
      · rw [togI_high h3, show (!!false) = false from rfl, togI_edges (rightC_tail h), hasC_tail h n, decide_eq_true (show r.to < n by omega), Bool.and_true]
/-- What is left of edges behind one that may be the first of them. -/
def dropI (e : Int) : List Int → List Int
  | [] => []
  | x :: l => match decide (x = e) with | true => l | false => x :: l
/-- .. and whether a count is in from there on. -/
def passI (e : Int) (v : Bool) : List Int → Bool
  | [] => v
  | x :: _ => match decide (x = e) with | true => !v | false => v
theorem dropI_same {e : Int} {l : List Int} : dropI e (e :: l) = l := by rw [dropI, decide_eq_true rfl]
theorem dropI_other {e x : Int} {l : List Int} (h : x ≠ e) : dropI e (x :: l) = x :: l := by rw [dropI, decide_eq_false h]
theorem passI_same {e : Int} {v : Bool} {l : List Int} : passI e v (e :: l) = !v := by rw [passI, decide_eq_true rfl]
theorem passI_other {e x : Int} {v : Bool} {l : List Int} (h : x ≠ e) : passI e v (x :: l) = v := by rw [passI, decide_eq_false h]
theorem dropI_len (e : Int) (l : List Int) : (dropI e l).length ≤ l.length := by
  cases l with
  | nil => exact Nat.le_refl _
  | cons x l =>
    by_cases h : x = e
    · subst h; rw [dropI_same]; simp
    · rw [dropI_other h]; exact Nat.le_refl _
theorem dropI_mem {e x : Int} {l : List Int} (h : x ∈ dropI e l) : x ∈ l := by
  cases l with
  | nil => cases h
  | cons y l =>
    by_cases hy : y = e
    · subst hy; rw [dropI_same] at h; exact List.mem_cons_of_mem _ h
    · rw [dropI_other hy] at h; exact h
/-- What is known of edges from a count on, behind one that is none ahead of their first. -/
theorem dropI_ok {c e : Int} {l : List Int} {v : Bool} (h : upC c l = true) (hc : c < e) (he : ∀ x m, l = x :: m → e ≤ x) :
    upC e (dropI e l) = true ∧ (∀ n, e ≤ n → togI (passI e v l) (dropI e l) n = togI v l n) ∧ (∀ n, n < e → togI v l n = v) := by
  cases l with
  | nil => exact ⟨rfl, fun _ _ => rfl, fun _ _ => rfl⟩
  | cons x l =>
    obtain ⟨h1, h2⟩ := upC_head h
    have h3 := he x l rfl
    refine ⟨?_, fun n hn => ?_, fun n hn => togI_low (by omega)⟩
    · by_cases hx : x = e
      · subst hx; rw [dropI_same]; exact h2
      · rw [dropI_other hx]; unfold upC; rw [h2, decide_eq_true (show e < x by omega)]; rfl
    · by_cases hx : x = e
      · subst hx; rw [dropI_same, passI_same, togI_high (by omega)]
      · rw [dropI_other hx, passI_other hx]
/-- At the edge itself. -/
theorem passI_at {e : Int} {l : List Int} {v : Bool} (h : upC e (dropI e l) = true) (ht : ∀ n, e ≤ n → togI (passI e v l) (dropI e l) n = togI v l n) : passI e v l = togI v l e := by
  rw [← ht e (Int.le_refl _)]
  cases hd : dropI e l with
  | nil => rfl
  | cons x m => rw [hd] at h; rw [togI_low (upC_head h).1]
/-- The next edge of both. -/
def nearI : List Int → List Int → Option Int
  | [], [] => none
  | [], y :: _ => some y
  | x :: _, [] => some x
  | x :: _, y :: _ => some (min x y)
theorem nearI_none {a b : List Int} (h : nearI a b = none) : a = [] ∧ b = [] := by
  cases a with
  | nil => cases b with
    | nil => exact ⟨rfl, rfl⟩
    | cons y b => cases h
  | cons x a => cases b with
    | nil => cases h
    | cons y b => cases h
theorem nearI_some {c e : Int} {a b : List Int} (ha : upC c a = true) (hb : upC c b = true) (h : nearI a b = some e) :
    c < e ∧ (∀ x m, a = x :: m → e ≤ x) ∧ (∀ y m, b = y :: m → e ≤ y) ∧ (dropI e a).length + (dropI e b).length < a.length + b.length ∧ (e ∈ a ∨ e ∈ b) := by
  cases a with
  | nil =>
    cases b with
    | nil => cases h
    | cons y b =>
      obtain rfl : y = e := by rw [nearI] at h; injection h
      refine ⟨(upC_head hb).1, (fun x m h => by cases h), (fun y' m h => by injection h with h; omega), ?_, .inr (List.mem_cons_self ..)⟩
      rw [dropI_same]; simp [dropI]
  | cons x a =>
    have h1 := (upC_head ha).1
    cases b with
    | nil =>
      obtain rfl : x = e := by rw [nearI] at h; injection h
      refine ⟨h1, (fun x' m h => by injection h with h; omega), (fun y m h => by cases h), ?_, .inl (List.mem_cons_self ..)⟩
      rw [dropI_same]; simp [dropI]
    | cons y b =>
      have h3 := (upC_head hb).1
      obtain rfl : min x y = e := by rw [nearI] at h; injection h
      refine ⟨by omega, (fun x' m h => by injection h with h; omega), (fun y' m h => by injection h with h; omega), ?_, ?_⟩
      · have d1 := dropI_len (min x y) (x :: a)
        have d2 := dropI_len (min x y) (y :: b)
        by_cases hxy : x ≤ y
        · rw [show min x y = x by omega] at d2 ⊢
          rw [dropI_same]; simp only [List.length_cons] at *; omega
        · rw [show min x y = y by omega] at d1 ⊢
          rw [dropI_same]; simp only [List.length_cons] at *; omega
      · by_cases hxy : x ≤ y
        · rw [show min x y = x by omega]; exact .inl (List.mem_cons_self ..)
        · rw [show min x y = y by omega]; exact .inr (List.mem_cons_self ..)

/-! The sweep. -/
def inO : Option Int → Int → Bool
  | none, _ => false
  | some lo, n => decide (lo ≤ n)
def LowC (c : Int) (dn : List Rn) : Option Int → Prop
  | none => ∀ r ∈ dn, r.to < c
  | some lo => 1 ≤ lo ∧ lo ≤ c ∧ ∀ r ∈ dn, r.to + 2 ≤ lo
/-- What holds behind an edge c of both lists. -/
structure SwC (kf : Bool → Bool → Bool) (a b : List Rn) (c : Int) (x : Bool) (ea : List Int) (y : Bool) (eb : List Int) (dn : List Rn) (o : Option Int) : Prop where
  c0 : 0 ≤ c
  ua : upC c ea = true
  ub : upC c eb = true
  la : ∀ z ∈ ea, z ≤ 1099511627777
  lb : ∀ z ∈ eb, z ≤ 1099511627777
  ha : ∀ n, c ≤ n → togI x ea n = hasC a n
  hb : ∀ n, c ≤ n → togI y eb n = hasC b n
  rd : rightC dn = true
  low : LowC c dn o
  has : ∀ n, n ≤ c → kf (hasC a n) (hasC b n) = (hasC dn n || inO o n)
theorem hasC_zero (l : List Rn) {n : Int} (h : n ≤ 0) : hasC l n = false := by
  cases e : hasC l n with
  | false => rfl
  | true => have := hasC_range e; omega
theorem SwC.start {kf : Bool → Bool → Bool} (hk : kf false false = false) (a b : List Rn) : SwC kf a b 0 false (edgesI (ofC a)) false (edgesI (ofC b)) [] none where
  c0 := Int.le_refl _
  ua := edgesI_up (ofC_right a) fun r m e => by have := ofC_right a; rw [e] at this; have := oneC_iff.1 (rightC_head this); omega
  ub := edgesI_up (ofC_right b) fun r m e => by have := ofC_right b; rw [e] at this; have := oneC_iff.1 (rightC_head this); omega
  la := edgesI_top (ofC_right a)
  lb := edgesI_top (ofC_right b)
  ha := fun n _ => by rw [togI_edges (ofC_right a), ofC_has]
  hb := fun n _ => by rw [togI_edges (ofC_right b), ofC_has]
  rd := rfl
  low := fun r hr => by cases hr
  has := fun n hn => by rw [hasC_zero a hn, hasC_zero b hn, hk]; rfl
/-- What is told at an edge: what is done, and what stands open. -/
def stepD (e : Int) (v : Bool) (dn : List Rn) : Option Int → List Rn
  | none => dn
  | some lo => match v with | true => dn | false => dn ++ [⟨lo, e - 1⟩]
def stepO (e : Int) (v : Bool) : Option Int → Option Int
  | none => match v with | true => some e | false => none
  | some lo => match v with | true => some lo | false => none
theorem hasC_none {l : List Rn} {n : Int} (h : ∀ r ∈ l, r.to < n) : hasC l n = false := by
  unfold hasC
  rw [List.any_eq_false]
  intro r hr
  cases hi : inC r n with
  | false => simp
  | true => have := (inC_iff.1 hi).2.2; have := h r hr; omega
theorem rightC_snoc : ∀ {l : List Rn} {r : Rn}, rightC l = true → oneC r = true → (∀ t ∈ l, t.to + 2 ≤ r.fr) → rightC (l ++ [r]) = true
  | [], r, _, hr, _ => hr
  | [t], r, hl, hr, h => by
    show (oneC t && decide (t.to + 2 ≤ r.fr) && rightC [r]) = true
    rw [show oneC t = true from hl, decide_eq_true (h t (List.mem_cons_self ..)), show rightC [r] = true from hr]; rfl
  | t :: u :: l, r, hl, hr, h => by
    show (oneC t && decide (t.to + 2 ≤ u.fr) && rightC ((u :: l) ++ [r])) = true
    rw [rightC_head hl, decide_eq_true (rightC_gap hl), rightC_snoc (rightC_tail hl) hr fun t' ht' => h t' (List.mem_cons_of_mem _ ht')]; rfl
theorem SwC.step {kf : Bool → Bool → Bool} {a b : List Rn} {c : Int} {x : Bool} {ea : List Int} {y : Bool} {eb : List Int} {dn : List Rn} {o : Option Int} (h : SwC kf a b c x ea y eb dn o) {e : Int} (he : nearI ea eb = some e) :
    SwC kf a b e (passI e x ea) (dropI e ea) (passI e y eb) (dropI e eb) (stepD e (kf (passI e x ea) (passI e y eb)) dn o) (stepO e (kf (passI e x ea) (passI e y eb)) o) ∧ (dropI e ea).length + (dropI e eb).length < ea.length + eb.length ∧ 1 ≤ e ∧ e ≤ 1099511627777 := by
  obtain ⟨k1, k2, k3, k4, k5⟩ := nearI_some h.ua h.ub he
  obtain ⟨a1, a2, a3⟩ := dropI_ok (v := x) h.ua k1 k2
  obtain ⟨b1, b2, b3⟩ := dropI_ok (v := y) h.ub k1 k3
  have hc0 := h.c0
  have he1 : e ≤ 1099511627777 := by
    rcases k5 with k5 | k5
    · exact h.la _ k5
    · exact h.lb _ k5
  have pa : passI e x ea = hasC a e := by rw [passI_at a1 a2, h.ha e (by omega)]
  have pb : passI e y eb = hasC b e := by rw [passI_at b1 b2, h.hb e (by omega)]
  have ca : ∀ n, c ≤ n → n < e → hasC a n = hasC a c := fun n h1 h2 => by rw [← h.ha n h1, ← h.ha c (Int.le_refl _), a3 n h2, a3 c k1]
  have cb : ∀ n, c ≤ n → n < e → hasC b n = hasC b c := fun n h1 h2 => by rw [← h.hb n h1, ← h.hb c (Int.le_refl _), b3 n h2, b3 c k1]
  have hfc := h.has c (Int.le_refl _)
  have hlow := h.low
  refine ⟨?_, k4, by omega, he1⟩
  obtain ⟨v, hv⟩ : ∃ v, kf (passI e x ea) (passI e y eb) = v := ⟨_, rfl⟩
  rw [hv]
  have hv' : kf (hasC a e) (hasC b e) = v := by rw [← pa, ← pb, hv]
  have main : rightC (stepD e v dn o) = true ∧ LowC e (stepD e v dn o) (stepO e v o) ∧ ∀ n, n ≤ e → kf (hasC a n) (hasC b n) = (hasC (stepD e v dn o) n || inO (stepO e v o) n) := by
    cases o with
    | none =>
      have hlow : ∀ r ∈ dn, r.to < c := hlow
      have hz : ∀ n, c ≤ n → hasC dn n = false := fun n hn => hasC_none fun r hr => by have := hlow r hr; omega
      have hf : kf (hasC a c) (hasC b c) = false := by rw [hfc, hz c (Int.le_refl _)]; rfl
      cases v with
      | false =>
        refine ⟨h.rd, fun r hr => by have := hlow r hr; omega, fun n hn => ?_⟩
        show _ = (hasC dn n || false)
        by_cases h1 : n ≤ c
        · exact h.has n h1
        · rw [hz n (by omega)]
          by_cases h2 : n = e
          · rw [h2, hv']; rfl
          · rw [ca n (by omega) (by omega), cb n (by omega) (by omega), hf]; rfl
      | true =>
        refine ⟨h.rd, ⟨by omega, Int.le_refl _, fun r hr => by have := hlow r hr; omega⟩, fun n hn => ?_⟩
        show _ = (hasC dn n || decide (e ≤ n))
        by_cases h1 : n ≤ c
        · rw [decide_eq_false (by omega)]; exact h.has n h1
        · rw [hz n (by omega)]
          by_cases h2 : n = e
          · rw [h2, hv', decide_eq_true (Int.le_refl _)]; rfl
          · rw [ca n (by omega) (by omega), cb n (by omega) (by omega), hf, decide_eq_false (by omega)]; rfl
    | some lo =>
      have hlow : 1 ≤ lo ∧ lo ≤ c ∧ ∀ r ∈ dn, r.to + 2 ≤ lo := hlow
      obtain ⟨l1, l2, l3⟩ := hlow
      have hz : ∀ n, lo ≤ n → hasC dn n = false := fun n hn => hasC_none fun r hr => by have := l3 r hr; omega
      have hf : kf (hasC a c) (hasC b c) = true := by rw [hfc]; show (hasC dn c || decide (lo ≤ c)) = true; rw [decide_eq_true l2, Bool.or_true]
      cases v with
      | true =>
        refine ⟨h.rd, ⟨l1, by omega, l3⟩, fun n hn => ?_⟩
        show _ = (hasC dn n || decide (lo ≤ n))
        by_cases h1 : n ≤ c
        · exact h.has n h1
        · rw [decide_eq_true (show lo ≤ n by omega), Bool.or_true]
          by_cases h2 : n = e
          · rw [h2, hv']
          · rw [ca n (by omega) (by omega), cb n (by omega) (by omega), hf]
      | false =>
        have hone : oneC ⟨lo, e - 1⟩ = true := oneC_iff.2 ⟨l1, by show lo ≤ e - 1; omega, by show e - 1 ≤ _; omega⟩
        refine ⟨rightC_snoc h.rd hone l3, fun r hr => ?_, fun n hn => ?_⟩
        · rcases List.mem_append.1 hr with hr | hr
          · have := l3 r hr; omega
          · rw [List.mem_singleton.1 hr]; show e - 1 < e; omega
        · show _ = (hasC (dn ++ [⟨lo, e - 1⟩]) n || false)
          have hi : inC ⟨lo, e - 1⟩ n = (decide (lo ≤ n) && decide (n ≤ e - 1)) := by unfold inC; rw [hone, Bool.true_and]
          rw [hasC_append, hasC_cons, hasC_nil, Bool.or_false, Bool.or_false, hi]
          by_cases h2 : n = e
          · rw [h2, hv', hz e (by omega), decide_eq_false (show ¬ e ≤ e - 1 by omega), Bool.and_false]; rfl
          · rw [decide_eq_true (show n ≤ e - 1 by omega), Bool.and_true]
            by_cases h1 : n ≤ c
            · exact h.has n h1
            · rw [decide_eq_true (show lo ≤ n by omega), Bool.or_true, ca n (by omega) (by omega), cb n (by omega) (by omega), hf]
  exact ⟨by omega, a1, b1, fun z hz => h.la z (dropI_mem hz), fun z hz => h.lb z (dropI_mem hz), fun n hn => by rw [a2 n hn, h.ha n (by omega)], fun n hn => by rw [b2 n hn, h.hb n (by omega)], main.1, main.2.1, main.2.2⟩
theorem SwC.fin {kf : Bool → Bool → Bool} (hk : kf false false = false) {a b : List Rn} {c : Int} {x : Bool} {ea : List Int} {y : Bool} {eb : List Int} {dn : List Rn} {o : Option Int} (h : SwC kf a b c x ea y eb dn o) (he : nearI ea eb = none) (op : Int) (hop : ∀ n, kf (hasC a n) (hasC b n) = isC op a b n) : o = none ∧ dn = makeC op a b := by
  obtain ⟨rfl, rfl⟩ := nearI_none he
  have ha : ∀ n, c ≤ n → hasC a n = false := fun n hn => by
    rw [← h.ha n hn, show togI x [] n = togI x [] (n + 1099511627777) from rfl, h.ha _ (by omega)]
    cases e : hasC a (n + 1099511627777) with
    | false => rfl
    | true => have := hasC_range e; have := h.c0; omega
  have hb : ∀ n, c ≤ n → hasC b n = false := fun n hn => by
    rw [← h.hb n hn, show togI y [] n = togI y [] (n + 1099511627777) from rfl, h.hb _ (by omega)]
    cases e : hasC b (n + 1099511627777) with
    | false => rfl
    | true => have := hasC_range e; have := h.c0; omega
  have hc := h.has c (Int.le_refl _)
  rw [ha c (Int.le_refl _), hb c (Int.le_refl _), hk] at hc
  have hlow := h.low
  cases o with
  | some lo =>
    exfalso
    have hlow : 1 ≤ lo ∧ lo ≤ c ∧ ∀ r ∈ dn, r.to + 2 ≤ lo := hlow
    rw [show inO (some lo) c = decide (lo ≤ c) from rfl, decide_eq_true hlow.2.1, Bool.or_true] at hc
    cases hc
  | none =>
    have hlow : ∀ r ∈ dn, r.to < c := hlow
    refine ⟨rfl, makeC_unique h.rd fun n => ?_⟩
    show _ = isC op a b n
    rw [← hop]
    by_cases h1 : n ≤ c
    · rw [h.has n h1]; show _ = (_ || false); rw [Bool.or_false]
    · rw [ha n (by omega), hb n (by omega), hk]
      exact hasC_none fun r hr => by have := hlow r hr; omega

/-! The greatest count. -/
def topC : Int → List Rn → Int
  | m, [] => m
  | m, r :: l => topC (match oneC r with | true => max m r.to | false => m) l
theorem topC_ok : ∀ (l : List Rn) (m : Int), m ≤ topC m l ∧ (∀ n, hasC l n = true → n ≤ topC m l) ∧ (topC m l = m ∨ hasC l (topC m l) = true)
  | [], m => ⟨Int.le_refl _, (fun n h => by cases h), .inl rfl⟩
  | r :: l, m => by
    cases hr : oneC r with
    | false =>
      obtain ⟨h1, h2, h3⟩ := topC_ok l m
      rw [show topC m (r :: l) = topC m l by rw [topC, hr]]
      have hi : ∀ n, inC r n = false := fun n => by unfold inC; rw [hr]; rfl
      refine ⟨h1, fun n hn => h2 n ?_, h3.imp id fun h => ?_⟩
      · rw [hasC_cons, hi, Bool.false_or] at hn; exact hn
      · rw [hasC_cons, hi, Bool.false_or]; exact h
    | true =>
      obtain ⟨h1, h2, h3⟩ := topC_ok l (max m r.to)
      rw [show topC m (r :: l) = topC (max m r.to) l by rw [topC, hr]]
      refine ⟨by omega, fun n hn => ?_, ?_⟩
      · rw [hasC_cons, Bool.or_eq_true] at hn
        rcases hn with hn | hn
        · have := (inC_iff.1 hn).2.2; omega
        · exact h2 n hn
      · rcases h3 with h3 | h3
        · by_cases h4 : m ≤ r.to
          · refine .inr ?_
            rw [h3, show max m r.to = r.to by omega, hasC_cons, inC_iff.2 ⟨hr, (oneC_iff.1 hr).2.1, Int.le_refl _⟩]; rfl
          · exact .inl (by omega)
        · exact .inr (by rw [hasC_cons, h3, Bool.or_true])
theorem topC_most (l : List Rn) : topC 0 l = mostC l := by
  obtain ⟨h1, h2, h3⟩ := topC_ok l 0
  obtain ⟨m1, m2, m3, _⟩ := most_ok l
  by_cases h4 : 0 < mostC l
  · have := h2 _ (m2 h4)
    rcases h3 with h3 | h3
    · omega
    · have := m1 _ h3; omega
  · rcases h3 with h3 | h3
    · omega
    · have := m1 _ h3; omega
theorem topC_range {l : List Rn} {m : Int} (h0 : 0 ≤ m) (h1 : m ≤ 1099511627776) : 0 ≤ topC m l ∧ topC m l ≤ 1099511627776 := by
  obtain ⟨h2, _, h3⟩ := topC_ok l m
  rcases h3 with h3 | h3
  · omega
  · have := hasC_range h3; omega
theorem topC_take {l : List Rn} {k : Nat} {r : Rn} (h : l[k]? = some r) (m : Int) : topC m (l.take (k + 1)) = (match oneC r with | true => max (topC m (l.take k)) r.to | false => topC m (l.take k)) := by
  have ap : ∀ (a : List Rn) (m : Int) (r : Rn), topC m (a ++ [r]) = (match oneC r with | true => max (topC m a) r.to | false => topC m a) := by
    intro a
    induction a with
    | nil => intro m r; cases hr : oneC r <;> simp [topC, hr]
    | cons t a ih => intro m r; rw [List.cons_append, topC, ih, topC]
  rw [List.take_add_one, h]
  exact ap _ m r

/-! How many. -/
theorem rightC_take : ∀ {l : List Rn} (k : Nat), rightC l = true → rightC (l.take k) = true
  | [], k, h => by simp [rightC]
  | r :: l, 0, h => rfl
  | [r], k + 1, h => by rw [List.take_succ_cons, List.take_nil]; exact h
  | r :: t :: l, 1, h => by exact rightC_head h
  | r :: t :: l, k + 2, h => by
    have := rightC_take (k + 1) (rightC_tail h)
    rw [List.take_succ_cons] at this
    rw [List.take_succ_cons, List.take_succ_cons]
    unfold rightC
    rw [rightC_head h, decide_eq_true (rightC_gap h), this]; rfl
theorem sumC_range {l : List Rn} (h : rightC l = true) : 0 ≤ sumC l ∧ sumC l ≤ 1099511627776 := by
  obtain ⟨k, hk⟩ : ∃ k : Nat, (k : Int) = 1099511627776 := ⟨1099511627776, rfl⟩
  rw [sum_card h hk]
  have := card_bounds (hasC l) k
  omega
theorem sumC_append : ∀ (a b : List Rn), sumC (a ++ b) = sumC a + sumC b
  | [], b => by show _ = 0 + _; rw [Int.zero_add]; rfl
  | r :: a, b => by rw [List.cons_append, sumC, sumC, sumC_append a b]; omega
theorem sumC_take {l : List Rn} {k : Nat} {r : Rn} (h : l[k]? = some r) : sumC (l.take (k + 1)) = sumC (l.take k) + (r.to - r.fr + 1) := by
  rw [List.take_add_one, h, sumC_append]
  show _ + ((r.to - r.fr + 1) + 0) = _
  omega
theorem baseC_first (l : List Rn) : baseC l = (match ofC l with | [] => 0 | r :: _ => match decide (r.fr > 1) with | true => 0 | false => r.to) := by
  unfold baseC
  cases h : ofC l with
  | nil => rfl
  | cons r u =>
    have h1 := ofC_right l
    rw [h] at h1
    have h2 := oneC_iff.1 (rightC_head h1)
    show (match decide (r.fr = 1) with | true => r.to | false => 0) = (match decide (r.fr > 1) with | true => 0 | false => r.to)
    by_cases h3 : r.fr = 1
    · rw [decide_eq_true h3, decide_eq_false (show ¬ r.fr > 1 by omega)]
    · rw [decide_eq_false h3, decide_eq_true (show r.fr > 1 by omega)]
end Go.Proofs.Ytdlloobdmfoalaa

/-
  A run in a block.
-/
namespace Go.Proofs.Ytdlloobdmfoalaa
open Go.RowKit

/-- A run in a block. -/
def RnAt (w : World) (g : Nat) (X Y : Int) : Prop := w.cell? ⟨g, 0, none⟩ = some (.int .i64 X) ∧ w.cell? ⟨g, 1, none⟩ = some (.int .i64 Y) ∧ ∀ k, w.frozen? ⟨g, k, none⟩ = false
theorem RnAt.lt {w : World} {g : Nat} {X Y : Int} (h : RnAt w g X Y) : g < w.heap.size := World.block_lt_of_cell? w _ h.1
theorem RnAt.below {w w' : World} {g : Nat} {X Y : Int} (h : RnAt w g X Y) (hb : Below w.heap.size w w') : RnAt w' g X Y := by
  obtain ⟨hc, hf⟩ := bcell hb
  have hl := h.lt
  exact ⟨(hc _ _ hl).trans h.1, (hc _ _ hl).trans h.2.1, fun k => (hf _ _ hl).trans (h.2.2 k)⟩
theorem rnAt_new (w : World) (X Y : Int) (t : TypeId) : RnAt (w.alloc (.cells #[.int .i64 X, .int .i64 Y] t)) w.heap.size X Y := by
  have h := heap_new w (.cells #[.int .i64 X, .int .i64 Y] t) _ rfl
  refine ⟨?_, ?_, fun k => ?_⟩
  · rw [cell_of_row _ _ _ _ _ _ h]; rfl
  · rw [cell_of_row _ _ _ _ _ _ h]; rfl
  · unfold World.frozen?; rw [h]; simp
theorem RnAt.grown {w w' : World} {row : Option Nat} {g : Nat} {X Y : Int} (h : RnAt w g X Y) (hg : w.grownBy w' row) (hne : some g ≠ row) : RnAt w' g X Y :=
  ⟨hg.cell h.1 hne, hg.cell h.2.1 hne, fun k => (hg.frozen_far ⟨g, k, none⟩ h.lt hne).trans (h.2.2 k)⟩
end Go.Proofs.Ytdlloobdmfoalaa

/-
  Layer 13 (counts), the program: is a run right, is there a count between two, has a list a count, is a list right.
-/
namespace Go.Proofs.Ytdlloobdmfoalaa
open Go.RowKit

theorem cn_one (r : Rn) (x y : Int) (hx : r.fr = x) (hy : r.to = y) (z : Bool) (hz : oneC r = z) (w : World) :
    Calls Try.prog 56 #[.agg #[.int .i64 x, .int .i64 y]] w fun e w' => e = .returned (.bool z) ∧ Below w.heap.size w w' := by
  unfold oneC at hz
  rw [hx, hy] at hz
  have HB := Lib.hid (below_new w (.cells #[.int .i64 x, .int .i64 y] 45))
  obtain ⟨b1, h1⟩ : ∃ b, decide (1 ≤ x) = b := ⟨_, rfl⟩
  obtain ⟨b2, h2⟩ : ∃ b, decide (x ≤ y) = b := ⟨_, rfl⟩
  obtain ⟨b3, h3⟩ : ∃ b, decide (y ≤ 1099511627776) = b := ⟨_, rfl⟩
  rw [h1, h2, h3] at hz
  subst hz
  clear hx hy
  cases b1
  case' true =>
    cases b2
    case' true =>
      cases b3
  all_goals
    go_enter Try.func56, Try.ntmps56
    go_wp2_with fail
    go_ret
    exact ⟨rfl, HB.out⟩
theorem cn_apart (p r : Rn) (a b c d : Int) (hb : p.to = b) (hc : r.fr = c) (h1 : oneC p = true) (v : Bool) (hv : gapC p r = v) (w : World) :
    Calls Try.prog 58 #[.agg #[.int .i64 a, .int .i64 b], .agg #[.int .i64 c, .int .i64 d]] w fun e w' => e = .returned (.bool v) ∧ Below w.heap.size w w' := by
  have h2 := oneC_iff.1 h1
  have HB := Lib.hid ((below_new w (.cells #[.int .i64 a, .int .i64 b] 45)).alloc (by simp) (.cells #[.int .i64 c, .int .i64 d] 45))
  have hw : IntKind.i64.wrap (b + 1) = b + 1 := IntWalk.i64_in _ (by omega)
  unfold gapC at hv
  rw [hb, hc] at hv
  clear hb hc h1 h2
  go_enter Try.func58, Try.ntmps58
  cases v
  all_goals
    go_wp2_with fail
    go_ret
    exact ⟨rfl, HB.out⟩
set_option maxHeartbeats 2000000 in
theorem cn_has (A : Option Addr) (c n : Nat) (l : List Rn) (x : Int) (hn : n = l.length) (v : Bool) (hv : hasC l x = v) (w : World) (hr : kRn.Rd w w.heap.size A c l) :
    Calls Try.prog 34 #[.slice A n c, .int .i64 x] w fun e w' => e = .returned (.bool v) ∧ Below w.heap.size w w' := by
  have HN := Lib.hid hn
  have HR := Lib.hid hr
  have HV := Lib.hid hv
  have hmx := rd_maxC hr hn
  have hcx : n ≤ c := by rw [hn]; exact hr.room
  clear hn hr hv
  go_enter Try.func34, Try.ntmps34
  go_wp2_with fail
  go_loopw [9] (fun i wr => ∃ k : Nat, k ≤ n ∧ Hid (hasC l x = hasC (l.drop k) x) ∧ i = .int .i64 k ∧ Below w.heap.size w wr) (fun i _ => n - (intOf i).toNat)
  case atStart => exact ⟨0, by omega, rfl, rfl, Below.refl _ _⟩
  case round =>
    obtain ⟨k, hk, HL, rfl, hb⟩ := hrel
    by_cases hlt : k < n
    · obtain ⟨r, hg, hd, -⟩ := cnt_get (l := l) (k := k) (by have := HN.out; omega)
      obtain ⟨b, o, rfl, hb1, hcell⟩ := rns_at (HR.out.below hb) (by have := HN.out; omega)
      obtain ⟨c0, c1⟩ := hcell k r hg
      have hb2 := Nat.lt_of_lt_of_le hb1 hb.size
      obtain ⟨z, hz⟩ : ∃ z, oneC r = z := ⟨_, rfl⟩
      have C := fun w => Lib.hid (cn_one r _ _ rfl rfl z hz w)
      have HL2 := Lib.hid (HL.out.trans (show hasC (l.drop k) x = ((z && (decide (r.fr ≤ x) && decide (x ≤ r.to))) || hasC (l.drop (k + 1)) x) by rw [hd, hasC_cons, inC, hz]))
      obtain ⟨X, hX⟩ : ∃ X, r.fr = X := ⟨_, rfl⟩
      obtain ⟨Y, hY⟩ : ∃ Y, r.to = Y := ⟨_, rfl⟩
      rw [hX, hY] at C HL2
      rw [hX] at c0
      rw [hY] at c1
      obtain ⟨b1, h1⟩ : ∃ b, decide (X ≤ x) = b := ⟨_, rfl⟩
      obtain ⟨b2, h2⟩ : ∃ b, decide (x ≤ Y) = b := ⟨_, rfl⟩
      rw [h1, h2] at HL2
      have HG := Lib.hid (rnAt_new wr X Y 45)
      have HB1 := Lib.hid (hb.alloc hb.size (.cells #[.int .i64 X, .int .i64 Y] 45))
      clear hcell hg hd hX hY hz HL
      cases z
      · go_wp2_with ((with_reducible refine (C _).out.mono ?_); rintro e w2 ⟨rfl, hq⟩; have HB2 := Lib.hid (HB1.out.trans (hq.mono HB1.out.size)); obtain ⟨g0, g1, g2⟩ := HG.out.below hq; clear hq)
        go_roundw
        case rel => exact ⟨k + 1, by omega, HL2, by go_num, HB2.out⟩
        case measure => simp [intOf]; omega
      · cases b1
        · go_wp2_with ((with_reducible refine (C _).out.mono ?_); rintro e w2 ⟨rfl, hq⟩; have HB2 := Lib.hid (HB1.out.trans (hq.mono HB1.out.size)); obtain ⟨g0, g1, g2⟩ := HG.out.below hq; clear hq)
          go_roundw
          case rel => exact ⟨k + 1, by omega, HL2, by go_num, HB2.out⟩
          case measure => simp [intOf]; omega
        · cases b2
          · go_wp2_with ((with_reducible refine (C _).out.mono ?_); rintro e w2 ⟨rfl, hq⟩; have HB2 := Lib.hid (HB1.out.trans (hq.mono HB1.out.size)); obtain ⟨g0, g1, g2⟩ := HG.out.below hq; clear hq)
            go_roundw
            case rel => exact ⟨k + 1, by omega, HL2, by go_num, HB2.out⟩
            case measure => simp [intOf]; omega
          · go_wp2_with ((with_reducible refine (C _).out.mono ?_); rintro e w2 ⟨rfl, hq⟩; have HB2 := Lib.hid (HB1.out.trans (hq.mono HB1.out.size)); obtain ⟨g0, g1, g2⟩ := HG.out.below hq; clear hq)
            go_ret
            exact ⟨ret_bool (HL2.out.symm.trans HV.out), HB2.out⟩
    · have HL2 := Lib.hid (HL.out.trans (show hasC (l.drop k) x = false by rw [List.drop_eq_nil_of_le (by have := HN.out; omega)]; rfl))
      go_wp2_with fail
      go_ret
      exact ⟨ret_bool (HL2.out.symm.trans HV.out), hb⟩
theorem gapC_two (p r : Rn) : decide (p.to + 2 ≤ r.fr) = gapC p r := decide_eq_decide.2 (by omega)
set_option maxHeartbeats 1000000 in
theorem cn_right (A : Option Addr) (c n : Nat) (l : List Rn) (hn : n = l.length) (v : Bool) (hv : rightC l = v) (w : World) (hr : kRn.Rd w w.heap.size A c l) :
    Calls Try.prog 53 #[.slice A n c] w fun e w' => e = .returned (.bool v) ∧ Below w.heap.size w w' := by
  have HN := Lib.hid hn
  have HR := Lib.hid hr
  have hmx := rd_maxC hr hn
  have hcx : n ≤ c := by rw [hn]; exact hr.room
  subst hv
  clear hn hr
  go_enter Try.func53, Try.ntmps53
  go_wp2_with fail
  go_loopw [7] (fun i wr => ∃ k : Nat, k ≤ n ∧ i = .int .i64 k ∧ Hid (k = 0 ∨ ∃ j p, k = j + 1 ∧ l[j]? = some p ∧ oneC p = true ∧ rightC l = contC p (l.drop k)) ∧ Below w.heap.size w wr) (fun i _ => n - (intOf i).toNat)
  case atStart => exact ⟨0, by omega, rfl, .inl rfl, Below.refl _ _⟩
  case round =>
    obtain ⟨k, hk, rfl, HL, hb⟩ := hrel
    by_cases hlt : k < n
    · obtain ⟨r, hg, hd, -⟩ := cnt_get (l := l) (k := k) (by have := HN.out; omega)
      have HR1 := Lib.hid (HR.out.below hb)
      obtain ⟨b, o, rfl, hb1, hcell⟩ := rns_at HR1.out (by have := HN.out; omega)
      obtain ⟨c0, c1⟩ := hcell k r hg
      obtain ⟨d, hdv⟩ : ∃ d, oneC r = d := ⟨_, rfl⟩
      have C := fun w => (cn_one r _ _ rfl rfl d hdv w)
      have hbl := Nat.lt_of_lt_of_le hb1 hb.size
      obtain ⟨X, hX⟩ : ∃ X, r.fr = X := ⟨_, rfl⟩
      obtain ⟨Y, hY⟩ : ∃ Y, r.to = Y := ⟨_, rfl⟩
      have HG := rnAt_new wr X Y 45
      have HB1 := hb.alloc hb.size (.cells #[.int .i64 X, .int .i64 Y] 45)
      have HC : Hid (CellL w [(⟨wr.heap.size, 0, none⟩, .int .i64 X), (⟨wr.heap.size, 1, none⟩, .int .i64 Y)] (wr.alloc (.cells #[.int .i64 X, .int .i64 Y] 45))) := ⟨HG.1, HG.2.1, HB1⟩
      rw [hX, hY] at C
      rw [hX] at c0
      rw [hY] at c1
      cases d
      · have HL2 := Lib.hid (show rightC l = false from by
          rcases HL.out with rfl | ⟨j, p, rfl, hp, h1, h2⟩
          · rw [List.drop_zero] at hd; rw [hd, rightC_cont, hdv]; rfl
          · rw [h2, hd, contC_cons, hdv]; rfl)
        have C := Lib.hid (fun L => cellL_of (a := w) (l := L) C)
        clear hcell hg hd hdv hX hY HG HB1 HL
        go_wp2_with fail
        clear c0 c1
        refine q_region (CellL w [(⟨wr.heap.size, 0, none⟩, .int .i64 X), (⟨wr.heap.size, 1, none⟩, .int .i64 Y)]) (by kernel_rfl) (by kernel_rfl) (cellL_drew HC.out) ?_
        repeat (first
          | go_big_quiet_skip
          | (go_big_quiet_want; (first
            | (refine q_take (v := ?_) ?_ ?_; rotate_left; (focus (intro w hSw; (try simp only [CellL] at hSw); go_split_ands; go_simp; (try (rw [if_neg (by omega)])); (try with_reducible rfl); done)))
            | (refine q_call (C.out _) ?_ ?_; (focus (intro w hSw; (try simp only [CellL] at hSw); go_split_ands; go_simp; (try (rw [if_neg (by omega)])); done)))); (try simp only [Act.put, List.setIfInBounds_toArray, List.set_cons_zero, List.set_cons_succ]); go_big_quiet_on))
        refine wpQuiet_nil ?_
        intro w2 hw2
        go_wp2_with fail
        go_ret
        exact ⟨ret_bool HL2.out.symm, cellL_size hw2⟩
      · have C := Lib.hid (fun L => cellL_of (a := w) (l := L) C)
        cases k with
        | zero =>
          have HL2 := Lib.hid (show (0 : Nat) + 1 = 0 ∨ ∃ j p, 0 + 1 = j + 1 ∧ l[j]? = some p ∧ oneC p = true ∧ rightC l = contC p (l.drop (0 + 1)) from .inr ⟨0, r, rfl, hg, hdv, by rw [List.drop_zero] at hd; rw [hd, rightC_cont, hdv, Bool.true_and]; rfl⟩)
          clear hcell hg hd hdv hX hY HG HB1 HL
          simp only [Nat.zero_mul, Nat.add_zero] at c0 c1
          go_wp2_with fail
          clear c0 c1
          refine q_region (CellL w [(⟨wr.heap.size, 0, none⟩, .int .i64 X), (⟨wr.heap.size, 1, none⟩, .int .i64 Y)]) (by kernel_rfl) (by kernel_rfl) (cellL_drew HC.out) ?_
          repeat (first
            | go_big_quiet_skip
            | (go_big_quiet_want; (first
              | (refine q_take (v := ?_) ?_ ?_; rotate_left; (focus (intro w hSw; (try simp only [CellL] at hSw); go_split_ands; go_simp; (try (rw [if_neg (by omega)])); (try with_reducible rfl); done)))
              | (refine q_call (C.out _) ?_ ?_; (focus (intro w hSw; (try simp only [CellL] at hSw); go_split_ands; go_simp; (try (rw [if_neg (by omega)])); done)))); (try simp only [Act.put, List.setIfInBounds_toArray, List.set_cons_zero, List.set_cons_succ]); go_big_quiet_on))
          refine wpQuiet_nil ?_
          intro w2 hw2
          go_wp2_with fail
          go_roundw
          case rel => exact ⟨1, by omega, rfl, HL2, cellL_size hw2⟩
          case measure => simp [intOf]; omega
        | succ j =>
          obtain ⟨p, hp, hp1, hp2⟩ : ∃ p, l[j]? = some p ∧ oneC p = true ∧ rightC l = contC p (l.drop (j + 1)) := by
            rcases HL.out with h | ⟨j', p, h, h1, h2, h3⟩
            · cases h
            · obtain rfl : j = j' := by omega
              exact ⟨p, h1, h2, h3⟩
          obtain ⟨p0, p1⟩ := hcell j p hp
          obtain ⟨x, hx⟩ : ∃ x, gapC p r = x := ⟨_, rfl⟩
          have CA := fun w => (cn_apart p r p.fr p.to X Y rfl hX hp1 x hx w)
          have CA := Lib.hid (fun L => cellL_of (a := w) (l := L) CA)
          have HL1 := Lib.hid (show rightC l = (x && contC r (l.drop (j + 1 + 1))) from by rw [hp2, hd, contC_cons, hdv, gapC_two, hx, Bool.true_and])
          have HL2 := Lib.hid (fun h : x = true => show j + 1 + 1 = 0 ∨ ∃ j' p', j + 1 + 1 = j' + 1 ∧ l[j']? = some p' ∧ oneC p' = true ∧ rightC l = contC p' (l.drop (j + 1 + 1)) from .inr ⟨j + 1, r, rfl, hg, hdv, by rw [HL1.out, h]; rfl⟩)
          obtain ⟨U, hU⟩ : ∃ U, p.fr = U := ⟨_, rfl⟩
          obtain ⟨V, hV⟩ : ∃ V, p.to = V := ⟨_, rfl⟩
          rw [hU, hV] at CA
          rw [hU] at p0
          rw [hV] at p1
          have HW := alloc_keeps wr (.cells #[.int .i64 X, .int .i64 Y] 45)
          have HC2 : Hid (CellL w [(⟨wr.heap.size, 0, none⟩, .int .i64 X), (⟨wr.heap.size, 1, none⟩, .int .i64 Y), (⟨b, o + j * 2, none⟩, .int .i64 U), (⟨b, o + j * 2 + 1, none⟩, .int .i64 V)] (wr.alloc (.cells #[.int .i64 X, .int .i64 Y] 45))) := ⟨HG.1, HG.2.1, (HW _ _ hbl).trans p0, (HW _ _ hbl).trans p1, HB1⟩
          have hj1 : (0 : Int) < (j : Int) + 1 := by omega
          have hjd : decide ((0 : Int) < (j : Int) + 1) = true := decide_eq_true hj1
          have hjn : (j : Int) < (n : Int) := by omega
          have hj0 : (0 : Int) ≤ (j : Int) := by omega
          have hjw : IntKind.i64.wrap ((j : Int) + 1 - 1) = (j : Int) := by rw [Int.add_sub_cancel]; exact IntWalk.i64_in _ (by omega)
          have hjw2 : IntKind.i64.wrap (j : Int) = (j : Int) := IntWalk.i64_in _ (by omega)
          have HJW := Lib.hid (And.intro hjw hjw2)
          clear hcell hg hd hdv hX hY HG HB1 hp hp1 hp2 hx hU hV HC HW p0 p1 hjw hjw2 HL
          cases x
          all_goals
            go_wp2_with fail
            clear c0 c1
            obtain ⟨hjw, hjw2⟩ := HJW.out
            refine q_region (CellL w [(⟨wr.heap.size, 0, none⟩, .int .i64 X), (⟨wr.heap.size, 1, none⟩, .int .i64 Y), (⟨b, o + j * 2, none⟩, .int .i64 U), (⟨b, o + j * 2 + 1, none⟩, .int .i64 V)]) (by kernel_rfl) (by kernel_rfl) (cellL_drew HC2.out) ?_
            repeat (first
              | go_big_quiet_skip
              | (go_big_quiet_want; (first
                | (refine q_take (v := ?_) ?_ ?_; rotate_left; (focus (intro w hSw; (try simp only [CellL] at hSw); go_split_ands; go_simp; (try (rw [if_neg (by omega)])); (try with_reducible rfl); done)))
                | (refine q_call (C.out _) ?_ ?_; (focus (intro w hSw; (try simp only [CellL] at hSw); go_split_ands; go_simp; (try (rw [if_neg (by omega)])); done)))
                | (refine q_call (CA.out _) ?_ ?_; (focus (intro w hSw; (try simp only [CellL] at hSw); go_split_ands; go_simp; (try (rw [if_neg (by omega)])); done)))); (try simp only [Act.put, List.setIfInBounds_toArray, List.set_cons_zero, List.set_cons_succ]); go_big_quiet_on))
            clear hjw hjw2
            refine wpQuiet_nil ?_
            intro w2 hw2
            go_wp2_with fail
          · go_ret
            exact ⟨ret_bool HL1.out.symm, cellL_size hw2⟩
          · go_roundw
            case rel => exact ⟨j + 2, by omega, by go_num, Lib.hid (by first | exact HL2.out rfl | exact HL2.out trivial), cellL_size hw2⟩
            case measure => simp [intOf]; omega
    · have HL2 := Lib.hid (show rightC l = true from by
        rcases HL.out with rfl | ⟨j, p, rfl, hp, h1, h2⟩
        · rw [show l = [] from List.length_eq_zero_iff.1 (by have := HN.out; omega)]; rfl
        · rw [h2, List.drop_eq_nil_of_le (by have := HN.out; omega)]; rfl)
      clear HL
      go_wp2_with fail
      go_ret
      exact ⟨ret_bool HL2.out.symm, hb⟩
end Go.Proofs.Ytdlloobdmfoalaa

/-
  Layer 14 (vset), the program: has a set a version?
-/
namespace Go.Proofs.Ytdlloobdmfoalaa
open Go.RowKit

theorem hasC_part (k : Kn) (X Y : Int) : hasC (partV k X) Y = ((k.rep == X) && hasC k.runs Y) := by
  by_cases h : k.rep = X
  · rw [partV_yes h, h, beq_self_eq_true, Bool.true_and]
  · rw [partV_no h, beq_eq_false_iff_ne.2 h, Bool.false_and, hasC_nil]
theorem runsV_cons (k : Kn) (s : List Kn) (r : Int) : runsV (k :: s) r = partV k r ++ runsV s r := rfl
set_option maxRecDepth 100000 in
theorem vs_hasf (x : Kn) (A : Option Addr) (c n : Nat) (hn : n = x.runs.length) (U X Y : Int) (f : Bool) (hf : ((U == X) && hasC x.runs Y) = f) (g : Nat) (w : World) (h0 : w.cell? ⟨g, 0, none⟩ = some (.int .i64 X)) (h1 : w.cell? ⟨g, 1, none⟩ = some (.int .i64 Y)) (hr : kRn.Rd w w.heap.size A c x.runs) :
    Calls Try.prog 33 #[.agg #[.int .i64 U, .slice A n c], .pointer (some ⟨g, 0, none⟩)] w fun e w' => e = .returned (.bool f) ∧ Below w.heap.size w w' := by
  have hlt := World.block_lt_of_cell? w _ h0
  obtain ⟨z, hz⟩ : ∃ z, hasC x.runs Y = z := ⟨_, rfl⟩
  obtain ⟨p, hp⟩ : ∃ p, (U == X) = p := ⟨_, rfl⟩
  have hb := below_new w (.cells #[.int .i64 U, .slice A n c] 48)
  have C := Lib.hid (cn_has A c n x.runs Y hn z hz _ (hr.call hb))
  have HB := Lib.hid hb
  rw [hz, hp] at hf
  subst hf
  clear hn hr hz hb
  cases p
  · go_enter Try.func33, Try.ntmps33
    go_wp2_with fail
    go_ret
    exact ⟨rfl, HB.out⟩
  · go_enter Try.func33, Try.ntmps33
    go_wp2_with ((with_reducible refine C.out.mono ?_); rintro e w1 ⟨rfl, hq⟩; have HQ := Lib.hid hq; clear hq)
    go_ret
    exact ⟨rfl, HB.out.trans (HQ.out.mono HB.out.size)⟩
set_option maxRecDepth 100000 in
set_option maxHeartbeats 2000000 in
theorem vs_index (A : Option Addr) (c n : Nat) (s : List Kn) (hn : n = s.length) (g : Nat) (X Y : Int) (f : Bool) (hf : hasC (runsV s X) Y = f) (w : World) (h0 : w.cell? ⟨g, 0, none⟩ = some (.int .i64 X)) (h1 : w.cell? ⟨g, 1, none⟩ = some (.int .i64 Y)) (hr : RdK w w.heap.size A c s) :
    Calls Try.prog 55 #[.slice A n c, .func (.func 33) #[] #[.pointer (some ⟨g, 0, none⟩)]] w fun e w' => ∃ z : Int, e = .returned (.int .i64 z) ∧ decide (z ≥ 0) = f ∧ Below w.heap.size w w' := by
  have HN := Lib.hid hn
  have HR := Lib.hid hr
  have HF := Lib.hid hf
  have H0 := Lib.hid h0
  have H1 := Lib.hid h1
  have HG := Lib.hid (World.block_lt_of_cell? w _ h0)
  have hmx := rdk_max hr hn
  have hcx : n ≤ c := by rw [hn]; exact hr.room
  clear hn hr hf h0 h1
  go_enter Try.func55, Try.ntmps55
  go_wp2_with fail
  go_loopw [8] (fun i wr => ∃ k : Nat, k ≤ n ∧ Hid (hasC (runsV (s.drop k) X) Y = f) ∧ i = .int .i64 k ∧ Hid (Below w.heap.size w wr)) (fun i _ => n - (intOf i).toNat)
  case atStart => exact ⟨0, by omega, HF, rfl, Below.refl _ _⟩
  case round =>
    obtain ⟨k, hk, HL, rfl, HW⟩ := hrel
    by_cases hlt : k < n
    · obtain ⟨x, hg, hd, -⟩ := cnt_get (l := s) (k := k) (by have := HN.out; omega)
      obtain ⟨b, o, rfl, hb1, hcell⟩ := knowns_at (HR.out.call HW.out) (by have := HN.out; omega)
      obtain ⟨A1, n1, c1, hn1, hr1, q0, q1⟩ := hcell k x hg
      obtain ⟨U, hU⟩ : ∃ U, x.rep = U := ⟨_, rfl⟩
      rw [hU] at q0
      obtain ⟨z, hz⟩ : ∃ z, ((U == X) && hasC x.runs Y) = z := ⟨_, rfl⟩
      have hb := (bcell HW.out).1
      have C := Lib.hid (vs_hasf x A1 c1 n1 hn1 U X Y z hz g wr ((hb g 0 HG.out).trans H0.out) ((hb g 1 HG.out).trans H1.out) hr1)
      have HL2 := Lib.hid (show (z || hasC (runsV (s.drop (k + 1)) X) Y) = f by rw [← HL.out, hd, runsV_cons, hasC_append, hasC_part, hU, hz])
      clear hcell hg hd hr1 hn1 hU hz hb
      cases z
      · go_wp2_with ((with_reducible refine C.out.mono ?_); rintro e w1 ⟨rfl, hq⟩; have HW2 := Lib.hid (HW.out.trans (hq.mono HW.out.size)); clear hq)
        go_roundw
        case rel => exact ⟨k + 1, by omega, HL2, by go_num, HW2⟩
        case measure => simp [intOf]; omega
      · go_wp2_with ((with_reducible refine C.out.mono ?_); rintro e w1 ⟨rfl, hq⟩; have HW2 := Lib.hid (HW.out.trans (hq.mono HW.out.size)); clear hq)
        go_ret
        exact ⟨(k : Int), rfl, (decide_eq_true (by omega)).trans HL2.out, HW2.out⟩
    · have HL2 := Lib.hid (show false = f by rw [← HL.out, List.drop_eq_nil_of_le (by have := HN.out; omega)]; rfl)
      go_wp2_with fail
      go_ret
      exact ⟨-1, rfl, HL2.out, HW.out⟩
theorem vs_contains (A : Option Addr) (c n : Nat) (s : List Kn) (hn : n = s.length) (g : Nat) (X Y : Int) (f : Bool) (hf : hasC (runsV s X) Y = f) (w : World) (h0 : w.cell? ⟨g, 0, none⟩ = some (.int .i64 X)) (h1 : w.cell? ⟨g, 1, none⟩ = some (.int .i64 Y)) (hr : RdK w w.heap.size A c s) :
    Calls Try.prog 32 #[.slice A n c, .func (.func 33) #[] #[.pointer (some ⟨g, 0, none⟩)]] w fun e w' => e = .returned (.bool f) ∧ Below w.heap.size w w' := by
  have C := Lib.hid (vs_index A c n s hn g X Y f hf w h0 h1 hr)
  clear hn hf h0 h1 hr
  go_enter Try.func32, Try.ntmps32
  go_wp2_with ((with_reducible refine C.out.mono ?_); rintro e w1 ⟨z, rfl, hz, hq⟩; have HQ := Lib.hid hq; clear hq)
  go_ret
  exact ⟨rfl, HQ.out⟩
set_option maxRecDepth 100000 in
theorem vs_has (A : Option Addr) (c n : Nat) (s : List Kn) (v : Vr) (x y : Int) (hx : v.rep = x) (hy : v.cnt = y) (hn : n = s.length) (f : Bool) (hf : hasS s v = f) (w : World) (hr : RdK w w.heap.size A c s) :
    Calls Try.prog 12 #[.slice A n c, .agg #[.int .i64 x, .int .i64 y]] w fun e w' => e = .returned (.bool f) ∧ Below w.heap.size w w' := by
  have hmf : ∀ (fn : Fn) (first cap : Array Value) (w : World), (Instr.makeFunc fn first cap).run Try.prog w = .ok (.func fn first cap) w := fun _ _ _ _ => rfl
  obtain ⟨p, hp⟩ : ∃ p, rightVr v = p := ⟨_, rfl⟩
  have C1 := fun w => Lib.hid (k_vright v x y hx hy p hp w)
  have hbx := vbox_new w x y
  have HB := Lib.hid (below_new w (.cells #[.int .i64 x, .int .i64 y] 25))
  have hlz : w.heap.size < (w.alloc (.cells #[.int .i64 x, .int .i64 y] 25)).heap.size := by simp
  unfold hasS at hf
  rw [hp, hx, hy] at hf
  cases p
  · subst hf
    clear hp hx hy hn hr hbx hlz
    go_enter Try.func12, Try.ntmps12
    go_wp2_with ((with_reducible refine (C1 _).out.mono ?_); rintro e w1 ⟨rfl, hq⟩; have HQ := Lib.hid hq; clear hq)
    go_ret
    exact ⟨rfl, HB.out.trans (HQ.out.mono HB.out.size)⟩
  · have C2 := fun g w h0 h1 h => Lib.hid (vs_contains A c n s hn g x y f hf w h0 h1 h)
    have HR := Lib.hid (hr.call HB.out)
    clear hp hx hy hn hr hf
    go_enter Try.func12, Try.ntmps12
    go_wp2_with (first
      | ((with_reducible refine (C1 _).out.mono ?_); rintro e w1 ⟨rfl, hq⟩; have HQ := Lib.hid hq; have s0 := ((bcell hq).1 w.heap.size 0 hlz).trans hbx.1; have s1 := ((bcell hq).1 w.heap.size 1 hlz).trans hbx.2; clear hq)
      | ((with_reducible refine (C2 _ _ s0 s1 (HR.out.call HQ.out)).out.mono ?_); rintro e w2 ⟨rfl, hq⟩; have HQ2 := Lib.hid hq; clear hq))
    go_ret
    exact ⟨rfl, HB.out.trans ((HQ.out.mono HB.out.size).trans (HQ2.out.mono (Nat.le_trans HB.out.size HQ.out.size)))⟩
end Go.Proofs.Ytdlloobdmfoalaa

/-
  An array of sixteen things that take a cell each, in a block; sixteen rows of runs of the call's own, apart from each other.
-/
namespace Go.Proofs.Ytdlloobdmfoalaa
open Go.RowKit

/-- Another thing at a place. -/
def upd {α : Type} (V : Nat → α) (k : Nat) (u : α) : Nat → α := fun j => if j = k then u else V j
theorem upd_at {α : Type} (V : Nat → α) (k : Nat) (u : α) : upd V k u k = u := if_pos rfl
theorem upd_far {α : Type} (V : Nat → α) {k j : Nat} (u : α) (h : j ≠ k) : upd V k u j = V j := if_neg h
/-- What lies in a block of sixteen cells. -/
structure GrAt (w : World) (g : Nat) (V : Nat → Value) : Prop where
  cell : ∀ k, k < 16 → w.cell? ⟨g, k, none⟩ = some (V k)
  free : ∀ k, w.frozen? ⟨g, k, none⟩ = false
theorem GrAt.lt {w : World} {g : Nat} {V : Nat → Value} (h : GrAt w g V) : g < w.heap.size := World.block_lt_of_cell? w _ (h.cell 0 (by omega))
theorem GrAt.below {w w' : World} {g : Nat} {V : Nat → Value} (h : GrAt w g V) (hb : Below w.heap.size w w') : GrAt w' g V := by
  obtain ⟨hc, hf⟩ := bcell hb
  have hl := h.lt
  exact ⟨fun k hk => (hc _ _ hl).trans (h.cell k hk), fun k => (hf _ _ hl).trans (h.free k)⟩
theorem GrAt.low {w w' : World} {g B : Nat} {V : Nat → Value} (h : GrAt w g V) (hb : Below B w w') (hg : g < B) : GrAt w' g V := by
  refine ⟨fun k hk => (hb.cell (p := ⟨g, k, none⟩) hg).trans (h.cell k hk), fun k => ?_⟩
  have h1 := h.free k
  unfold World.frozen? at h1 ⊢
  rw [hb.block g hg]; exact h1
theorem GrAt.grown {w w' : World} {row : Option Nat} {g : Nat} {V : Nat → Value} (h : GrAt w g V) (hg : w.grownBy w' row) (hne : some g ≠ row) : GrAt w' g V :=
  ⟨fun k hk => hg.cell (h.cell k hk) hne, fun k => (hg.frozen_far ⟨g, k, none⟩ h.lt hne).trans (h.free k)⟩
theorem GrAt.alloc {w : World} {g : Nat} {V : Nat → Value} (h : GrAt w g V) (o : Obj) : GrAt (w.alloc o) g V := h.below (below_new w o)
theorem GrAt.drew {w : World} {g : Nat} {V : Nat → Value} (h : GrAt w g V) : GrAt w.drew g V := ⟨h.cell, h.free⟩
theorem GrAt.other {w : World} {g g' k : Nat} {V : Nat → Value} (h : GrAt w g V) (hne : g' ≠ g) (u : Value) : GrAt (w.setCell ⟨g', k, none⟩ u) g V :=
  h.grown (grownBy_set _ _ _ _) (fun e => hne (by injection e with e; exact e.symm))
theorem GrAt.set {w : World} {g k : Nat} {V : Nat → Value} (h : GrAt w g V) (hk : k < 16) (u : Value) : GrAt (w.setCell ⟨g, k, none⟩ u) g (upd V k u) := by
  refine ⟨fun j hj => ?_, fun j => ?_⟩
  · by_cases e : j = k
    · subst e
      rw [upd_at]
      exact World.cell?_setCell_same w _ _ (h.cell j hj)
    · rw [upd_far V u e, World.cell?_setCell_other w _ _ _ (fun e' => e (by injection e' with _ e'; exact e'.symm))]
      exact h.cell j hj
  · have h1 := h.free j
    obtain ⟨cs, t, f, hb⟩ : ∃ cs t f, w.heap[g]? = some (.cells cs t f) := by
      have h2 := h.cell 0 (by omega)
      unfold World.cell? at h2
      split at h2
      · exact ⟨_, _, _, by assumption⟩
      · cases h2
    unfold World.frozen? at h1 ⊢
    rw [hb] at h1
    rw [heap_setCell_self hb]
    exact h1
/-- A new block of sixteen cells. -/
abbrev grO (V : Nat → Value) (t : TypeId) : Obj := .cells #[V 0, V 1, V 2, V 3, V 4, V 5, V 6, V 7, V 8, V 9, V 10, V 11, V 12, V 13, V 14, V 15] t
theorem lt16 {k : Nat} (hk : k < 16) : k = 0 ∨ k = 1 ∨ k = 2 ∨ k = 3 ∨ k = 4 ∨ k = 5 ∨ k = 6 ∨ k = 7 ∨ k = 8 ∨ k = 9 ∨ k = 10 ∨ k = 11 ∨ k = 12 ∨ k = 13 ∨ k = 14 ∨ k = 15 := by omega
theorem grAt_new (w : World) (V : Nat → Value) (t : TypeId) : GrAt (w.alloc (grO V t)) w.heap.size V := by
  have hb := heap_new w (grO V t) _ rfl
  refine ⟨fun k hk => ?_, fun k => ?_⟩
  · rw [cell_of_row _ _ _ _ _ _ hb]
    rcases lt16 hk with rfl | rfl | rfl | rfl | rfl | rfl | rfl | rfl | rfl | rfl | rfl | rfl | rfl | rfl | rfl | rfl <;> rfl
  · unfold World.frozen?; rw [hb]; simp
theorem GrAt.congr {w : World} {g : Nat} {V W : Nat → Value} (h : GrAt w g V) (e : ∀ k, k < 16 → W k = V k) : GrAt w g W := ⟨fun k hk => by rw [e k hk]; exact h.cell k hk, h.free⟩

/-- Sixteen rows of runs of the call's own, apart from each other. -/
structure RowsG (w : World) (base : Nat) (V : Nat → Value) (L : Nat → List Rn) : Prop where
  own : ∀ k, k < 16 → kRn.Own w base (V k) (L k)
  apart : ∀ i j b, i < 16 → j < 16 → i ≠ j → (V i).ownBlock = some b → (V j).ownBlock ≠ some b
theorem RowsG.below {w w' : World} {base : Nat} {V : Nat → Value} {L : Nat → List Rn} (h : RowsG w base V L) (hb : Below w.heap.size w w') : RowsG w' base V L := ⟨fun k hk => (h.own k hk).below hb, h.apart⟩
theorem RowsG.mono {w : World} {base base' : Nat} {V : Nat → Value} {L : Nat → List Rn} (h : RowsG w base V L) (hb : base' ≤ base) : RowsG w base' V L := ⟨fun k hk => (h.own k hk).mono hb, h.apart⟩
theorem RowsG.alloc {w : World} {base : Nat} {V : Nat → Value} {L : Nat → List Rn} (h : RowsG w base V L) (o : Obj) : RowsG (w.alloc o) base V L := h.below (below_new w o)
theorem RowsG.congr {w : World} {base : Nat} {V : Nat → Value} {L M : Nat → List Rn} (h : RowsG w base V L) (e : ∀ k, k < 16 → M k = L k) : RowsG w base V M := ⟨fun k hk => by rw [e k hk]; exact h.own k hk, h.apart⟩
/-- A store into a block that no row lies in. -/
theorem RowsG.set {w : World} {base g k : Nat} {V : Nat → Value} {L : Nat → List Rn} (h : RowsG w base V L) (hg : ∀ j, j < 16 → (V j).ownBlock ≠ some g) (u : Value) : RowsG (w.setCell ⟨g, k, none⟩ u) base V L :=
  ⟨fun j hj => (h.own j hj).kept (grownBy_set _ _ _ _) (.inr (hg j hj)), h.apart⟩
theorem rowsG_nil (w : World) (base : Nat) : RowsG w base (fun _ => .slice none 0 0) (fun _ => []) := ⟨fun _ _ => Kind.Own.nil _ _, fun i j b _ _ _ h => by cases h⟩
/-- A row has been appended to. -/
theorem RowsG.app {w w' : World} {base k : Nat} {V : Nat → Value} {L : Nat → List Rn} {v' : Value} {l : List Rn} (h : RowsG w base V L) (hk : k < 16) (ho : kRn.Own w' base v' l) (hg : w.grownBy w' (V k).ownBlock) (hv : v'.ownBlock = (V k).ownBlock ∨ v'.ownBlock = some w.heap.size) : RowsG w' base (upd V k v') (upd L k l) := by
  refine ⟨fun j hj => ?_, fun i j b hi hj hne hb => ?_⟩
  · by_cases e : j = k
    · subst e; rw [upd_at, upd_at]; exact ho
    · rw [upd_far _ _ e, upd_far _ _ e]
      refine (h.own j hj).kept hg ?_
      cases hb : (V j).ownBlock with
      | none => exact .inl rfl
      | some b => exact .inr fun e' => h.apart j k b hj hk e hb e'.symm
  · by_cases e1 : i = k
    · subst e1
      rw [upd_at] at hb
      rw [upd_far _ _ (fun e => hne e.symm)]
      rcases hv with e | e
      · exact h.apart i j b hi hj hne (e ▸ hb)
      · rw [e] at hb
        injection hb with hb
        intro h3
        have := ((h.own j hj).lt b h3).2
        omega
    · rw [upd_far _ _ e1] at hb
      by_cases e2 : j = k
      · subst e2
        rw [upd_at]
        rcases hv with e | e
        · rw [e]; exact h.apart i j b hi hj hne hb
        · rw [e]
          intro h3
          injection h3 with h3
          have := ((h.own i hi).lt b hb).2
          omega
      · rw [upd_far _ _ e2]; exact h.apart i j b hi hj hne hb
/-- A row has been made anew, behind all that was there. -/
theorem RowsG.new {w w' : World} {base k : Nat} {V : Nat → Value} {L : Nat → List Rn} {v' : Value} {l : List Rn} (h : RowsG w base V L) (hk : k < 16) (ho : kRn.Own w' w.heap.size v' l) (hb : Below w.heap.size w w') (hs : base ≤ w.heap.size) : RowsG w' base (upd V k v') (upd L k l) := by
  refine ⟨fun j hj => ?_, fun i j b hi hj hne hb => ?_⟩
  · by_cases e : j = k
    · subst e; rw [upd_at, upd_at]; exact ho.mono hs
    · rw [upd_far _ _ e, upd_far _ _ e]
      exact (h.own j hj).below hb
  · by_cases e1 : i = k
    · subst e1
      rw [upd_at] at hb
      rw [upd_far _ _ (fun e => hne e.symm)]
      intro h3
      have h1 := (ho.lt b hb).1
      have h2 := ((h.own j hj).lt b h3).2
      omega
    · rw [upd_far _ _ e1] at hb
      by_cases e2 : j = k
      · subst e2
        rw [upd_at]
        intro h3
        have h1 := (ho.lt b h3).1
        have h2 := ((h.own i hi).lt b hb).2
        omega
      · rw [upd_far _ _ e2]; exact h.apart i j b hi hj hne hb
theorem RowsG.congrV {w : World} {base : Nat} {V W : Nat → Value} {L : Nat → List Rn} (h : RowsG w base V L) (e : ∀ k, k < 16 → W k = V k) : RowsG w base W L :=
  ⟨fun k hk => by rw [e k hk]; exact h.own k hk, fun i j b hi hj hne hb => by rw [e j hj]; rw [e i hi] at hb; exact h.apart i j b hi hj hne hb⟩
/-- Sixteen slices. -/
abbrev slV (A : Nat → Option Addr) (n c : Nat → Nat) : Nat → Value := fun k => .slice (A k) (n k) (c k)
theorem RowsG.form {w : World} {base : Nat} {V : Nat → Value} {L : Nat → List Rn} (h : RowsG w base V L) (N : Nat → Nat) (hN : ∀ k, (L k).length = N k) : ∃ A c, ∀ k, k < 16 → slV A N c k = V k := by
  have h1 : ∀ k, ∃ p : Option Addr × Nat, k < 16 → .slice p.1 (N k) p.2 = V k := fun k => by
    by_cases hk : k < 16
    · obtain ⟨A, c, e, -⟩ := (h.own k hk).form
      exact ⟨(A, c), fun _ => by rw [e, hN]⟩
    · exact ⟨(none, 0), fun h => absurd h hk⟩
  exact ⟨fun k => (Classical.choose (h1 k)).1, fun k => (Classical.choose (h1 k)).2, fun k hk => Classical.choose_spec (h1 k) hk⟩
theorem RowsG.upd_off {k g : Nat} {w : World} {V : Nat → Value} {v' : Value} (h : ∀ j, j < 16 → (V j).ownBlock ≠ some g) (hg : g < w.heap.size) (hv : v'.ownBlock = (V k).ownBlock ∨ v'.ownBlock = some w.heap.size) (hk : k < 16) : ∀ j, j < 16 → (upd V k v' j).ownBlock ≠ some g := fun j hj => by
  by_cases e : j = k
  · subst e; rw [upd_at]
    rcases hv with e | e
    · rw [e]; exact h j hj
    · rw [e]; intro h1; injection h1 with h1; omega
  · rw [upd_far _ _ e]; exact h j hj
end Go.Proofs.Ytdlloobdmfoalaa

/-
  Layer 14 (vset), the program: the set of sixteen rows.
-/
namespace Go.Proofs.Ytdlloobdmfoalaa
open Go.RowKit

/-- Sixteen values as one. -/
abbrev grV (V : Nat → Value) : Value := .agg #[V 0, V 1, V 2, V 3, V 4, V 5, V 6, V 7, V 8, V 9, V 10, V 11, V 12, V 13, V 14, V 15]
theorem idx16 (V : Nat → Value) {k : Nat} (hk : k < 16) (w : World) : (Instr.index 56 (grV V) (.int .i64 (k : Int))).run Try.prog w = .ok (V k) w := by
  rcases lt16 hk with rfl | rfl | rfl | rfl | rfl | rfl | rfl | rfl | rfl | rfl | rfl | rfl | rfl | rfl | rfl | rfl <;> kernel_rfl
/-- A row of runs that was there holds as a new Known behind it. -/
theorem holds_old {w w2 : World} {base n c : Nat} {A : Option Addr} {l : List Rn} {v : Value} {ks : List Ks} (ho : kKs.Own w2 base v ks) (hr : kRn.Rd w base A c l) (hb : Below base w w2) (hn : n = l.length) (r : Int) : dKn.rel w2 (fun g => True ∧ v.ownBlock ≠ some g) ⟨r, A, n, c⟩ ⟨r, l⟩ :=
  ⟨rfl, hn, (hr.below hb).inS.mono fun g hg => ⟨trivial, fun e => by have := (ho.lt g e).1; omega⟩⟩
set_option maxRecDepth 100000 in
set_option maxHeartbeats 4000000 in
theorem vs_set (V : Nat → Value) (L : Nat → List Rn) (hV : ∀ k, k < 16 → ∃ A c, V k = .slice A (L k).length c) (f : Int → List Rn) (hf : ∀ k : Nat, f ((k : Int) + 1) = L k) (U : List Kn) (hU : colS f 16 = U) (N : Nat) (hN : U.length = N) (w : World) (hr : ∀ k A n c, k < 16 → V k = .slice A n c → kRn.Rd w w.heap.size A c (L k)) :
    Calls Try.prog 40 #[grV V] w (RetK w N U) := by
  have HV := Lib.hid hV
  have HF := Lib.hid hf
  have HU := Lib.hid hU
  have HN := Lib.hid hN
  have HR := Lib.hid hr
  clear hV hf hU hN hr
  go_enter Try.func40, Try.ntmps40
  go_wp2_with fail
  go_loopw [3, 7] (fun v i wr => ∃ k : Nat, k ≤ 16 ∧ Hid (dKn.Own wr w.heap.size (fun _ => True) v (colS f k)) ∧ i = .int .i64 (k : Int) ∧ Hid (Below w.heap.size w wr)) (fun _ i _ => 16 - (intOf i).toNat)
  case atStart => exact ⟨0, by omega, Deep.Own.nil _ _ _, rfl, below_new _ _⟩
  case round =>
    obtain ⟨k, hk, HO, rfl, HW⟩ := hrel
    by_cases hlt : k < 16
    · have hd : decide ((k : Int) < 16) = true := decide_eq_true (by omega)
      have HS := Lib.hid (show colS f (k + 1) = colS f k ++ putK ((k : Int) + 1) (f ((k : Int) + 1)) from rfl)
      obtain ⟨A3, c3, hv3⟩ := HV.out k hlt
      obtain ⟨N3, hN3⟩ : ∃ N, (L k).length = N := ⟨_, rfl⟩
      rw [hN3] at hv3
      have hrd := HR.out k A3 N3 c3 hlt hv3
      have hmx := rd_maxC hrd hN3.symm
      have I0 := idx16 V hlt
      rw [hv3] at I0
      have HRD := Lib.hid hrd
      have hlk := colS_len f k
      obtain ⟨ks, ho, hall⟩ := HO.out
      have hlen := hall.1
      have HKO := Lib.hid ho
      have HKA := Lib.hid hall
      have HLE := Lib.hid (show ks.length + [(⟨(k : Int) + 1, none, 0, 0⟩ : Ks)].length ≤ 1000000 by rw [hlen, List.length_singleton]; omega)
      by_cases h0 : N3 = 0
      · have HP := Lib.hid (show putK ((k : Int) + 1) (f ((k : Int) + 1)) = [] by rw [HF.out, List.eq_nil_of_length_eq_zero (hN3.trans h0)]; rfl)
        subst h0
        clear hN3 ho hall hlen hlk HLE HKO HKA hrd hv3 HRD hmx
        go_wp2_with fail
        go_roundw
        case rel => exact ⟨k + 1, by omega, show dKn.Own _ _ _ _ _ from by rw [HS.out, HP.out, List.append_nil]; exact HO.out, by go_num, HW⟩
        case measure => simp [intOf]; omega
      · have HP := Lib.hid (show f ((k : Int) + 1) ≠ [] from fun h => h0 (by rw [← hN3, ← HF.out, h]; rfl))
        have HN3 := Lib.hid hN3
        have hp1 : decide ((0 : Int) < (N3 : Int)) = true := decide_eq_true (by omega)
        have hp2 : decide (0 < N3) = true := decide_eq_true (by omega)
        have hp3 : decide ((N3 : Int) > 0) = true := decide_eq_true (by omega)
        have hmxN : N3 ≤ 9223372036854775807 ∨ True := .inr trivial
        clear hN3 ho hall hlen hlk HO hmxN hrd hv3
        go_wp2_with (at_builtin; refine wpList_app_k kKs rfl (.tmp 14) (.tmp 19) rfl w.heap.size _ ks rfl (Kind.Own.alloc HKO.out _) _ (some ⟨wr.heap.size, 0, none⟩) 1 1 [⟨(k : Int) + 1, A3, N3, c3⟩] rfl rfl (ks_row wr _ _ _ _) HLE.out (by decide) (cle_alloc HW.out.size _) ?_; intro v5 w5 hown5 hg5 hb5 hv5; have HO5 := Lib.hid (Deep.Own.app (HKA.out.keep (keptS_below (below_new wr _) _)) (.one (dKn.keep (holds_old HKO.out HRD.out HW.out HN3.out.symm ((k : Int) + 1)) (keptS_below (below_new wr _) _))) hown5 hg5 hv5); have HW5 := Lib.hid ((HW.out.alloc HW.out.size _).trans hb5); clear hown5 hg5 hb5 hv5)
        go_roundw
        case rel => exact ⟨k + 1, by omega, show dKn.Own _ _ _ _ _ from by rw [HS.out, putK_some HP.out, HF.out]; exact HO5.out, by go_num, HW5⟩
        case measure => simp [intOf]; omega
    · have hd : decide ((k : Int) < 16) = false := decide_eq_false (by omega)
      obtain rfl : k = 16 := by omega
      obtain ⟨A9, c9, rfl, hrd⟩ := HO.out.rd (n := N) (by rw [HU.out]; exact HN.out.symm) fun _ _ => trivial
      rw [HU.out] at hrd
      have HD := Lib.hid (rdk_of hrd)
      clear hrd HO
      go_wp2_with fail
      go_ret
      exact ⟨A9, c9, rfl, HD.out, HW.out⟩
end Go.Proofs.Ytdlloobdmfoalaa

/-
  Plain facts on sets of versions (layer 14), as the program makes them: row by row. No program in this text.
-/
namespace Go.Proofs.Ytdlloobdmfoalaa

/-- What a version puts into the row of a replica. -/
def runOf (v : Vr) (r : Int) : List Rn := match rightVr v && decide (v.rep = r) with
  | true => [⟨v.cnt, v.cnt⟩]
  | false => []
theorem runOf_yes {v : Vr} {r : Int} (h : rightVr v = true) (hr : v.rep = r) : runOf v r = [⟨v.cnt, v.cnt⟩] := by unfold runOf; rw [h, decide_eq_true hr]; rfl
theorem runOf_wrong {v : Vr} {r : Int} (h : rightVr v = false) : runOf v r = [] := by unfold runOf; rw [h]; rfl
theorem runOf_no {v : Vr} {r : Int} (hr : v.rep ≠ r) : runOf v r = [] := by unfold runOf; rw [decide_eq_false hr, Bool.and_false]
theorem runOf_len (v : Vr) (r : Int) : (runOf v r).length ≤ 1 := by
  unfold runOf; split <;> simp
/-- What some versions put into the row of a replica. -/
def versR (l : List Vr) (r : Int) : List Rn := l.flatMap fun v => runOf v r
theorem versR_nil (r : Int) : versR [] r = [] := rfl
theorem versR_cons (v : Vr) (l : List Vr) (r : Int) : versR (v :: l) r = runOf v r ++ versR l r := rfl
theorem versR_take {l : List Vr} {k : Nat} {v : Vr} (h : l[k]? = some v) (r : Int) : versR (l.take (k + 1)) r = versR (l.take k) r ++ runOf v r := by
  unfold versR
  rw [List.take_add_one, h, Option.toList_some, List.flatMap_append, List.flatMap_singleton]
theorem versR_len : ∀ (l : List Vr) (r : Int), (versR l r).length ≤ l.length
  | [], _ => Nat.le_refl _
  | v :: l, r => by
    have h1 := versR_len l r
    have h2 := runOf_len v r
    rw [versR_cons, List.length_append, List.length_cons]; omega
theorem addS_has (s : List Kn) (v : Vr) (r n : Int) : hasK (addS s v) r n = (hasK s r n || (decide (1 ≤ r) && (decide (r ≤ 16) && hasC (runOf v r) n))) := by
  unfold addS
  cases h : rightVr v with
  | false => rw [runOf_wrong h, hasC_nil, Bool.and_false, Bool.and_false, Bool.or_false]
  | true =>
    show hasK (makeS 1 s (oneS v)) r n = _
    rw [makeS_has, gC1]
    congr 1
    unfold hasK oneS
    rw [runsV]
    by_cases hr : v.rep = r
    · rw [runOf_yes h hr, partV_yes (k := ⟨v.rep, _⟩) hr, runsV, List.append_nil]
    · rw [runOf_no hr, partV_no (k := ⟨v.rep, _⟩) hr, runsV, List.append_nil]
theorem addS_fold_has : ∀ (l : List Vr) (s : List Kn) (r n : Int), hasK (l.foldl addS s) r n = (hasK s r n || (decide (1 ≤ r) && (decide (r ≤ 16) && hasC (versR l r) n)))
  | [], s, r, n => by rw [versR_nil, hasC_nil, Bool.and_false, Bool.and_false, Bool.or_false]; rfl
  | v :: l, s, r, n => by
    rw [List.foldl_cons, addS_fold_has l, addS_has, versR_cons, hasC_append]
    cases hasK s r n <;> cases decide (1 ≤ r) <;> cases decide (r ≤ 16) <;> rfl
theorem addS_fold_right : ∀ (l : List Vr) {s : List Kn}, rightS s = true → rightS (l.foldl addS s) = true
  | [], _, h => h
  | _ :: l, _, h => addS_fold_right l (addS_right h)
/-- Some versions more, row by row. -/
theorem addsS_cols (s : List Kn) (l : List Vr) : addsS s l = colS (fun r => ofC (runsV s r ++ versR l r)) 16 := by
  refine rightS_unique (addS_fold_right l (ofS_right s)) (colS_up (fun r => ofC_right _) (Nat.le_refl _)) fun r n => ?_
  unfold addsS
  rw [addS_fold_has, ofS_has]
  by_cases h : 1 ≤ r ∧ r ≤ 16
  · rw [hasK_in h.1 h.2, hasK_in h.1 h.2, decide_eq_true h.1, decide_eq_true h.2, colS_runs, decide_eq_true h.1, decide_eq_true (show r ≤ ((16 : Nat) : Int) by omega)]
    show _ = hasC (ofC _) n
    rw [ofC_has, hasC_append, Bool.true_and, Bool.true_and]
  · rw [hasK_out (by omega), hasK_out (by omega)]
    by_cases h1 : 1 ≤ r
    · rw [decide_eq_false (show ¬ r ≤ 16 by omega), Bool.false_and, Bool.and_false]; rfl
    · rw [decide_eq_false h1, Bool.false_and]; rfl
theorem ofS_cols (s : List Kn) : ofS s = colS (fun r => ofC (runsV s r)) 16 := by
  have h := addsS_cols s []
  simp only [versR_nil, List.append_nil] at h
  exact h
end Go.Proofs.Ytdlloobdmfoalaa

/-
  append in a statement that draws its order, at one operation of the drawn region.
-/
namespace Go.Proofs.Ytdlloobdmfoalaa
open Go.RowKit

theorem step_app_k {P : Program} {α : Type} (k : Kind P α) {ops : Array Oper} {w : World} {o : Oper} {a : Act} {K : Act → World → Prop} {Q : Exit → Act → World → Prop} {E : Prop} (hgd : o.guard = none) (s x : Operand)
    (ho : o.op = .call { callee := .builtin .append, args := #[s, x], argTypes := #[k.ty, k.ty] })
    (base : Nat) (v : Value) (xs : List α) (hs : a.eval s = v) (hown : k.Own w base v xs)
    (B : Nat) (A : Option Addr) (c n : Nat) (ys : List α) (hn : n = ys.length) (hx : a.eval x = .slice A n c) (hr : RowAt w B A (k.row ys)) (hlen : xs.length + ys.length ≤ 1000000) (hby : k.bytes ≤ 1000) (hbase : base ≤ w.heap.size)
    (h : ∀ v' w', k.Own w' base v' (xs ++ ys) → w.grownBy w' v.ownBlock → Below base w w' → (v'.ownBlock = v.ownBlock ∨ v'.ownBlock = some w.heap.size) → K (a.put o.dst v') w') :
    if Region.wanted o (yielded ops a.tmps) = true then Oper.wp P o a w K Q else E := by
  rw [if_pos (by simp [Region.wanted, hgd])]
  exact op_app_k k s x ho base v xs hs hown B A c n ys hn hx hr hlen hby hbase h
end Go.Proofs.Ytdlloobdmfoalaa

/-
  Layer 14 (vset), the program: the rows of each replica.
-/
namespace Go.Proofs.Ytdlloobdmfoalaa
open Go.RowKit

theorem vs_rep (x : Int) (p : Bool) (hp : (decide (1 ≤ x) && decide (x ≤ 16)) = p) (w : World) :
    Calls Try.prog 51 #[.int .i64 x] w fun e w' => e = .returned (.bool p) ∧ w = w' := by
  obtain ⟨a, ha⟩ : ∃ a, decide (1 ≤ x) = a := ⟨_, rfl⟩
  obtain ⟨b, hb⟩ : ∃ b, decide (x ≤ 16) = b := ⟨_, rfl⟩
  rw [ha, hb] at hp
  subst hp
  cases a <;> cases b
  all_goals
    go_enter Try.func51, Try.ntmps51
    go_wp2_with fail
    go_ret
    exact ⟨rfl, rfl⟩
/-- Sixteen stores, one behind the other. -/
abbrev set16 (w : World) (g : Nat) (V : Nat → Value) : World := (((((((((((((((w.setCell ⟨g, 0, none⟩ (V 0)).setCell ⟨g, 1, none⟩ (V 1)).setCell ⟨g, 2, none⟩ (V 2)).setCell ⟨g, 3, none⟩ (V 3)).setCell ⟨g, 4, none⟩ (V 4)).setCell ⟨g, 5, none⟩ (V 5)).setCell ⟨g, 6, none⟩ (V 6)).setCell ⟨g, 7, none⟩ (V 7)).setCell ⟨g, 8, none⟩ (V 8)).setCell ⟨g, 9, none⟩ (V 9)).setCell ⟨g, 10, none⟩ (V 10)).setCell ⟨g, 11, none⟩ (V 11)).setCell ⟨g, 12, none⟩ (V 12)).setCell ⟨g, 13, none⟩ (V 13)).setCell ⟨g, 14, none⟩ (V 14)).setCell ⟨g, 15, none⟩ (V 15)
theorem set16_at {w : World} {g : Nat} {Z V : Nat → Value} (h : GrAt w g Z) : GrAt (set16 w g V) g V :=
  ((((((((((((((((h.set (k := 0) (by omega) (V 0)).set (k := 1) (by omega) (V 1)).set (k := 2) (by omega) (V 2)).set (k := 3) (by omega) (V 3)).set (k := 4) (by omega) (V 4)).set (k := 5) (by omega) (V 5)).set (k := 6) (by omega) (V 6)).set (k := 7) (by omega) (V 7)).set (k := 8) (by omega) (V 8)).set (k := 9) (by omega) (V 9)).set (k := 10) (by omega) (V 10)).set (k := 11) (by omega) (V 11)).set (k := 12) (by omega) (V 12)).set (k := 13) (by omega) (V 13)).set (k := 14) (by omega) (V 14)).set (k := 15) (by omega) (V 15)).congr fun k hk => by
    rcases lt16 hk with rfl | rfl | rfl | rfl | rfl | rfl | rfl | rfl | rfl | rfl | rfl | rfl | rfl | rfl | rfl | rfl <;> rfl
theorem below_set16 {B g : Nat} {a w : World} (h : Below B a w) (hg : B ≤ g) (V : Nat → Value) : Below B a (set16 w g V) :=
  (((((((((((((((h.setCell (p := ⟨g, 0, none⟩) hg _).setCell (p := ⟨g, 1, none⟩) hg _).setCell (p := ⟨g, 2, none⟩) hg _).setCell (p := ⟨g, 3, none⟩) hg _).setCell (p := ⟨g, 4, none⟩) hg _).setCell (p := ⟨g, 5, none⟩) hg _).setCell (p := ⟨g, 6, none⟩) hg _).setCell (p := ⟨g, 7, none⟩) hg _).setCell (p := ⟨g, 8, none⟩) hg _).setCell (p := ⟨g, 9, none⟩) hg _).setCell (p := ⟨g, 10, none⟩) hg _).setCell (p := ⟨g, 11, none⟩) hg _).setCell (p := ⟨g, 12, none⟩) hg _).setCell (p := ⟨g, 13, none⟩) hg _).setCell (p := ⟨g, 14, none⟩) hg _).setCell (p := ⟨g, 15, none⟩) hg _
theorem RowsG.set16 {w : World} {base g : Nat} {V : Nat → Value} {L : Nat → List Rn} (h : RowsG w base V L) (hg : ∀ j, j < 16 → (V j).ownBlock ≠ some g) (U : Nat → Value) : RowsG (set16 w g U) base V L :=
  (((((((((((((((h.set hg _).set hg _).set hg _).set hg _).set hg _).set hg _).set hg _).set hg _).set hg _).set hg _).set hg _).set hg _).set hg _).set hg _).set hg _).set hg _
theorem RowsG.low {w : World} {base g : Nat} {V : Nat → Value} {L : Nat → List Rn} (h : RowsG w base V L) (hg : g < base) : ∀ j, j < 16 → (V j).ownBlock ≠ some g := fun j hj e => by have := ((h.own j hj).lt g e).1; omega
/-- How the rows stand while they are gathered: the result's cells, then the rows', and behind them the rows. -/
structure GatAt (w0 w : World) (V : Nat → Value) (L : Nat → List Rn) : Prop where
  res : GrAt w w0.heap.size (fun _ => .slice none 0 0)
  all : GrAt w (w0.heap.size + 1) V
  rows : RowsG w (w0.heap.size + 1 + 1) V L
  low : Below w0.heap.size w0 w
theorem GatAt.below {w0 w w' : World} {V : Nat → Value} {L : Nat → List Rn} (h : GatAt w0 w V L) (hb : Below w.heap.size w w') : GatAt w0 w' V L := ⟨h.res.below hb, h.all.below hb, h.rows.below hb, h.low.trans (hb.mono h.low.size)⟩
theorem GatAt.congr {w0 w : World} {V : Nat → Value} {L M : Nat → List Rn} (h : GatAt w0 w V L) (e : ∀ k, k < 16 → M k = L k) : GatAt w0 w V M := ⟨h.res, h.all, h.rows.congr e, h.low⟩
theorem gatAt_new (w : World) (t : TypeId) : GatAt w ((w.alloc (grO (fun _ => .slice none 0 0) t)).alloc (grO (fun _ => .slice none 0 0) t)) (fun _ => .slice none 0 0) (fun _ => []) := by
  refine ⟨(grAt_new w _ t).alloc _, ?_, rowsG_nil _ _, (below_new w _).trans ((below_new _ _).mono (by simp))⟩
  have h := grAt_new (w.alloc (grO (fun _ => .slice none 0 0) t)) (fun _ => .slice none 0 0) t
  rw [size1] at h
  exact h
theorem GatAt.own_lt {w0 w : World} {V : Nat → Value} {L : Nat → List Rn} (h : GatAt w0 w V L) {j g : Nat} (hj : j < 16) (hg : g < w0.heap.size + 1 + 1) : some g ≠ (V j).ownBlock := fun e => h.rows.low hg j hj e.symm
theorem GatAt.congrV {w0 w : World} {V W : Nat → Value} {L : Nat → List Rn} (h : GatAt w0 w V L) (e : ∀ k, k < 16 → W k = V k) : GatAt w0 w W L := ⟨h.res, h.all.congr e, h.rows.congrV e, h.low⟩
/-- Behind an append, ahead of its store. -/
theorem GatAt.mid {w0 w w' : World} {V : Nat → Value} {L : Nat → List Rn} (h : GatAt w0 w V L) {j : Nat} (hj : j < 16) (hg : w.grownBy w' (V j).ownBlock) : GrAt w' (w0.heap.size + 1) V := h.all.grown hg (h.own_lt hj (by omega))
theorem GatAt.app {w0 w w' : World} {V : Nat → Value} {L : Nat → List Rn} {v' : Value} {l : List Rn} (h : GatAt w0 w V L) {j : Nat} (hj : j < 16) (ho : kRn.Own w' (w0.heap.size + 1 + 1) v' l) (hg : w.grownBy w' (V j).ownBlock) (hv : v'.ownBlock = (V j).ownBlock ∨ v'.ownBlock = some w.heap.size) :
    GatAt w0 (w'.setCell ⟨w0.heap.size + 1, j, none⟩ v') (upd V j v') (upd L j l) := by
  have hr := h.rows.app hj ho hg hv
  refine ⟨(h.res.grown hg (h.own_lt hj (by omega))).other (by omega) _, (h.mid hj hg).set hj _, hr.set (hr.low (by omega)) _, ?_⟩
  exact ((h.low.grown hg h.low.size fun g e => by have := ((h.rows.own j hj).lt g e).1; omega)).setCell (p := ⟨w0.heap.size + 1, j, none⟩) (by show w0.heap.size ≤ w0.heap.size + 1; omega) _
/-- What a call hands back that gathers the rows. -/
def RetG (w : World) (N : Nat → Nat) (L : Nat → List Rn) (e : Ending) (w' : World) : Prop := ∃ A c, e = .returned (grV (slV A N c)) ∧ RowsG w' w.heap.size (slV A N c) L ∧ Below w.heap.size w w'
theorem gat_end {fn : Func} {a : Act} {w0 w : World} {A : Nat → Option Addr} {N c : Nat → Nat} {L : Nat → List Rn} (h : GatAt w0 w (slV A N c) L) (hd : a.defers = []) (hr : ∀ w', GrAt w' w0.heap.size (slV A N c) → (results fn a.tmps).run Try.prog w' = .ok (grV (slV A N c)) w') : bodyPost Try.prog fn (RetG w0 N L) .ret a (set16 w w0.heap.size (slV A N c)) :=
  bodyPost_ret (hr _ (set16_at h.res)) hd ⟨A, c, rfl, (h.rows.set16 (h.rows.low (by omega)) _).mono (by omega), below_set16 h.low (Nat.le_refl _) _⟩
set_option maxRecDepth 100000 in
set_option maxHeartbeats 8000000 in
theorem vs_gather (A : Option Addr) (c n : Nat) (s : List Kn) (hn : n = s.length) (hnl : ∀ r, (runsV s r).length ≤ 300000) (NN : Nat → Nat) (hNN : ∀ k : Nat, (runsV s ((k : Int) + 1)).length = NN k) (w : World) (hr : RdK w w.heap.size A c s) :
    Calls Try.prog 38 #[.slice A n c] w (RetG w NN fun k => runsV s ((k : Int) + 1)) := by
  have HN := Lib.hid hn
  have HL := Lib.hid hnl
  have HR := Lib.hid hr
  have HNN := Lib.hid hNN
  have hmx := rdk_max hr hn
  have hcx : n ≤ c := by rw [hn]; exact hr.room
  clear hn hnl hr hNN
  go_enter Try.func38, Try.ntmps38
  go_wp2_with fail
  go_loopw [9] (fun i wr => ∃ (k : Nat) (V : Nat → Value), k ≤ n ∧ i = .int .i64 k ∧ Hid (GatAt w wr V (fun j => runsV (s.take k) ((j : Int) + 1)))) (fun i _ => n - (intOf i).toNat)
  case atStart => exact ⟨0, fun _ => .slice none 0 0, by omega, rfl, gatAt_new w _⟩
  case round =>
    obtain ⟨k, V, hk, rfl, HG⟩ := hrel
    by_cases hlt : k < n
    · obtain ⟨x, hg, -, -⟩ := cnt_get (l := s) (k := k) (by have := HN.out; omega)
      obtain ⟨b, o, rfl, hb1, hcell⟩ := knowns_at (HR.out.below HG.out.low) (by have := HN.out; omega)
      obtain ⟨A1, n1, c1, hn1, hr1, q0, q1⟩ := hcell k x hg
      obtain ⟨X, hX⟩ : ∃ X, x.rep = X := ⟨_, rfl⟩
      rw [hX] at q0
      have hT := fun r => runsV_take r hg
      obtain ⟨p, hp⟩ : ∃ p, (decide (1 ≤ X) && decide (X ≤ 16)) = p := ⟨_, rfl⟩
      have C1 := fun w => Lib.hid (vs_rep X p hp w)
      have HG2 := Lib.hid (HG.out.below (below_new wr (.cells #[.int .i64 X, .slice A1 n1 c1] 48)).drew)
      cases p with
      | false =>
        have HE := Lib.hid ((HG.out.below (below_new wr (.cells #[.int .i64 X, .slice A1 n1 c1] 48))).congr (M := fun j => runsV (s.take (k + 1)) ((j : Int) + 1)) fun j hj => by
          rw [hT, partV_no (by rw [hX]; intro e; rw [e] at hp; simp at hp; omega), List.append_nil])
        clear hcell hg hr1 hn1 hT hp HG2 hX
        go_wp2_with ((with_reducible refine (C1 _).out.mono ?_); rintro e w1 ⟨rfl, rfl⟩)
        go_roundw
        case rel => exact ⟨k + 1, V, by omega, by go_num, HE.out⟩
        case measure => simp [intOf]; omega
      | true =>
        obtain ⟨j, hj⟩ : ∃ j : Nat, X = (j : Int) + 1 := ⟨(X - 1).toNat, by rw [Bool.and_eq_true, decide_eq_true_eq, decide_eq_true_eq] at hp; omega⟩
        have hj16 : j < 16 := by rw [Bool.and_eq_true, decide_eq_true_eq, decide_eq_true_eq] at hp; omega
        subst hj
        have HE := Lib.hid (fun (j' : Nat) (_ : j' < 16) => show runsV (s.take (k + 1)) ((j' : Int) + 1) = upd (fun j => runsV (s.take k) ((j : Int) + 1)) j (runsV (s.take k) ((j : Int) + 1) ++ x.runs) j' from by
          rw [hT]
          by_cases e : j' = j
          · subst e; rw [upd_at, partV_yes hX]
          · rw [upd_far _ _ e, partV_no (by rw [hX]; omega), List.append_nil])
        have HLE := Lib.hid (show (runsV (s.take k) ((j : Int) + 1)).length + x.runs.length ≤ 1000000 by
          have h1 := runsV_part s (k + 1) ((j : Int) + 1)
          rw [hT, partV_yes hX, List.length_append] at h1
          have := HL.out ((j : Int) + 1)
          omega)
        have HN1 := Lib.hid hn1
        have HR1 := Lib.hid (hr1.below ((below_new wr (.cells #[.int .i64 ((j : Int) + 1), .slice A1 n1 c1] 48)).mono HG.out.low.size)).row
        obtain ⟨vj, hvj⟩ : ∃ v, V j = v := ⟨_, rfl⟩
        have HO := Lib.hid (HG2.out.rows.own j hj16)
        have q2 := HG2.out.all.cell j hj16
        have HM := Lib.hid (fun w' (hg : (wr.alloc (.cells #[.int .i64 ((j : Int) + 1), .slice A1 n1 c1] 48)).drew.grownBy w' (V j).ownBlock) => HG2.out.mid hj16 hg)
        rw [hvj] at HO q2 HM
        obtain ⟨NL, hNL⟩ : ∃ N, (runsV (s.take k) ((j : Int) + 1) ++ x.runs).length = N := ⟨_, rfl⟩
        have HNL := Lib.hid hNL
        clear hNL
        have hjw : IntKind.i64.wrap ((j : Int) + 1 - 1) = (j : Int) := by rw [Int.add_sub_cancel]; exact IntWalk.i64_in _ (by omega)
        have hj0 : decide ((j : Int) < 0) = false := decide_eq_false (by omega)
        have hj1 : decide ((j : Int) < 16) = true := decide_eq_true (by omega)
        clear hcell hg hr1 hn1 hT hp hX
        go_upto_region 7 with ((with_reducible refine (C1 _).out.mono ?_); rintro e w1 ⟨rfl, rfl⟩)
        go_region_law (first
          | (refine step_app_k kRn rfl (.tmp 23) (.tmp 25) rfl (w.heap.size + 1 + 1) vj (runsV (s.take k) ((j : Int) + 1)) rfl HO.out _ A1 c1 n1 x.runs HN1.out rfl HR1.out HLE.out (by decide) HG2.out.all.lt ?_; intro v3 w3 hown3 hg3 _ hv3; obtain ⟨A4, c4, rfl, -⟩ := hown3.read_n HNL.out.symm; have q3 := (HM.out w3 hg3).cell j hj16; have f3 := (HM.out w3 hg3).free j; have HG3 := Lib.hid (HG2.out.app hj16 hown3 (hvj.symm ▸ hg3) (hvj.symm ▸ hv3)); clear hown3 hg3 hv3))
        all_goals
          go_wp2_with fail
          go_roundw
          case rel => exact ⟨k + 1, upd V j (.slice A4 NL c4), by omega, by go_num, HG3.out.congr HE.out⟩
          case measure => simp [intOf]; omega
    · have hkn : s.take k = s := List.take_of_length_le (by have := HN.out; omega)
      rw [hkn] at HG
      obtain ⟨AA, cc, hV⟩ := HG.out.rows.form NN HNN.out
      replace HG := Lib.hid (HG.out.congrV hV)
      have a0 : wr.cell? ⟨w.heap.size + 1, 0, none⟩ = some (.slice (AA 0) (NN 0) (cc 0)) := HG.out.all.cell 0 (by omega)
      have a1 : wr.cell? ⟨w.heap.size + 1, 1, none⟩ = some (.slice (AA 1) (NN 1) (cc 1)) := HG.out.all.cell 1 (by omega)
      have a2 : wr.cell? ⟨w.heap.size + 1, 2, none⟩ = some (.slice (AA 2) (NN 2) (cc 2)) := HG.out.all.cell 2 (by omega)
      have a3 : wr.cell? ⟨w.heap.size + 1, 3, none⟩ = some (.slice (AA 3) (NN 3) (cc 3)) := HG.out.all.cell 3 (by omega)
      have a4 : wr.cell? ⟨w.heap.size + 1, 4, none⟩ = some (.slice (AA 4) (NN 4) (cc 4)) := HG.out.all.cell 4 (by omega)
      have a5 : wr.cell? ⟨w.heap.size + 1, 5, none⟩ = some (.slice (AA 5) (NN 5) (cc 5)) := HG.out.all.cell 5 (by omega)
      have a6 : wr.cell? ⟨w.heap.size + 1, 6, none⟩ = some (.slice (AA 6) (NN 6) (cc 6)) := HG.out.all.cell 6 (by omega)
      have a7 : wr.cell? ⟨w.heap.size + 1, 7, none⟩ = some (.slice (AA 7) (NN 7) (cc 7)) := HG.out.all.cell 7 (by omega)
      have a8 : wr.cell? ⟨w.heap.size + 1, 8, none⟩ = some (.slice (AA 8) (NN 8) (cc 8)) := HG.out.all.cell 8 (by omega)
      have a9 : wr.cell? ⟨w.heap.size + 1, 9, none⟩ = some (.slice (AA 9) (NN 9) (cc 9)) := HG.out.all.cell 9 (by omega)
      have a10 : wr.cell? ⟨w.heap.size + 1, 10, none⟩ = some (.slice (AA 10) (NN 10) (cc 10)) := HG.out.all.cell 10 (by omega)
      have a11 : wr.cell? ⟨w.heap.size + 1, 11, none⟩ = some (.slice (AA 11) (NN 11) (cc 11)) := HG.out.all.cell 11 (by omega)
      have a12 : wr.cell? ⟨w.heap.size + 1, 12, none⟩ = some (.slice (AA 12) (NN 12) (cc 12)) := HG.out.all.cell 12 (by omega)
      have a13 : wr.cell? ⟨w.heap.size + 1, 13, none⟩ = some (.slice (AA 13) (NN 13) (cc 13)) := HG.out.all.cell 13 (by omega)
      have a14 : wr.cell? ⟨w.heap.size + 1, 14, none⟩ = some (.slice (AA 14) (NN 14) (cc 14)) := HG.out.all.cell 14 (by omega)
      have a15 : wr.cell? ⟨w.heap.size + 1, 15, none⟩ = some (.slice (AA 15) (NN 15) (cc 15)) := HG.out.all.cell 15 (by omega)
      have z0 : wr.cell? ⟨w.heap.size, 0, none⟩ = some (.slice none 0 0) := HG.out.res.cell 0 (by omega)
      have z1 : wr.cell? ⟨w.heap.size, 1, none⟩ = some (.slice none 0 0) := HG.out.res.cell 1 (by omega)
      have z2 : wr.cell? ⟨w.heap.size, 2, none⟩ = some (.slice none 0 0) := HG.out.res.cell 2 (by omega)
      have z3 : wr.cell? ⟨w.heap.size, 3, none⟩ = some (.slice none 0 0) := HG.out.res.cell 3 (by omega)
      have z4 : wr.cell? ⟨w.heap.size, 4, none⟩ = some (.slice none 0 0) := HG.out.res.cell 4 (by omega)
      have z5 : wr.cell? ⟨w.heap.size, 5, none⟩ = some (.slice none 0 0) := HG.out.res.cell 5 (by omega)
      have z6 : wr.cell? ⟨w.heap.size, 6, none⟩ = some (.slice none 0 0) := HG.out.res.cell 6 (by omega)
      have z7 : wr.cell? ⟨w.heap.size, 7, none⟩ = some (.slice none 0 0) := HG.out.res.cell 7 (by omega)
      have z8 : wr.cell? ⟨w.heap.size, 8, none⟩ = some (.slice none 0 0) := HG.out.res.cell 8 (by omega)
      have z9 : wr.cell? ⟨w.heap.size, 9, none⟩ = some (.slice none 0 0) := HG.out.res.cell 9 (by omega)
      have z10 : wr.cell? ⟨w.heap.size, 10, none⟩ = some (.slice none 0 0) := HG.out.res.cell 10 (by omega)
      have z11 : wr.cell? ⟨w.heap.size, 11, none⟩ = some (.slice none 0 0) := HG.out.res.cell 11 (by omega)
      have z12 : wr.cell? ⟨w.heap.size, 12, none⟩ = some (.slice none 0 0) := HG.out.res.cell 12 (by omega)
      have z13 : wr.cell? ⟨w.heap.size, 13, none⟩ = some (.slice none 0 0) := HG.out.res.cell 13 (by omega)
      have z14 : wr.cell? ⟨w.heap.size, 14, none⟩ = some (.slice none 0 0) := HG.out.res.cell 14 (by omega)
      have z15 : wr.cell? ⟨w.heap.size, 15, none⟩ = some (.slice none 0 0) := HG.out.res.cell 15 (by omega)
      have zf := HG.out.res.free
      clear hkn hV
      go_wp2_with fail
      clear a0 a1 a2 a3 a4 a5 a6 a7 a8 a9 a10 a11 a12 a13 a14 a15 z0 z1 z2 z3 z4 z5 z6 z7 z8 z9 z10 z11 z12 z13 z14 z15 zf
      refine gat_end HG.out ?_ ?_
      · rfl
      intro w' hg
      have r0 : w'.cell? ⟨w.heap.size, 0, none⟩ = some (.slice (AA 0) (NN 0) (cc 0)) := hg.cell 0 (by omega)
      have r1 : w'.cell? ⟨w.heap.size, 1, none⟩ = some (.slice (AA 1) (NN 1) (cc 1)) := hg.cell 1 (by omega)
      have r2 : w'.cell? ⟨w.heap.size, 2, none⟩ = some (.slice (AA 2) (NN 2) (cc 2)) := hg.cell 2 (by omega)
      have r3 : w'.cell? ⟨w.heap.size, 3, none⟩ = some (.slice (AA 3) (NN 3) (cc 3)) := hg.cell 3 (by omega)
      have r4 : w'.cell? ⟨w.heap.size, 4, none⟩ = some (.slice (AA 4) (NN 4) (cc 4)) := hg.cell 4 (by omega)
      have r5 : w'.cell? ⟨w.heap.size, 5, none⟩ = some (.slice (AA 5) (NN 5) (cc 5)) := hg.cell 5 (by omega)
      have r6 : w'.cell? ⟨w.heap.size, 6, none⟩ = some (.slice (AA 6) (NN 6) (cc 6)) := hg.cell 6 (by omega)
      have r7 : w'.cell? ⟨w.heap.size, 7, none⟩ = some (.slice (AA 7) (NN 7) (cc 7)) := hg.cell 7 (by omega)
      have r8 : w'.cell? ⟨w.heap.size, 8, none⟩ = some (.slice (AA 8) (NN 8) (cc 8)) := hg.cell 8 (by omega)
      have r9 : w'.cell? ⟨w.heap.size, 9, none⟩ = some (.slice (AA 9) (NN 9) (cc 9)) := hg.cell 9 (by omega)
      have r10 : w'.cell? ⟨w.heap.size, 10, none⟩ = some (.slice (AA 10) (NN 10) (cc 10)) := hg.cell 10 (by omega)
      have r11 : w'.cell? ⟨w.heap.size, 11, none⟩ = some (.slice (AA 11) (NN 11) (cc 11)) := hg.cell 11 (by omega)
      have r12 : w'.cell? ⟨w.heap.size, 12, none⟩ = some (.slice (AA 12) (NN 12) (cc 12)) := hg.cell 12 (by omega)
      have r13 : w'.cell? ⟨w.heap.size, 13, none⟩ = some (.slice (AA 13) (NN 13) (cc 13)) := hg.cell 13 (by omega)
      have r14 : w'.cell? ⟨w.heap.size, 14, none⟩ = some (.slice (AA 14) (NN 14) (cc 14)) := hg.cell 14 (by omega)
      have r15 : w'.cell? ⟨w.heap.size, 15, none⟩ = some (.slice (AA 15) (NN 15) (cc 15)) := hg.cell 15 (by omega)
      simp [results, Try.results38, go_sem, r0, r1, r2, r3, r4, r5, r6, r7, r8, r9, r10, r11, r12, r13, r14, r15]
end Go.Proofs.Ytdlloobdmfoalaa

/-
  Layer 14 (vset), the program: is a set right?
-/
namespace Go.Proofs.Ytdlloobdmfoalaa
open Go.RowKit

/-- May the counts of a replica stand in a right set? -/
def oneR (k : Kn) : Bool := (decide (1 ≤ k.rep) && decide (k.rep ≤ 16)) && (!(k.runs.length == 0) && rightC k.runs)
theorem upS_one0 (k : Kn) (s : List Kn) : upS 0 (k :: s) = (oneR k && upS k.rep s) := by
  rw [upS_bool]
  unfold oneR
  have e : decide (0 < k.rep) = decide (1 ≤ k.rep) := decide_eq_decide.2 (by omega)
  rw [e]
  cases decide (1 ≤ k.rep) <;> cases decide (k.rep ≤ 16) <;> cases (k.runs.length == 0) <;> cases rightC k.runs <;> rfl
theorem upS_one1 {Z : Int} (hZ : 1 ≤ Z) (k : Kn) (s : List Kn) : upS Z (k :: s) = (oneR k && ((!decide (Z ≥ k.rep)) && upS k.rep s)) := by
  rw [upS_bool]
  unfold oneR
  have e : decide (Z < k.rep) = !decide (Z ≥ k.rep) := by
    by_cases h : Z < k.rep
    · rw [decide_eq_true h, decide_eq_false (by omega)]; rfl
    · rw [decide_eq_false h, decide_eq_true (by omega)]; rfl
  rw [e]
  by_cases h : 1 ≤ k.rep
  · rw [decide_eq_true h]
    cases decide (Z ≥ k.rep) <;> cases decide (k.rep ≤ 16) <;> cases (k.runs.length == 0) <;> cases rightC k.runs <;> rfl
  · rw [decide_eq_false h, decide_eq_true (show Z ≥ k.rep by omega)]; rfl
set_option maxRecDepth 100000 in
theorem vs_right1 (x : Kn) (A : Option Addr) (c n : Nat) (hn : n = x.runs.length) (X : Int) (hX : x.rep = X) (v : Bool) (hv : oneR x = v) (w : World) (hr : kRn.Rd w w.heap.size A c x.runs) :
    Calls Try.prog 29 #[.agg #[.int .i64 X, .slice A n c]] w fun e w' => e = .returned (.bool v) ∧ Below w.heap.size w w' := by
  have hb := below_new w (.cells #[.int .i64 X, .slice A n c] 48)
  obtain ⟨z, hz⟩ : ∃ z, rightC x.runs = z := ⟨_, rfl⟩
  obtain ⟨p, hp⟩ : ∃ p, (decide (1 ≤ X) && decide (X ≤ 16)) = p := ⟨_, rfl⟩
  obtain ⟨q, hq⟩ : ∃ q, (n == 0) = q := ⟨_, rfl⟩
  have C1 := fun w => Lib.hid (vs_rep X p hp w)
  have C2 := Lib.hid (cn_right A c n x.runs hn z hz _ (hr.call hb))
  have HB := Lib.hid hb
  have hmx := rd_maxC hr hn
  unfold oneR at hv
  rw [hX, ← hn, hz, hp, hq] at hv
  have h3 : decide ((n : Int) > 0) = !q := by
    rw [← hq]
    by_cases h : n = 0
    · subst h; rfl
    · rw [decide_eq_true (by omega), beq_eq_false_iff_ne.2 h]; rfl
  have h4 : decide ((0 : Int) < (n : Int)) = !q := h3
  have h5 : decide (0 < n) = !q := by
    rw [← h3]; exact decide_eq_decide.2 (by omega)
  subst hv
  clear hn hr hz hp hX hb hq
  cases p <;> cases q
  all_goals
    go_enter Try.func29, Try.ntmps29
    go_wp2_with (first
      | ((with_reducible refine (C1 _).out.mono ?_); rintro e w1 ⟨rfl, rfl⟩)
      | ((with_reducible refine C2.out.mono ?_); rintro e w1 ⟨rfl, hq⟩; have HQ := Lib.hid hq; clear hq))
    go_ret
    first
      | exact ⟨rfl, HB.out⟩
      | exact ⟨rfl, HB.out.trans (HQ.out.mono HB.out.size)⟩
set_option maxRecDepth 100000 in
set_option maxHeartbeats 8000000 in
theorem vs_right (A : Option Addr) (c n : Nat) (s : List Kn) (hn : n = s.length) (v : Bool) (hv : rightS s = v) (w : World) (hr : RdK w w.heap.size A c s) :
    Calls Try.prog 10 #[.slice A n c] w fun e w' => e = .returned (.bool v) ∧ Below w.heap.size w w' := by
  have HN := Lib.hid hn
  have HR := Lib.hid hr
  have HV := Lib.hid hv
  have hmx := rdk_max hr hn
  have hcx : n ≤ c := by rw [hn]; exact hr.room
  clear hn hr hv
  go_enter Try.func10, Try.ntmps10
  go_wp2_with fail
  go_loopw [7] (fun i wr => ∃ k : Nat, k ≤ n ∧ i = .int .i64 k ∧ Hid ((k = 0 ∧ upS 0 s = v) ∨ ∃ j p, k = j + 1 ∧ s[j]? = some p ∧ 1 ≤ p.rep ∧ upS p.rep (s.drop k) = v) ∧ Hid (Below w.heap.size w wr)) (fun i _ => n - (intOf i).toNat)
  case atStart => exact ⟨0, by omega, rfl, .inl ⟨rfl, HV.out⟩, Below.refl _ _⟩
  case round =>
    obtain ⟨k, hk, rfl, HL, HW⟩ := hrel
    by_cases hlt : k < n
    · obtain ⟨r, hg, hd, -⟩ := cnt_get (l := s) (k := k) (by have := HN.out; omega)
      obtain ⟨b, o, rfl, hb1, hcell⟩ := knowns_at (HR.out.below HW.out) (by have := HN.out; omega)
      obtain ⟨A1, n1, c1, hn1, hr1, q0, q1⟩ := hcell k r hg
      obtain ⟨X, hX⟩ : ∃ X, r.rep = X := ⟨_, rfl⟩
      obtain ⟨z, hz⟩ : ∃ z, oneR r = z := ⟨_, rfl⟩
      have hz1 : z = true → 1 ≤ X := fun h => by
        rw [h] at hz
        unfold oneR at hz
        rw [Bool.and_eq_true, Bool.and_eq_true, decide_eq_true_eq] at hz
        rw [← hX]; exact hz.1.1
      obtain ⟨wb, hwb⟩ : ∃ wb, wr.alloc (.cells #[.int .i64 X, .slice A1 n1 c1] 48) = wb := ⟨_, rfl⟩
      have hbb : Below wr.heap.size wr wb := by rw [← hwb]; exact below_new _ _
      have CS := Lib.hid (fun (L : List (Addr × Value)) => fun (W : World) (hC : CellL wb L W) => (vs_right1 r A1 c1 n1 hn1 X hX z hz W (((hr1.more HW.out.size).call hbb).call (cellL_size hC))).mono fun (e' : Ending) (W' : World) ⟨h1, h2⟩ => (⟨h1, cellL_call h2 hC⟩ : e' = Ending.returned (.bool z) ∧ CellL wb L W'))
      rw [hX] at q0
      have hnew := heap_new wr (.cells #[.int .i64 X, .slice A1 n1 c1] 48) _ rfl
      have t0 : wb.cell? ⟨wr.heap.size, 0, none⟩ = some (.int .i64 X) := by rw [← hwb, cell_of_row _ _ _ _ _ _ hnew]; rfl
      have t1 : wb.cell? ⟨wr.heap.size, 1, none⟩ = some (.slice A1 n1 c1) := by rw [← hwb, cell_of_row _ _ _ _ _ _ hnew]; rfl
      have HWB := Lib.hid (HW.out.trans (hbb.mono HW.out.size))
      have hk0 : (0 : Int) ≤ (k : Int) := by omega
      have hkn : (k : Int) < (n : Int) := by omega
      rcases HL.out with ⟨h0, hL⟩ | ⟨j, p, hj, hgj, hp1, hL⟩
      · subst h0
        rw [List.drop_zero] at hd
        have HF := Lib.hid (show (z && upS X (s.drop (0 + 1))) = v by rw [hd, upS_one0, hX, hz] at hL; exact hL)
        have HNX := Lib.hid (fun (h1 : z = true) (h : upS X (s.drop (0 + 1)) = v) => show (0 + 1 = 0 ∧ upS 0 s = v) ∨ ∃ j p, 0 + 1 = j + 1 ∧ s[j]? = some p ∧ 1 ≤ p.rep ∧ upS p.rep (s.drop (0 + 1)) = v from .inr ⟨0, r, rfl, hg, by rw [hX]; exact hz1 h1, by rw [hX]; exact h⟩)
        rw [Nat.zero_mul, Nat.add_zero] at q0 q1
        have HC := Lib.hid (show CellL wb [(⟨wr.heap.size, 0, none⟩, .int .i64 X), (⟨wr.heap.size, 1, none⟩, .slice A1 n1 c1)] wb from ⟨t0, t1, Below.refl _ _⟩)
        clear hcell hg hd hX hz hz1 hL HL hr1 hn1 t0 t1 hnew hbb
        cases z
        all_goals
          go_upto_region 4 with fail
          refine q_region (CellL wb [(⟨wr.heap.size, 0, none⟩, .int .i64 X), (⟨wr.heap.size, 1, none⟩, .slice A1 n1 c1)]) (by kernel_rfl) (by kernel_rfl) (cellL_drew HC.out) ?_
          repeat (first
            | go_big_quiet_skip
            | (go_big_quiet_want; (first
              | (refine q_take (v := ?_) ?_ ?_; rotate_left; (focus (intro w hSw; (try simp only [CellL] at hSw); go_split_ands; go_simp; (try (rw [if_neg (by omega)])); (try with_reducible rfl); done)))
              | (refine q_call (CS.out _) ?_ ?_; (focus (intro w hSw; (try simp only [CellL] at hSw); go_split_ands; go_simp; (try (rw [if_neg (by omega)])); done)))); (try simp only [Act.put, List.setIfInBounds_toArray, List.set_cons_zero, List.set_cons_succ]); go_big_quiet_on))
          refine wpQuiet_nil ?_
          intro w2 hw2
          have HB2 := Lib.hid (HWB.out.trans ((cellL_size hw2).mono HWB.out.size))
          clear hw2
          go_wp2_with fail
          first
            | (go_ret; exact ⟨ret_bool (show false = v from HF.out), HB2.out⟩)
            | (go_roundw
               case rel => exact ⟨0 + 1, by omega, by go_num, HNX.out rfl HF.out, HB2⟩
               case measure => simp [intOf]; omega)
      · subst hj
        obtain ⟨A2, n2, c2, hn2, hr2, u0, u1⟩ := hcell j p hgj
        obtain ⟨Z, hZ⟩ : ∃ Z, p.rep = Z := ⟨_, rfl⟩
        rw [hZ] at u0 hp1 hL
        obtain ⟨y, hy⟩ : ∃ y, decide (Z ≥ X) = y := ⟨_, rfl⟩
        have hy2 : decide (X ≤ Z) = y := hy
        have HF := Lib.hid (show (z && ((!y) && upS X (s.drop (j + 1 + 1)))) = v by rw [hd, upS_one1 hp1, hX, hz, hy] at hL; exact hL)
        have HNX := Lib.hid (fun (h1 : z = true) (h : upS X (s.drop (j + 1 + 1)) = v) => show (j + 1 + 1 = 0 ∧ upS 0 s = v) ∨ ∃ j' p, j + 1 + 1 = j' + 1 ∧ s[j']? = some p ∧ 1 ≤ p.rep ∧ upS p.rep (s.drop (j + 1 + 1)) = v from .inr ⟨j + 1, r, rfl, hg, by rw [hX]; exact hz1 h1, by rw [hX]; exact h⟩)
        have hk1 : (0 : Int) ≤ (j : Int) + 1 := by omega
        have hkn1 : (j : Int) + 1 < (n : Int) := by omega
        have hj0 : (0 : Int) ≤ (j : Int) := by omega
        have hjn : (j : Int) < (n : Int) := by omega
        have hjd : decide ((j : Int) < 0) = false := decide_eq_false (by omega)
        have hjg : decide ((0 : Int) < (j : Int) + 1) = true := decide_eq_true (by omega)
        have hjg2 : decide ((j : Int) + 1 > 0) = true := hjg
        have hjw : IntKind.i64.wrap ((j : Int) + 1 - 1) = (j : Int) := by rw [Int.add_sub_cancel]; exact IntWalk.i64_in _ (by omega)
        have hjw2 : IntKind.i64.wrap (j : Int) = (j : Int) := IntWalk.i64_in _ (by omega)
        have u2 : wb.cell? ⟨b, o + j * 2, none⟩ = some (.int .i64 Z) := ((bcell hbb).1 _ _ (World.block_lt_of_cell? wr _ u0)).trans u0
        have HC := Lib.hid (show CellL wb [(⟨wr.heap.size, 0, none⟩, .int .i64 X), (⟨wr.heap.size, 1, none⟩, .slice A1 n1 c1), (⟨b, o + j * 2, none⟩, .int .i64 Z)] wb from ⟨t0, t1, u2, Below.refl _ _⟩)
        clear hcell hg hgj hd hX hZ hz hz1 hL HL hr1 hn1 hr2 hn2 t0 t1 u0 u1 u2 hnew hbb
        cases z <;> cases y
        all_goals
          go_upto_region 4 with fail
          refine q_region (CellL wb [(⟨wr.heap.size, 0, none⟩, .int .i64 X), (⟨wr.heap.size, 1, none⟩, .slice A1 n1 c1), (⟨b, o + j * 2, none⟩, .int .i64 Z)]) (by kernel_rfl) (by kernel_rfl) (cellL_drew HC.out) ?_
          repeat (first
            | go_big_quiet_skip
            | (go_big_quiet_want; (first
              | (refine q_take (v := ?_) ?_ ?_; rotate_left; (focus (intro w hSw; (try simp only [CellL] at hSw); go_split_ands; go_simp; (try (rw [if_neg (by omega)])); (try with_reducible rfl); done)))
              | (refine q_call (CS.out _) ?_ ?_; (focus (intro w hSw; (try simp only [CellL] at hSw); go_split_ands; go_simp; (try (rw [if_neg (by omega)])); done)))); (try simp only [Act.put, List.setIfInBounds_toArray, List.set_cons_zero, List.set_cons_succ]); go_big_quiet_on))
          refine wpQuiet_nil ?_
          intro w2 hw2
          have HB2 := Lib.hid (HWB.out.trans ((cellL_size hw2).mono HWB.out.size))
          clear hw2
          go_wp2_with fail
          first
            | (go_ret; exact ⟨ret_bool (show false = v from HF.out), HB2.out⟩)
            | (go_roundw
               case rel => exact ⟨j + 1 + 1, by omega, by go_num, HNX.out rfl HF.out, HB2⟩
               case measure => simp [intOf]; omega)
    · have HF := Lib.hid (show true = v by
        rcases HL.out with ⟨h0, hL⟩ | ⟨j, p, hj, hgj, hp1, hL⟩
        · have : s = [] := List.eq_nil_of_length_eq_zero (by have := HN.out; omega)
          rw [← hL, this]; rfl
        · rw [← hL, List.drop_eq_nil_of_le (by have := HN.out; omega)]; rfl)
      go_wp2_with fail
      go_ret
      exact ⟨ret_bool HF.out, HW.out⟩
end Go.Proofs.Ytdlloobdmfoalaa

/-
  The laws of layer 13: what they ask of the program's functions; the chapter's example.
-/
namespace Go.Proofs.Ytdlloobdmfoalaa
open Go.RowKit

def CRightC (F : FuncId) : Prop := ∀ (A : Option Addr) (c n : Nat) (l : List Rn), n = l.length → n ≤ 100000 → ∀ v, rightC l = v → ∀ w, kRn.Rd w w.heap.size A c l → Calls Try.prog F #[.slice A n c] w fun e w' => e = .returned (.bool v) ∧ Below w.heap.size w w'
def CHasC (F : FuncId) : Prop := ∀ (A : Option Addr) (c n : Nat) (l : List Rn) (x : Int), n = l.length → n ≤ 100000 → ∀ v, hasC l x = v → ∀ w, kRn.Rd w w.heap.size A c l → Calls Try.prog F #[.slice A n c, .int .i64 x] w fun e w' => e = .returned (.bool v) ∧ Below w.heap.size w w'
def COfC (F : FuncId) : Prop := ∀ (A : Option Addr) (c n : Nat) (l : List Rn), n = l.length → n ≤ 100000 → ∀ U, ofC l = U → ∀ N, U.length = N → ∀ w, kRn.Rd w w.heap.size A c l → Calls Try.prog F #[.slice A n c] w (RetC w N U)
def CAddC (F : FuncId) : Prop := ∀ (A B : Option Addr) (c d n m : Nat) (l : List Rn) (cs : List Int), n = l.length → m = cs.length → n ≤ 100000 → m ≤ 100000 → ∀ U, ofC (l ++ cs.map runC) = U → ∀ N, U.length = N → ∀ w, kRn.Rd w w.heap.size A c l → kIt.Rd w w.heap.size B d cs →
  Calls Try.prog F #[.slice A n c, .slice B m d] w (RetC w N U)
def CSetC (F : FuncId) (op : Int) : Prop := ∀ (A B : Option Addr) (c d n m : Nat) (a b : List Rn), n = a.length → m = b.length → n ≤ 100000 → m ≤ 100000 → ∀ U, makeC op a b = U → ∀ N, U.length = N → ∀ w, kRn.Rd w w.heap.size A c a → kRn.Rd w w.heap.size B d b →
  Calls Try.prog F #[.slice A n c, .slice B m d] w (RetC w N U)
def CNumC (F : FuncId) (f : List Rn → Int) : Prop := ∀ (A : Option Addr) (c n : Nat) (l : List Rn), n = l.length → n ≤ 100000 → ∀ z, f l = z → ∀ w, kRn.Rd w w.heap.size A c l → Calls Try.prog F #[.slice A n c] w fun e w' => e = .returned (.int .i64 z) ∧ Below w.heap.size w w'
theorem csame_is (A B : Option Addr) (c d n m : Nat) (a : List Rn) (hn : n = a.length) (hm : m = a.length) (w : World) (ha : kRn.Rd w w.heap.size A c a) (hb : kRn.Rd w w.heap.size B d a) :
    Calls Try.prog 37 #[.slice A n c, .slice B m d] w fun e w' => e = .returned (.bool true) ∧ Below w.heap.size w w' := by
  have hnm : n = m := hn.trans hm.symm
  subst hnm
  exact (ref_csame A B c d n a hn w ha hb).mono fun _ _ h => h
theorem size13 (w : World) (o : Obj) : (w.alloc o).heap.size = w.heap.size + 1 := by simp
noncomputable def awk13 (w : World) : World := (w.alloc (.cells #[.int .i64 8, .int .i64 9, .int .i64 1, .int .i64 4] 45)).alloc (.cells #[.int .i64 5] 3)
theorem awk13_rows (w : World) : kRn.Rd (awk13 w) (awk13 w).heap.size (some ⟨w.heap.size, 0, none⟩) 2 [⟨8, 9⟩, ⟨1, 4⟩] ∧ kIt.Rd (awk13 w) (awk13 w).heap.size (some ⟨w.heap.size + 1, 0, none⟩) 1 [5] ∧ Below w.heap.size w (awk13 w) := by
  have h1 := Kind.rd_new (k := kRn) (w := w) (cs := #[.int .i64 8, .int .i64 9, .int .i64 1, .int .i64 4]) (t := 45) (l := [⟨8, 9⟩, ⟨1, 4⟩]) (n := 2) rfl rfl (by simp)
  have h2 := Kind.rd_new (k := kIt) (w := w.alloc (.cells #[.int .i64 8, .int .i64 9, .int .i64 1, .int .i64 4] 45)) (cs := #[.int .i64 5]) (t := 3) (l := [5]) (n := 1) rfl rfl (by simp)
  rw [← size13 w (.cells #[.int .i64 8, .int .i64 9, .int .i64 1, .int .i64 4] 45)] at h1
  rw [← size13 _ (.cells #[.int .i64 5] 3), size13 w] at h2
  exact ⟨h1.call (below_new _ _), h2, (below_new _ _).trans ((below_new _ _).mono (by simp))⟩
end Go.Proofs.Ytdlloobdmfoalaa

/-
  The laws of layer 13: CountsSets.
-/
namespace Go.Proofs.Ytdlloobdmfoalaa
open Go.RowKit

end Go.Proofs.Ytdlloobdmfoalaa
