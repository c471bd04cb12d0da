/-
  Several texts in one: CntPure.
-/
namespace Go.Proofs.YtopjhebhdopjpaaGreat

structure Rn where
  fr : Int
  to : Int
def oneC (r : Rn) : Bool := decide (1 ≤ r.fr) && (decide (r.fr ≤ r.to) && decide (r.to ≤ 1099511627776))
theorem oneC_iff {r : Rn} : oneC r = true ↔ 1 ≤ r.fr ∧ r.fr ≤ r.to ∧ r.to ≤ 1099511627776 := by
  unfold oneC; simp only [Bool.and_eq_true, decide_eq_true_eq]
def inC (r : Rn) (n : Int) : Bool := oneC r && (decide (r.fr ≤ n) && decide (n ≤ r.to))
theorem inC_iff {r : Rn} {n : Int} : inC r n = true ↔ oneC r = true ∧ r.fr ≤ n ∧ n ≤ r.to := by
  unfold inC; simp only [Bool.and_eq_true, decide_eq_true_eq]
def hasC (l : List Rn) (n : Int) : Bool := l.any fun r => inC r n
theorem hasC_nil (n : Int) : hasC [] n = false := rfl
theorem hasC_cons (r : Rn) (l : List Rn) (n : Int) : hasC (r :: l) n = (inC r n || hasC l n) := rfl
theorem hasC_append (a b : List Rn) (n : Int) : hasC (a ++ b) n = (hasC a n || hasC b n) := by simp [hasC]
theorem hasC_range {l : List Rn} {n : Int} (h : hasC l n = true) : 1 ≤ n ∧ n ≤ 1099511627776 := by
  unfold hasC at h
  obtain ⟨r, _, hr⟩ := List.any_eq_true.1 h
  obtain ⟨h1, h2, h3⟩ := inC_iff.1 hr
  have := oneC_iff.1 h1
  omega
def rightC : List Rn → Bool
  | [] => true
  | [r] => oneC r
  | r :: t :: l => oneC r && decide (r.to + 2 ≤ t.fr) && rightC (t :: l)
theorem rightC_head {r : Rn} {l : List Rn} (h : rightC (r :: l) = true) : oneC r = true := by
  cases l with
  | nil => exact h
  | cons t l => unfold rightC at h; simp only [Bool.and_eq_true] at h; exact h.1.1
theorem rightC_tail {r : Rn} {l : List Rn} (h : rightC (r :: l) = true) : rightC l = true := by
  cases l with
  | nil => rfl
  | cons t l => unfold rightC at h; simp only [Bool.and_eq_true] at h; exact h.2
theorem rightC_gap {r t : Rn} {l : List Rn} (h : rightC (r :: t :: l) = true) : r.to + 2 ≤ t.fr := by
  unfold rightC at h; simp only [Bool.and_eq_true, decide_eq_true_eq] at h; exact h.1.2
theorem rightC_all : ∀ {l : List Rn}, rightC l = true → ∀ r ∈ l, oneC r = true
  | [], _, r, hr => by cases hr
  | t :: l, h, r, hr => by
    rcases List.mem_cons.1 hr with rfl | hr
    · exact rightC_head h
    · exact rightC_all (rightC_tail h) r hr
theorem hasC_above : ∀ {l : List Rn} {r : Rn} {n : Int}, rightC (r :: l) = true → hasC l n = true → r.to + 2 ≤ n
  | [], _, _, _, h => by cases h
  | t :: l, r, n, hr, h => by
    have hg := rightC_gap hr
    have ht := oneC_iff.1 (rightC_head (rightC_tail hr))
    rw [hasC_cons, Bool.or_eq_true] at h
    rcases h with h | h
    · have := (inC_iff.1 h).2; omega
    · have := hasC_above (rightC_tail hr) h
      omega
theorem hasC_least {l : List Rn} {r : Rn} {n : Int} (hr : rightC (r :: l) = true) (h : hasC (r :: l) n = true) : r.fr ≤ n := by
  rw [hasC_cons, Bool.or_eq_true] at h
  have h0 := oneC_iff.1 (rightC_head hr)
  rcases h with h | h
  · exact (inC_iff.1 h).2.1
  · have := hasC_above hr h; omega
theorem hasC_first {l : List Rn} {r : Rn} (hr : rightC (r :: l) = true) {n : Int} (h1 : r.fr ≤ n) (h2 : n ≤ r.to) : hasC (r :: l) n = true := by
  rw [hasC_cons, inC_iff.2 ⟨rightC_head hr, h1, h2⟩]; rfl
theorem hasC_behind {l : List Rn} {r : Rn} (hr : rightC (r :: l) = true) : hasC (r :: l) (r.to + 1) = false := by
  cases h : hasC (r :: l) (r.to + 1) with
  | false => rfl
  | true =>
    rw [hasC_cons, Bool.or_eq_true] at h
    rcases h with h | h
    · have := (inC_iff.1 h).2.2; omega
    · have := hasC_above hr h; omega
theorem hasC_tail {l : List Rn} {r : Rn} (hr : rightC (r :: l) = true) (n : Int) : hasC l n = (hasC (r :: l) n && decide (r.to < n)) := by
  by_cases hn : r.to < n
  · rw [decide_eq_true hn, Bool.and_true, hasC_cons]
    have : inC r n = false := by
      cases h : inC r n with
      | false => rfl
      | true => have := (inC_iff.1 h).2.2; omega
    rw [this]; rfl
  · rw [decide_eq_false hn, Bool.and_false]
    cases h : hasC l n with
    | false => rfl
    | true => have := hasC_above hr h; omega
theorem rn_ext {a b : Rn} (h1 : a.fr = b.fr) (h2 : a.to = b.to) : a = b := by cases a; cases b; simp_all
theorem rightC_unique : ∀ {a b : List Rn}, rightC a = true → rightC b = true → (∀ n, hasC a n = hasC b n) → a = b
  | [], [], _, _, _ => rfl
  | [], t :: b, _, hb, h => by
    have h0 := oneC_iff.1 (rightC_head hb)
    have := hasC_first hb (Int.le_refl _) h0.2.1
    rw [← h] at this; cases this
  | r :: a, [], ha, _, h => by
    have h0 := oneC_iff.1 (rightC_head ha)
    have := hasC_first ha (Int.le_refl _) h0.2.1
    rw [h] at this; cases this
  | r :: a, t :: b, ha, hb, h => by
    have h0 := oneC_iff.1 (rightC_head ha)
    have k0 := oneC_iff.1 (rightC_head hb)
    have e1 : t.fr ≤ r.fr := hasC_least hb (by rw [← h]; exact hasC_first ha (Int.le_refl _) h0.2.1)
    have e2 : r.fr ≤ t.fr := hasC_least ha (by rw [h]; exact hasC_first hb (Int.le_refl _) k0.2.1)
    have e3 : r.to = t.to := by
      rcases Int.lt_trichotomy r.to t.to with h1 | h1 | h1
      · have h2 := hasC_behind ha
        rw [h, hasC_first hb (n := r.to + 1) (by omega) (by omega)] at h2; cases h2
      · exact h1
      · have h2 := hasC_behind hb
        rw [← h, hasC_first ha (n := t.to + 1) (by omega) (by omega)] at h2; cases h2
    have e : r = t := rn_ext (by omega) e3
    subst e
    rw [rightC_unique (rightC_tail ha) (rightC_tail hb) fun n => by rw [hasC_tail ha, hasC_tail hb, h]]

def putC (o : Option Rn) (x y : Int) : List Rn × Option Rn := match o with
  | some r => (match decide (r.to = x - 1) with
    | true => ([], some ⟨r.fr, y - 1⟩)
    | false => ([r], some ⟨x, y - 1⟩))
  | none => ([], some ⟨x, y - 1⟩)
def mkC (f : Int → Bool) : List Int → Option Rn → List Rn
  | [], o => o.toList
  | [_], o => o.toList
  | x :: y :: es, o => match f x with
    | true => (putC o x y).1 ++ mkC f (y :: es) (putC o x y).2
    | false => mkC f (y :: es) o
theorem mkC_out {f : Int → Bool} {x y : Int} {es : List Int} {o : Option Rn} (h : f x = false) : mkC f (x :: y :: es) o = mkC f (y :: es) o := by rw [mkC, h]
theorem mkC_in {f : Int → Bool} {x y : Int} {es : List Int} {o : Option Rn} (h : f x = true) : mkC f (x :: y :: es) o = (putC o x y).1 ++ mkC f (y :: es) (putC o x y).2 := by rw [mkC, h]
theorem mkC_on {f : Int → Bool} {x y : Int} {es : List Int} (h : f x = true) : mkC f (x :: y :: es) none = mkC f (y :: es) (some ⟨x, y - 1⟩) := by rw [mkC_in h]; rfl
theorem putC_more {x y : Int} {r : Rn} (h' : r.to = x - 1) : putC (some r) x y = ([], some ⟨r.fr, y - 1⟩) := by unfold putC; simp only [decide_eq_true h']
theorem putC_next {x y : Int} {r : Rn} (h' : r.to ≠ x - 1) : putC (some r) x y = ([r], some ⟨x, y - 1⟩) := by unfold putC; simp only [decide_eq_false h']
theorem mkC_more {f : Int → Bool} {x y : Int} {es : List Int} {r : Rn} (h : f x = true) (h' : r.to = x - 1) : mkC f (x :: y :: es) (some r) = mkC f (y :: es) (some ⟨r.fr, y - 1⟩) := by rw [mkC_in h, putC_more h']; rfl
theorem mkC_next {f : Int → Bool} {x y : Int} {es : List Int} {r : Rn} (h : f x = true) (h' : r.to ≠ x - 1) : mkC f (x :: y :: es) (some r) = r :: mkC f (y :: es) (some ⟨x, y - 1⟩) := by rw [mkC_in h, putC_next h']; rfl
def upC : Int → List Int → Bool
  | _, [] => true
  | c, x :: l => decide (c < x) && upC x l
theorem upC_head {c x : Int} {l : List Int} (h : upC c (x :: l) = true) : c < x ∧ upC x l = true := by
  unfold upC at h; simpa using h
theorem upC_all : ∀ {l : List Int} {c : Int}, upC c l = true → ∀ x ∈ l, c < x
  | [], _, _, x, hx => by cases hx
  | y :: l, c, h, x, hx => by
    obtain ⟨h1, h2⟩ := upC_head h
    rcases List.mem_cons.1 hx with rfl | hx
    · exact h1
    · have := upC_all h2 x hx; omega
def DetC (f : Int → Bool) (E : List Int) : Prop := ∀ s c, (∀ x ∈ E, s < x ↔ c < x) → f s = f c
theorem mkC_has (f : Int → Bool) : ∀ (es : List Int) (o : Option Rn) (c : Int), upC c es = true → 0 ≤ c → (∀ x ∈ es, x ≤ 1099511627777) → (∀ r, o = some r → oneC r = true ∧ ∀ x ∈ es, r.to < x) →
    (∀ x y, x ∈ es → y ∈ es → ∀ n, x ≤ n → n < y → (∀ z ∈ es, z ≤ n → z ≤ x) → f n = f x) →
    rightC (mkC f es o) = true ∧ (∀ r, o = some r → ∃ t l, mkC f es o = t :: l ∧ t.fr = r.fr) ∧ (∀ n, hasC (mkC f es o) n = ((match o with | some r => inC r n | none => false) || (f n && (es.any (fun x => decide (x ≤ n)) && es.any (fun y => decide (n < y)))))) ∧ (o = none → ∀ t l, mkC f es o = t :: l → ∃ x ∈ es, x ≤ t.fr)
  | [], o, c, _, _, _, ho, _ => by
    cases o with
    | none => exact ⟨rfl, (fun r h => by cases h), (fun n => by simp [mkC, hasC]), fun _ t l h => (by cases h)⟩
    | some r => exact ⟨(ho r rfl).1, (fun t h => by injection h with h; subst h; exact ⟨r, [], rfl, rfl⟩), (fun n => by simp [mkC, hasC]), fun h => (by cases h)⟩
  | [x], o, c, hup, hc, hx, ho, _ => by
    have hz : ∀ n, ([x].any (fun z => decide (z ≤ n)) && [x].any (fun y => decide (n < y))) = false := fun n => by
      by_cases h : x ≤ n
      · simp [h]
      · simp [h]
    cases o with
    | none => exact ⟨rfl, (fun r h => by cases h), (fun n => by rw [hz, Bool.and_false]; rfl), fun _ t l h => (by cases h)⟩
    | some r => exact ⟨(ho r rfl).1, (fun t h => by injection h with h; subst h; exact ⟨r, [], rfl, rfl⟩), (fun n => by rw [hz, Bool.and_false]; simp [mkC, hasC]), fun h => (by cases h)⟩
  | x :: y :: es, o, c, hup, hc, hx, ho, hf => by
    obtain ⟨u1, u2⟩ := upC_head hup
    obtain ⟨u3, u4⟩ := upC_head u2
    have hx1 := hx x (List.mem_cons_self ..)
    have hy1 := hx y (by simp)
    have hx2 : ∀ z ∈ y :: es, z ≤ 1099511627777 := fun z hz => hx z (List.mem_cons_of_mem _ hz)
    have hf2 : ∀ a b, a ∈ y :: es → b ∈ y :: es → ∀ n, a ≤ n → n < b → (∀ z ∈ y :: es, z ≤ n → z ≤ a) → f n = f a := fun a b ha hb n h1 h2 h3 => hf a b (List.mem_cons_of_mem _ ha) (List.mem_cons_of_mem _ hb) n h1 h2 fun z hz hzn => by
      rcases List.mem_cons.1 hz with rfl | hz
      · have := upC_all u2 a ha; omega
      · exact h3 z hz hzn
    have habove : ∀ z ∈ y :: es, x < z := upC_all u2
    have hyz : ∀ z ∈ y :: es, y ≤ z := fun z hz => by
      rcases List.mem_cons.1 hz with rfl | hz
      · exact Int.le_refl _
      · have := upC_all u4 z hz; omega
    -- between x and y it is as at x
    have hseg : ∀ n, x ≤ n → n < y → f n = f x := fun n h1 h2 => hf x y (List.mem_cons_self ..) (by simp) n h1 h2 fun z hz hzn => by
      rcases List.mem_cons.1 hz with rfl | hz
      · exact Int.le_refl _
      · have := hyz z hz; omega
    -- the word of all edges, from the word of the rest
    have hall : ∀ n, (f n && ((x :: y :: es).any (fun z => decide (z ≤ n)) && (x :: y :: es).any (fun z => decide (n < z)))) = ((f x && (decide (x ≤ n) && decide (n ≤ y - 1))) || (f n && ((y :: es).any (fun z => decide (z ≤ n)) && (y :: es).any (fun z => decide (n < z))))) := fun n => by
      simp only [List.any_cons]
      by_cases h1 : x ≤ n
      · by_cases h2 : n < y
        · have e1 : es.any (fun z => decide (z ≤ n)) = false := by
            rw [List.any_eq_false]; intro z hz; have := hyz z (List.mem_cons_of_mem _ hz); simp; omega
          rw [e1, hseg n h1 h2, decide_eq_true h1, decide_eq_true h2, decide_eq_true (show n ≤ y - 1 by omega), decide_eq_false (show ¬ y ≤ n by omega)]
          simp
        · rw [decide_eq_true h1, decide_eq_true (show y ≤ n by omega), decide_eq_false h2, decide_eq_false (show ¬ n ≤ y - 1 by omega), decide_eq_false (show ¬ n < x by omega)]
          simp
      · have e1 : es.any (fun z => decide (z ≤ n)) = false := by
          rw [List.any_eq_false]; intro z hz; have := hyz z (List.mem_cons_of_mem _ hz); simp; omega
        rw [e1, decide_eq_false h1, decide_eq_false (show ¬ y ≤ n by omega)]
        simp
    cases hfx : f x with
    | false =>
      rw [mkC_out hfx]
      obtain ⟨i1, i2, i3, i4⟩ := mkC_has f (y :: es) o x u2 (by omega) hx2 (fun r hr => ⟨(ho r hr).1, fun z hz => (ho r hr).2 z (List.mem_cons_of_mem _ hz)⟩) hf2
      refine ⟨i1, i2, fun n => ?_, fun h t l e => ?_⟩
      · rw [i3, hall, hfx]; simp
      · obtain ⟨z, hz, h5⟩ := i4 h t l e
        exact ⟨z, List.mem_cons_of_mem _ hz, h5⟩
    | true =>
      have hone : oneC ⟨x, y - 1⟩ = true := oneC_iff.2 ⟨by show 1 ≤ x; omega, by show x ≤ y - 1; omega, by show y - 1 ≤ _; omega⟩
      have hin : ∀ n, inC ⟨x, y - 1⟩ n = (decide (x ≤ n) && decide (n ≤ y - 1)) := fun n => by unfold inC; rw [hone, Bool.true_and]
      cases o with
      | none =>
        rw [mkC_on hfx]
        obtain ⟨i1, i2, i3, -⟩ := mkC_has f (y :: es) (some ⟨x, y - 1⟩) x u2 (by omega) hx2 (fun r hr => by injection hr with hr; subst hr; exact ⟨hone, fun z hz => by have := hyz z hz; show y - 1 < z; omega⟩) hf2
        obtain ⟨t, l, h5, h6⟩ := i2 _ rfl
        refine ⟨i1, (fun r h => by cases h), fun n => ?_, fun _ t' l' e => ?_⟩
        · rw [i3, hall, hfx]
          show (inC ⟨x, y - 1⟩ n || _) = (false || _)
          rw [hin]; simp
        · rw [h5] at e; injection e with e _; subst e
          exact ⟨x, List.mem_cons_self .., by rw [h6]; exact Int.le_refl _⟩
      | some r =>
        obtain ⟨hr1, hr2⟩ := ho r rfl
        have hr3 := oneC_iff.1 hr1
        have hrx := hr2 x (List.mem_cons_self ..)
        by_cases hm : r.to = x - 1
        · rw [mkC_more hfx hm]
          have hone2 : oneC ⟨r.fr, y - 1⟩ = true := oneC_iff.2 ⟨hr3.1, by show r.fr ≤ y - 1; omega, by show y - 1 ≤ _; omega⟩
          obtain ⟨i1, i2, i3, -⟩ := mkC_has f (y :: es) (some ⟨r.fr, y - 1⟩) x u2 (by omega) hx2 (fun r' hr' => by injection hr' with hr'; subst hr'; exact ⟨hone2, fun z hz => by have := hyz z hz; show y - 1 < z; omega⟩) hf2
          refine ⟨i1, (fun r' h => by injection h with h; subst h; exact i2 ⟨r.fr, y - 1⟩ rfl), fun n => ?_, fun h => (by cases h)⟩
          rw [i3, hall, hfx]
          have : inC ⟨r.fr, y - 1⟩ n = (inC r n || (decide (x ≤ n) && decide (n ≤ y - 1))) := by
            unfold inC
            rw [hone2, hr1, Bool.true_and, Bool.true_and]
            by_cases a1 : r.fr ≤ n <;> by_cases a2 : n ≤ y - 1 <;> by_cases a3 : n ≤ r.to <;> by_cases a4 : x ≤ n <;> simp [a1, a2, a3, a4] <;> omega
          show (inC ⟨r.fr, y - 1⟩ n || _) = _
          rw [this, Bool.or_assoc, Bool.true_and]
        · rw [mkC_next hfx hm]
          obtain ⟨i1, i2, i3, -⟩ := mkC_has f (y :: es) (some ⟨x, y - 1⟩) x u2 (by omega) hx2 (fun r hr => by injection hr with hr; subst hr; exact ⟨hone, fun z hz => by have := hyz z hz; show y - 1 < z; omega⟩) hf2
          obtain ⟨t, l, h5, h6⟩ := i2 _ rfl
          refine ⟨?_, (fun r' h => by injection h with h; subst h; exact ⟨r, _, rfl, rfl⟩), fun n => ?_, fun h => (by cases h)⟩
          · rw [h5] at i1 ⊢
            unfold rightC
            rw [hr1, i1, decide_eq_true (show r.to + 2 ≤ t.fr by rw [h6]; show r.to + 2 ≤ x; omega)]; rfl
          · rw [hasC_cons, i3, hall, hfx]
            show (inC r n || (inC ⟨x, y - 1⟩ n || _)) = (inC r n || _)
            rw [hin]; simp
theorem mkC_all {f : Int → Bool} {es : List Int} (hup : upC 0 es = true) (hx : ∀ x ∈ es, x ≤ 1099511627777) (hd : DetC f es) (h0 : ∀ n, n < 1 ∨ 1099511627776 < n → f n = false) : rightC (mkC f es none) = true ∧ ∀ n, hasC (mkC f es none) n = f n := by
  have hpos : ∀ x ∈ es, 0 < x := upC_all hup
  obtain ⟨h1, _, h3, _⟩ := mkC_has f es none 0 hup (Int.le_refl _) hx (fun r h => by cases h) fun x y hx' hy n h1 h2 h3 => hd n x fun z hz => by
    constructor
    · intro h; have := h3 z hz; omega
    · intro h; have := h3 z hz; omega
  refine ⟨h1, fun n => ?_⟩
  rw [h3, Bool.false_or]
  cases hf : f n with
  | false => rfl
  | true =>
    have e1 : es.any (fun x => decide (x ≤ n)) = true := by
      cases e : es.any (fun x => decide (x ≤ n)) with
      | true => rfl
      | false =>
        rw [List.any_eq_false] at e
        have : f n = f 0 := hd n 0 fun z hz => ⟨fun _ => hpos z hz, fun _ => by have := e z hz; simp at this; omega⟩
        rw [h0 0 (.inl (by omega)), hf] at this; cases this
    have hn1 : 1 ≤ n := by
      obtain ⟨z, hz, hzn⟩ := List.any_eq_true.1 e1
      have := hpos z hz
      simp at hzn; omega
    have e2 : es.any (fun y => decide (n < y)) = true := by
      cases e : es.any (fun y => decide (n < y)) with
      | true => rfl
      | false =>
        rw [List.any_eq_false] at e
        have : f n = f (n + 1099511627777) := hd n _ fun z hz => by
          have h1 := e z hz
          have h2 := hx z hz
          simp at h1
          omega
        rw [h0 (n + 1099511627777) (.inr (by omega)), hf] at this; cases this
    rw [e1, e2]; rfl
end Go.Proofs.YtopjhebhdopjpaaGreat
