/-
  Plain facts on sets of counts (layer 13): edges, what is made of two lists, how many a list has. No program in this text.
-/
import Derived.Test.YtnfhkmlggajhaaaCntPure
namespace Go.Proofs.Ytnfhkmlggajhaaa

def putI : List Int → Int → List Int
  | [], n => [n]
  | x :: l, n => match decide (x < n) with
    | true => x :: putI l n
    | false => match decide (x = n) with
      | true => x :: l
      | false => n :: x :: l
theorem putI_less {x n : Int} {l : List Int} (h : x < n) : putI (x :: l) n = x :: putI l n := by rw [putI, decide_eq_true h]
theorem putI_same {x n : Int} {l : List Int} (h : x = n) : putI (x :: l) n = x :: l := by rw [putI, decide_eq_false (by omega), decide_eq_true h]
theorem putI_more {x n : Int} {l : List Int} (h : n < x) : putI (x :: l) n = n :: x :: l := by rw [putI, decide_eq_false (by omega), decide_eq_false (by omega)]
theorem putI_up : ∀ {l : List Int} {c n : Int}, upC c l = true → c < n → upC c (putI l n) = true
  | [], c, n, _, h => by unfold putI upC; rw [decide_eq_true h]; rfl
  | x :: l, c, n, hu, h => by
    obtain ⟨h1, h2⟩ := upC_head hu
    rcases Int.lt_trichotomy x n with h3 | h3 | h3
    · rw [putI_less h3]; unfold upC; rw [decide_eq_true h1, putI_up h2 h3]; rfl
    · rw [putI_same h3]; exact hu
    · rw [putI_more h3]
      unfold upC
      rw [decide_eq_true h, Bool.true_and]
      unfold upC
      rw [decide_eq_true h3, h2]; rfl
theorem putI_mem : ∀ {l : List Int} {n z : Int}, z ∈ putI l n ↔ z = n ∨ z ∈ l
  | [], n, z => by simp [putI]
  | x :: l, n, z => by
    rcases Int.lt_trichotomy x n with h3 | h3 | h3
    · rw [putI_less h3, List.mem_cons, putI_mem, List.mem_cons]
      constructor
      · rintro (h | h | h) <;> simp [h]
      · rintro (h | h | h) <;> simp [h]
    · rw [putI_same h3, List.mem_cons]
      constructor
      · intro h; exact .inr h
      · rintro (h | h)
        · exact .inl (h.trans h3.symm)
        · exact h
    · rw [putI_more h3]; simp
theorem putI_len : ∀ (l : List Int) (n : Int), (putI l n).length ≤ l.length + 1
  | [], n => by simp [putI]
  | x :: l, n => by
    rcases Int.lt_trichotomy x n with h3 | h3 | h3
    · rw [putI_less h3, List.length_cons, List.length_cons]; have := putI_len l n; omega
    · rw [putI_same h3]; simp
    · rw [putI_more h3]; simp
def addC (E : List Int) (r : Rn) : List Int := match oneC r with
  | true => putI (putI E r.fr) (r.to + 1)
  | false => E
theorem addC_one {E : List Int} {r : Rn} (h : oneC r = true) : addC E r = putI (putI E r.fr) (r.to + 1) := by unfold addC; rw [h]
theorem addC_no {E : List Int} {r : Rn} (h : oneC r = false) : addC E r = E := by unfold addC; rw [h]
theorem addC_ok {E : List Int} {r : Rn} (hu : upC 0 E = true) (hx : ∀ x ∈ E, x ≤ 1099511627777) : upC 0 (addC E r) = true ∧ (∀ x ∈ addC E r, x ≤ 1099511627777) ∧ (∀ x ∈ E, x ∈ addC E r) ∧ (oneC r = true → r.fr ∈ addC E r ∧ r.to + 1 ∈ addC E r) := by
  cases h : oneC r with
  | false => rw [addC_no h]; exact ⟨hu, hx, fun x hx => hx, fun h => by cases h⟩
  | true =>
    have h1 := oneC_iff.1 h
    rw [addC_one h]
    refine ⟨putI_up (putI_up hu (by omega)) (by omega), fun x hx' => ?_, fun x hx' => putI_mem.2 (.inr (putI_mem.2 (.inr hx'))), fun _ => ⟨putI_mem.2 (.inr (putI_mem.2 (.inl rfl))), putI_mem.2 (.inl rfl)⟩⟩
    rcases putI_mem.1 hx' with rfl | h2
    · omega
    · rcases putI_mem.1 h2 with rfl | h2
      · omega
      · exact hx x h2
theorem cedges_ok : ∀ (l : List Rn) (E : List Int), upC 0 E = true → (∀ x ∈ E, x ≤ 1099511627777) → upC 0 (l.foldl addC E) = true ∧ (∀ x ∈ l.foldl addC E, x ≤ 1099511627777) ∧ (∀ x ∈ E, x ∈ l.foldl addC E) ∧ (∀ r ∈ l, oneC r = true → r.fr ∈ l.foldl addC E ∧ r.to + 1 ∈ l.foldl addC E)
  | [], E, hu, hx => ⟨hu, hx, fun _ h => h, fun r hr => by cases hr⟩
  | t :: l, E, hu, hx => by
    obtain ⟨h1, h2, h3, h4⟩ := addC_ok (r := t) hu hx
    obtain ⟨i1, i2, i3, i4⟩ := cedges_ok l (addC E t) h1 h2
    refine ⟨i1, i2, fun x h => i3 x (h3 x h), fun r hr ho => ?_⟩
    rcases List.mem_cons.1 hr with rfl | hr
    · exact ⟨i3 _ (h4 ho).1, i3 _ (h4 ho).2⟩
    · exact i4 r hr ho
theorem edges_lenC : ∀ (l : List Rn) (E : List Int), (l.foldl addC E).length ≤ E.length + 2 * l.length
  | [], E => by simp
  | t :: l, E => by
    have h1 := edges_lenC l (addC E t)
    have h2 : (addC E t).length ≤ E.length + 2 := by
      cases h : oneC t with
      | false => rw [addC_no h]; omega
      | true =>
        rw [addC_one h]
        have h3 := putI_len (putI E t.fr) (t.to + 1)
        have h4 := putI_len E t.fr
        omega
    rw [List.foldl_cons, List.length_cons]
    omega
def edgesC (a b : List Rn) : List Int := b.foldl addC (a.foldl addC [])
theorem hasC_det {l : List Rn} {E : List Int} (h : ∀ r ∈ l, oneC r = true → r.fr ∈ E ∧ r.to + 1 ∈ E) : DetC (hasC l) E := fun s c hs => by
  unfold hasC
  rw [Bool.eq_iff_iff, List.any_eq_true, List.any_eq_true]
  have key : ∀ r ∈ l, inC r s = inC r c := fun r hr => by
    cases ho : oneC r with
    | false => unfold inC; rw [ho]; rfl
    | true =>
      obtain ⟨h1, h2⟩ := h r hr ho
      have h3 := hs _ h1
      have h4 := hs _ h2
      unfold inC
      rw [ho, show decide (r.fr ≤ s) = decide (r.fr ≤ c) from decide_eq_decide.2 (by omega), show decide (s ≤ r.to) = decide (c ≤ r.to) from decide_eq_decide.2 (by omega)]
  constructor
  · rintro ⟨r, hr, hi⟩; exact ⟨r, hr, by rw [← key r hr]; exact hi⟩
  · rintro ⟨r, hr, hi⟩; exact ⟨r, hr, by rw [key r hr]; exact hi⟩
def gC (op : Int) (x y : Bool) : Bool := ((op == 1) && (x || y)) || ((op == 2) && x && y) || ((op == 3) && x && !y)
theorem gC1 (x y : Bool) : gC 1 x y = (x || y) := by cases x <;> cases y <;> rfl
theorem gC2 (x y : Bool) : gC 2 x y = (x && y) := by cases x <;> cases y <;> rfl
theorem gC3 (x y : Bool) : gC 3 x y = (x && !y) := by cases x <;> cases y <;> rfl
theorem gC_no (op : Int) : gC op false false = false := by unfold gC; simp
def isC (op : Int) (a b : List Rn) (n : Int) : Bool := gC op (hasC a n) (hasC b n)
def makeC (op : Int) (a b : List Rn) : List Rn := mkC (isC op a b) (edgesC a b) none
def ofC (l : List Rn) : List Rn := makeC 1 l []
theorem edgesC_ok (a b : List Rn) : upC 0 (edgesC a b) = true ∧ (∀ x ∈ edgesC a b, x ≤ 1099511627777) ∧ (∀ r ∈ a, oneC r = true → r.fr ∈ edgesC a b ∧ r.to + 1 ∈ edgesC a b) ∧ (∀ r ∈ b, oneC r = true → r.fr ∈ edgesC a b ∧ r.to + 1 ∈ edgesC a b) := by
  obtain ⟨h1, h2, _, h4⟩ := cedges_ok a [] rfl (fun x hx => by cases hx)
  obtain ⟨i1, i2, i3, i4⟩ := cedges_ok b (a.foldl addC []) h1 h2
  exact ⟨i1, i2, fun r hr ho => ⟨i3 _ (h4 r hr ho).1, i3 _ (h4 r hr ho).2⟩, i4⟩
theorem makeC_ok (op : Int) (a b : List Rn) : rightC (makeC op a b) = true ∧ ∀ n, hasC (makeC op a b) n = gC op (hasC a n) (hasC b n) := by
  obtain ⟨h1, h2, h3, h4⟩ := edgesC_ok a b
  refine mkC_all h1 h2 (fun s c h => ?_) fun n hn => ?_
  · unfold isC
    rw [hasC_det h3 s c h, hasC_det h4 s c h]
  · have e1 : hasC a n = false := by
      cases h : hasC a n with
      | false => rfl
      | true => have := hasC_range h; omega
    have e2 : hasC b n = false := by
      cases h : hasC b n with
      | false => rfl
      | true => have := hasC_range h; omega
    unfold isC
    rw [e1, e2, gC_no]
theorem makeC_right (op : Int) (a b : List Rn) : rightC (makeC op a b) = true := (makeC_ok op a b).1
theorem makeC_has (op : Int) (a b : List Rn) (n : Int) : hasC (makeC op a b) n = gC op (hasC a n) (hasC b n) := (makeC_ok op a b).2 n
theorem makeC_unique {op : Int} {a b u : List Rn} (h : rightC u = true) (hs : ∀ n, hasC u n = gC op (hasC a n) (hasC b n)) : u = makeC op a b :=
  rightC_unique h (makeC_right op a b) fun n => by rw [hs, makeC_has]
theorem ofC_right (l : List Rn) : rightC (ofC l) = true := makeC_right 1 l []
theorem ofC_has (l : List Rn) (n : Int) : hasC (ofC l) n = hasC l n := by unfold ofC; rw [makeC_has, gC1, hasC_nil, Bool.or_false]
theorem ofC_unique {l u : List Rn} (h : rightC u = true) (hs : ∀ n, hasC u n = hasC l n) : u = ofC l := rightC_unique h (ofC_right l) fun n => by rw [hs, ofC_has]
theorem mkC_lenC (f : Int → Bool) : ∀ (es : List Int) (o : Option Rn), (mkC f es o).length ≤ es.length + 1
  | [], o => by cases o <;> simp [mkC]
  | [x], o => by cases o <;> simp [mkC]
  | x :: y :: es, o => by
    cases h : f x with
    | false => rw [mkC_out h]; have := mkC_lenC f (y :: es) o; simp only [List.length_cons] at *; omega
    | true =>
      rw [mkC_in h, List.length_append]
      have h1 := mkC_lenC f (y :: es) (putC o x y).2
      have h2 : (putC o x y).1.length ≤ 1 := by
        unfold putC
        cases o with
        | none => simp
        | some r => simp only; split <;> simp
      simp only [List.length_cons] at *
      omega
theorem makeC_len (op : Int) (a b : List Rn) : (makeC op a b).length ≤ 2 * (a.length + b.length) + 1 := by
  have h1 := mkC_lenC (isC op a b) (edgesC a b) none
  have h2 := edges_lenC b (a.foldl addC [])
  have h3 := edges_lenC a []
  simp only [List.length_nil] at h3
  unfold makeC
  unfold edgesC at h1 ⊢
  omega

/-! How many. -/
/-- How many of the first k counts are told true. -/
def cardN (f : Int → Bool) : Nat → Int
  | 0 => 0
  | k + 1 => cardN f k + (match f ((k : Int) + 1) with | true => 1 | false => 0)
theorem card_congr {f g : Int → Bool} : ∀ {k : Nat}, (∀ n : Int, 1 ≤ n → n ≤ k → f n = g n) → cardN f k = cardN g k
  | 0, _ => rfl
  | k + 1, h => by rw [cardN, cardN, card_congr (k := k) fun n h1 h2 => h n h1 (by omega), h ((k : Int) + 1) (by omega) (by omega)]
theorem card_two (f g : Int → Bool) : ∀ k : Nat, cardN (fun n => f n || g n) k + cardN (fun n => f n && g n) k = cardN f k + cardN g k
  | 0 => rfl
  | k + 1 => by
    have := card_two f g k
    simp only [cardN]
    cases f ((k : Int) + 1) <;> cases g ((k : Int) + 1) <;> simp <;> omega
theorem card_less (f g : Int → Bool) : ∀ k : Nat, cardN (fun n => f n && !g n) k = cardN f k - cardN (fun n => f n && g n) k
  | 0 => rfl
  | k + 1 => by
    have := card_less f g k
    simp only [cardN]
    cases f ((k : Int) + 1) <;> cases g ((k : Int) + 1) <;> simp <;> omega
theorem card_zero : ∀ k : Nat, cardN (fun _ => false) k = 0
  | 0 => rfl
  | k + 1 => by rw [cardN, card_zero k]; rfl
theorem card_bounds (f : Int → Bool) : ∀ k : Nat, 0 ≤ cardN f k ∧ cardN f k ≤ k
  | 0 => ⟨Int.le_refl _, Int.le_refl _⟩
  | k + 1 => by
    have := card_bounds f k
    rw [cardN]
    cases f ((k : Int) + 1) <;> simp <;> omega
theorem card_mono {f g : Int → Bool} : ∀ {k : Nat}, (∀ n : Int, 1 ≤ n → n ≤ k → f n = true → g n = true) → cardN f k ≤ cardN g k
  | 0, _ => Int.le_refl _
  | k + 1, h => by
    have h1 := card_mono (k := k) fun n h1 h2 => h n h1 (by omega)
    have h2 := h ((k : Int) + 1) (by omega) (by omega)
    rw [cardN, cardN]
    cases hf : f ((k : Int) + 1) with
    | false => cases g ((k : Int) + 1) <;> simp <;> omega
    | true => rw [h2 hf]; simp; omega
/-- From 1 on, up to a count. -/
theorem card_upto (b : Int) : ∀ {k : Nat}, 0 ≤ b → b ≤ k → cardN (fun n => decide (n ≤ b)) k = b
  | 0, h1, h2 => by have : b = 0 := by omega
                    subst this; rfl
  | k + 1, h1, h2 => by
    rw [cardN]
    by_cases h : b ≤ k
    · rw [card_upto b h1 h, decide_eq_false (by omega)]; simp
    · have : b = (k : Int) + 1 := by omega
      subst this
      have h3 : cardN (fun n => decide (n ≤ (k : Int) + 1)) k = cardN (fun n => decide (n ≤ (k : Int))) k := card_congr fun n _ h => by rw [decide_eq_true h, decide_eq_true (show n ≤ (k : Int) + 1 by omega)]
      rw [h3, card_upto (k : Int) (by omega) (Int.le_refl _), decide_eq_true (Int.le_refl _)]
theorem card_one (m : Int) : ∀ {k : Nat}, cardN (fun n => decide (n = m)) k = if 1 ≤ m ∧ m ≤ k then 1 else 0
  | 0 => by rw [if_neg (by omega)]; rfl
  | k + 1 => by
    rw [cardN, card_one m (k := k)]
    by_cases h : m = (k : Int) + 1
    · rw [decide_eq_true h.symm, if_neg (by omega), if_pos (by omega)]; rfl
    · rw [decide_eq_false (fun e => h e.symm)]
      by_cases h2 : 1 ≤ m ∧ m ≤ k
      · rw [if_pos h2, if_pos (by omega)]; rfl
      · rw [if_neg h2, if_neg (by omega)]; rfl
/-- One more. -/
theorem card_more (f : Int → Bool) {m : Int} {k : Nat} (h1 : 1 ≤ m) (h2 : m ≤ k) : cardN (fun n => f n || decide (n = m)) k = cardN f k + (match f m with | true => 0 | false => 1) := by
  have h3 := card_two f (fun n => decide (n = m)) k
  rw [card_one m, if_pos ⟨h1, h2⟩] at h3
  cases hf : f m with
  | false =>
    have h4 : cardN (fun n => f n && decide (n = m)) k = cardN (fun _ => false) k := card_congr fun n _ _ => by
      by_cases e : n = m
      · rw [e, hf]; rfl
      · rw [decide_eq_false e, Bool.and_false]
    rw [h4, card_zero] at h3
    show _ = cardN f k + 1
    omega
  | true =>
    have h4 : cardN (fun n => f n && decide (n = m)) k = cardN (fun n => decide (n = m)) k := card_congr fun n _ _ => by
      by_cases e : n = m
      · rw [e, hf, decide_eq_true rfl]; rfl
      · rw [decide_eq_false e, Bool.and_false]
    rw [h4, card_one m, if_pos ⟨h1, h2⟩] at h3
    show _ = cardN f k + 0
    omega
def sumC : List Rn → Int
  | [] => 0
  | r :: l => (r.to - r.fr + 1) + sumC l
theorem card_run {a b : Int} {k : Nat} (h1 : 1 ≤ a) (h2 : a ≤ b) (h3 : b ≤ k) : cardN (fun n => decide (a ≤ n) && decide (n ≤ b)) k = b - a + 1 := by
  have h4 := card_less (fun n => decide (n ≤ b)) (fun n => decide (n ≤ a - 1)) k
  have h5 : cardN (fun n => decide (n ≤ b) && !decide (n ≤ a - 1)) k = cardN (fun n => decide (a ≤ n) && decide (n ≤ b)) k := card_congr fun n _ _ => by
    by_cases c1 : a ≤ n
    · rw [decide_eq_true c1, decide_eq_false (show ¬ n ≤ a - 1 by omega), Bool.not_false, Bool.and_true, Bool.true_and]
    · rw [decide_eq_false c1, decide_eq_true (show n ≤ a - 1 by omega), Bool.not_true, Bool.and_false, Bool.false_and]
  have h6 : cardN (fun n => decide (n ≤ b) && decide (n ≤ a - 1)) k = cardN (fun n => decide (n ≤ a - 1)) k := card_congr fun n _ _ => by
    by_cases c1 : n ≤ a - 1
    · rw [decide_eq_true c1, decide_eq_true (show n ≤ b by omega)]; rfl
    · rw [decide_eq_false c1, Bool.and_false]
  rw [← h5, h4, h6, card_upto b (by omega) h3, card_upto (a - 1) (by omega) (by omega)]
  omega
theorem sum_card : ∀ {l : List Rn} {k : Nat}, rightC l = true → (k : Int) = 1099511627776 → sumC l = cardN (hasC l) k
  | [], k, _, _ => by show (0 : Int) = cardN (fun _ => false) k; rw [card_zero]
  | r :: l, k, h, hk => by
    have h0 := oneC_iff.1 (rightC_head h)
    have h1 := card_two (inC r) (hasC l) k
    have h2 : cardN (fun n => inC r n && hasC l n) k = cardN (fun _ => false) k := card_congr fun n _ _ => by
      cases hi : inC r n with
      | false => rfl
      | true => cases hl : hasC l n with
        | false => rfl
        | true => have e1 := inC_iff.1 hi; have e2 := hasC_above h hl; omega
    have h3 : cardN (inC r) k = r.to - r.fr + 1 := by
      rw [← card_run (k := k) h0.1 h0.2.1 (by omega)]
      exact card_congr fun n _ _ => by unfold inC; rw [rightC_head h, Bool.true_and]
    rw [h2, card_zero, h3] at h1
    rw [sumC, sum_card (rightC_tail h) hk]
    have h4 : cardN (hasC (r :: l)) k = cardN (fun n => inC r n || hasC l n) k := card_congr fun n _ _ => hasC_cons r l n
    omega
def manyC (l : List Rn) : Int := sumC (ofC l)
def baseC (l : List Rn) : Int := match ofC l with
  | [] => 0
  | r :: _ => match decide (r.fr = 1) with | true => r.to | false => 0
def lastC : List Rn → Int
  | [] => 0
  | [r] => r.to
  | _ :: t :: l => lastC (t :: l)
def mostC (l : List Rn) : Int := lastC (ofC l)
theorem manyC_card (l : List Rn) {k : Nat} (hk : (k : Int) = 1099511627776) : manyC l = cardN (hasC l) k := by
  unfold manyC
  rw [sum_card (ofC_right l) hk]
  exact card_congr fun n _ _ => ofC_has l n
theorem last_ok : ∀ {l : List Rn}, rightC l = true → (∀ n, hasC l n = true → n ≤ lastC l) ∧ (l ≠ [] → hasC l (lastC l) = true) ∧ 0 ≤ lastC l
  | [], _ => ⟨(fun n h => by cases h), (fun h => absurd rfl h), Int.le_refl _⟩
  | [r], h => by
    have h0 := oneC_iff.1 (rightC_head h)
    refine ⟨fun n hn => ?_, fun _ => hasC_first h (by show r.fr ≤ r.to; omega) (Int.le_refl _), by show 0 ≤ r.to; omega⟩
    rw [hasC_cons, hasC_nil, Bool.or_false] at hn
    exact (inC_iff.1 hn).2.2
  | r :: t :: l, h => by
    obtain ⟨h1, h2, h3⟩ := last_ok (rightC_tail h)
    have hg := rightC_gap h
    have ht := oneC_iff.1 (rightC_head (rightC_tail h))
    have h4 := h2 (by simp)
    refine ⟨fun n hn => ?_, fun _ => by rw [hasC_cons, show lastC (r :: t :: l) = lastC (t :: l) from rfl, h4, Bool.or_true], h3⟩
    show n ≤ lastC (t :: l)
    rw [hasC_cons, Bool.or_eq_true] at hn
    rcases hn with hn | hn
    · have e1 := (inC_iff.1 hn).2.2
      have e2 := h1 t.fr (hasC_first (rightC_tail h) (Int.le_refl _) ht.2.1)
      omega
    · exact h1 n hn
theorem most_ok (l : List Rn) : (∀ n, hasC l n = true → n ≤ mostC l) ∧ (0 < mostC l → hasC l (mostC l) = true) ∧ 0 ≤ mostC l ∧ mostC l ≤ 1099511627776 := by
  obtain ⟨h1, h2, h3⟩ := last_ok (ofC_right l)
  have h4 : 0 < mostC l → hasC l (mostC l) = true := fun h => by
    rw [← ofC_has]
    refine h2 fun e => ?_
    unfold mostC at h
    rw [e] at h
    exact absurd h (by decide)
  refine ⟨fun n hn => h1 n (by rw [ofC_has]; exact hn), h4, h3, ?_⟩
  by_cases h : 0 < mostC l
  · exact (hasC_range (h4 h)).2
  · omega
theorem base_ok (l : List Rn) : (∀ n, 1 ≤ n → n ≤ baseC l → hasC l n = true) ∧ hasC l (baseC l + 1) = false ∧ 0 ≤ baseC l ∧ baseC l ≤ mostC l := by
  have hr := ofC_right l
  have hm := most_ok l
  have key : (∀ n, 1 ≤ n → n ≤ baseC l → hasC l n = true) ∧ hasC l (baseC l + 1) = false ∧ 0 ≤ baseC l := by
    unfold baseC
    cases h : ofC l with
    | nil => exact ⟨(fun n h1 h2 => absurd h2 (by show ¬ n ≤ 0; omega)), by rw [← ofC_has, h]; rfl, Int.le_refl _⟩
    | cons r u =>
      rw [h] at hr
      have h0 := oneC_iff.1 (rightC_head hr)
      by_cases h1 : r.fr = 1
      · simp only [decide_eq_true h1]
        refine ⟨fun n h2 h3 => ?_, ?_, by omega⟩
        · rw [← ofC_has, h]; exact hasC_first hr (by omega) h3
        · rw [← ofC_has, h]; exact hasC_behind hr
      · simp only [decide_eq_false h1]
        refine ⟨fun n h2 h3 => by omega, ?_, Int.le_refl _⟩
        rw [← ofC_has, h]
        cases hh : hasC (r :: u) (0 + 1) with
        | false => rfl
        | true => have := hasC_least hr hh; omega
  refine ⟨key.1, key.2.1, key.2.2, ?_⟩
  by_cases h : 1 ≤ baseC l
  · exact hm.1 _ (key.1 _ h (Int.le_refl _))
  · omega
/-- How many against base and greatest. -/
theorem many_ok (l : List Rn) : baseC l ≤ manyC l ∧ manyC l ≤ mostC l ∧ (manyC l = baseC l ↔ baseC l = mostC l) := by
  obtain ⟨k, hk⟩ : ∃ k : Nat, (k : Int) = 1099511627776 := ⟨1099511627776, rfl⟩
  obtain ⟨m1, m2, m3, m4⟩ := most_ok l
  obtain ⟨b1, b2, b3, b4⟩ := base_ok l
  have hc := manyC_card l hk
  have hb := card_upto (baseC l) (k := k) b3 (by omega)
  have hm := card_upto (mostC l) (k := k) m3 (by omega)
  have h1 : baseC l ≤ manyC l := by
    rw [hc]
    have := card_mono (f := fun n => decide (n ≤ baseC l)) (g := hasC l) (k := k) fun n h1 _ h => b1 n h1 (by simpa using h)
    omega
  have h2 : manyC l ≤ mostC l := by
    rw [hc]
    have := card_mono (f := hasC l) (g := fun n => decide (n ≤ mostC l)) (k := k) fun n _ _ h => by simpa using m1 n h
    omega
  refine ⟨h1, h2, fun h => ?_, fun h => by omega⟩
  by_cases e : baseC l = mostC l
  · exact e
  · exfalso
    have h3 := card_more (fun n => decide (n ≤ baseC l)) (m := mostC l) (k := k) (by omega) (by omega)
    rw [decide_eq_false (show ¬ mostC l ≤ baseC l by omega), hb] at h3
    have h4 := card_mono (f := fun n => decide (n ≤ baseC l) || decide (n = mostC l)) (g := hasC l) (k := k) fun n h1 _ h => by
      rcases Bool.or_eq_true _ _ ▸ h with h | h
      · exact b1 n h1 (by simpa using h)
      · rw [show n = mostC l by simpa using h]; exact m2 (by omega)
    simp only at h3
    omega
def runC (n : Int) : Rn := ⟨n, n⟩
theorem run_has (m n : Int) : inC (runC m) n = (decide (n = m) && decide (1 ≤ m ∧ m ≤ 1099511627776)) := by
  unfold inC oneC runC
  by_cases h1 : n = m
  · subst h1; by_cases h2 : 1 ≤ n <;> by_cases h3 : n ≤ 1099511627776 <;> simp [h2, h3]
  · rw [decide_eq_false h1]
    by_cases h2 : m ≤ n
    · by_cases h3 : n ≤ m
      · omega
      · simp [h3]
    · simp [h2]
theorem many_add (l : List Rn) (m : Int) : manyC (l ++ [runC m]) = manyC l + (match decide (1 ≤ m) && (decide (m ≤ 1099511627776) && !hasC l m) with | true => 1 | false => 0) := by
  obtain ⟨k, hk⟩ : ∃ k : Nat, (k : Int) = 1099511627776 := ⟨1099511627776, rfl⟩
  rw [manyC_card _ hk, manyC_card _ hk]
  by_cases hm : 1 ≤ m ∧ m ≤ 1099511627776
  · have h1 : cardN (hasC (l ++ [runC m])) k = cardN (fun n => hasC l n || decide (n = m)) k := card_congr fun n _ _ => by
      rw [hasC_append, hasC_cons, hasC_nil, Bool.or_false, run_has, decide_eq_true hm, Bool.and_true]
    rw [h1, card_more (hasC l) hm.1 (by omega), decide_eq_true hm.1, decide_eq_true hm.2]
    cases hasC l m <;> rfl
  · have h1 : cardN (hasC (l ++ [runC m])) k = cardN (hasC l) k := card_congr fun n _ _ => by
      rw [hasC_append, hasC_cons, hasC_nil, Bool.or_false, run_has, decide_eq_false hm, Bool.and_false, Bool.or_false]
    rw [h1]
    by_cases c1 : 1 ≤ m
    · rw [decide_eq_true c1, decide_eq_false (show ¬ m ≤ 1099511627776 by omega)]; simp
    · rw [decide_eq_false c1]; simp
theorem many_two (a b : List Rn) : manyC (makeC 1 a b) = manyC a + manyC b - manyC (makeC 2 a b) ∧ manyC (makeC 3 a b) = manyC a - manyC (makeC 2 a b) := by
  obtain ⟨k, hk⟩ : ∃ k : Nat, (k : Int) = 1099511627776 := ⟨1099511627776, rfl⟩
  rw [manyC_card _ hk, manyC_card _ hk, manyC_card _ hk, manyC_card _ hk, manyC_card _ hk]
  have h1 := card_two (hasC a) (hasC b) k
  have h2 := card_less (hasC a) (hasC b) k
  have e1 : cardN (hasC (makeC 1 a b)) k = cardN (fun n => hasC a n || hasC b n) k := card_congr fun n _ _ => by rw [makeC_has, gC1]
  have e2 : cardN (hasC (makeC 2 a b)) k = cardN (fun n => hasC a n && hasC b n) k := card_congr fun n _ _ => by rw [makeC_has, gC2]
  have e3 : cardN (hasC (makeC 3 a b)) k = cardN (fun n => hasC a n && !hasC b n) k := card_congr fun n _ _ => by rw [makeC_has, gC3]
  rw [e1, e2, e3]
  exact ⟨by omega, h2⟩
theorem most_two (a b : List Rn) : mostC (makeC 1 a b) = max (mostC a) (mostC b) := by
  obtain ⟨a1, a2, a3, _⟩ := most_ok a
  obtain ⟨b1, b2, b3, _⟩ := most_ok b
  obtain ⟨u1, u2, u3, _⟩ := most_ok (makeC 1 a b)
  have h1 : mostC a ≤ mostC (makeC 1 a b) := by
    by_cases h : 0 < mostC a
    · exact u1 _ (by rw [makeC_has, gC1, a2 h]; rfl)
    · omega
  have h2 : mostC b ≤ mostC (makeC 1 a b) := by
    by_cases h : 0 < mostC b
    · exact u1 _ (by rw [makeC_has, gC1, b2 h, Bool.or_true])
    · omega
  by_cases h : 0 < mostC (makeC 1 a b)
  · have h3 := u2 h
    rw [makeC_has, gC1, Bool.or_eq_true] at h3
    rcases h3 with h3 | h3
    · have := a1 _ h3; omega
    · have := b1 _ h3; omega
  · omega
end Go.Proofs.Ytnfhkmlggajhaaa
