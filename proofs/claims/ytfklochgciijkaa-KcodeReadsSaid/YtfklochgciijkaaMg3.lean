/-
  Several texts in one: CntSets, CntA, OpenCnt, CntB, CntC, CntD, KeyPure, VrPure, VstPure, VstA, OpenKns, VarPure.
-/
import Derived.Laws.StructEq
import Derived.BigQuiet
import Derived.Lib.SmallJoins
import Derived.Deep.Strs
import Derived.Deep.RegionHeld3
import Derived.Deep.CutRange
import Derived.Lib.Bytealg
import Derived.Lib.BitFns
import Derived.Test.YtfklochgciijkaaMg2
/-
  Plain facts on sets of counts (layer 13): edges, what is made of two lists, how many a list has. No program in this text.
-/
namespace Go.Proofs.Ytfklochgciijkaa

def putI : List Int → Int → List Int
  | [], n => [n]
  | x :: l, n => match decide (x < n) with
    | true => x :: putI l n
    | false => match decide (x = n) with
      | true => x :: l
      | false => n :: x :: l
theorem putI_less {x n : Int} {l : List Int} (h : x < n) : putI (x :: l) n = x :: putI l n := by rw [putI, decide_eq_true h]
theorem putI_same {x n : Int} {l : List Int} (h : x = n) : putI (x :: l) n = x :: l := by rw [putI, decide_eq_false (by omega), decide_eq_true h]
theorem putI_more {x n : Int} {l : List Int} (h : n < x) : putI (x :: l) n = n :: x :: l := by rw [putI, decide_eq_false (by omega), decide_eq_false (by omega)]
theorem putI_up : ∀ {l : List Int} {c n : Int}, upC c l = true → c < n → upC c (putI l n) = true
  | [], c, n, _, h => by unfold putI upC; rw [decide_eq_true h]; rfl
  | x :: l, c, n, hu, h => by
    obtain ⟨h1, h2⟩ := upC_head hu
    rcases Int.lt_trichotomy x n with h3 | h3 | h3
    · rw [putI_less h3]; unfold upC; rw [decide_eq_true h1, putI_up h2 h3]; rfl
    · rw [putI_same h3]; exact hu
    · rw [putI_more h3]
      unfold upC
      rw [decide_eq_true h, Bool.true_and]
      unfold upC
      rw [decide_eq_true h3, h2]; rfl
theorem putI_mem : ∀ {l : List Int} {n z : Int}, z ∈ putI l n ↔ z = n ∨ z ∈ l
  | [], n, z => by simp [putI]
  | x :: l, n, z => by
    rcases Int.lt_trichotomy x n with h3 | h3 | h3
    · rw [putI_less h3, List.mem_cons, putI_mem, List.mem_cons]
      constructor
      · rintro (h | h | h) <;> simp [h]
      · rintro (h | h | h) <;> simp [h]
    · rw [putI_same h3, List.mem_cons]
      constructor
      · intro h; exact .inr h
      · rintro (h | h)
        · exact .inl (h.trans h3.symm)
        · exact h
    · rw [putI_more h3]; simp
theorem putI_len : ∀ (l : List Int) (n : Int), (putI l n).length ≤ l.length + 1
  | [], n => by simp [putI]
  | x :: l, n => by
    rcases Int.lt_trichotomy x n with h3 | h3 | h3
    · rw [putI_less h3, List.length_cons, List.length_cons]; have := putI_len l n; omega
    · rw [putI_same h3]; simp
    · rw [putI_more h3]; simp
def addC (E : List Int) (r : Rn) : List Int := match oneC r with
  | true => putI (putI E r.fr) (r.to + 1)
  | false => E
theorem addC_one {E : List Int} {r : Rn} (h : oneC r = true) : addC E r = putI (putI E r.fr) (r.to + 1) := by unfold addC; rw [h]
theorem addC_no {E : List Int} {r : Rn} (h : oneC r = false) : addC E r = E := by unfold addC; rw [h]
theorem addC_ok {E : List Int} {r : Rn} (hu : upC 0 E = true) (hx : ∀ x ∈ E, x ≤ 1099511627777) : upC 0 (addC E r) = true ∧ (∀ x ∈ addC E r, x ≤ 1099511627777) ∧ (∀ x ∈ E, x ∈ addC E r) ∧ (oneC r = true → r.fr ∈ addC E r ∧ r.to + 1 ∈ addC E r) := by
  cases h : oneC r with
  | false => rw [addC_no h]; exact ⟨hu, hx, fun x hx => hx, fun h => by cases h⟩
  | true =>
    have h1 := oneC_iff.1 h
    rw [addC_one h]
    refine ⟨putI_up (putI_up hu (by omega)) (by omega), fun x hx' => ?_, fun x hx' => putI_mem.2 (.inr (putI_mem.2 (.inr hx'))), fun _ => ⟨putI_mem.2 (.inr (putI_mem.2 (.inl rfl))), putI_mem.2 (.inl rfl)⟩⟩
    rcases putI_mem.1 hx' with rfl | h2
    · omega
    · rcases putI_mem.1 h2 with rfl | h2
      · omega
      · exact hx x h2
theorem cedges_ok : ∀ (l : List Rn) (E : List Int), upC 0 E = true → (∀ x ∈ E, x ≤ 1099511627777) → upC 0 (l.foldl addC E) = true ∧ (∀ x ∈ l.foldl addC E, x ≤ 1099511627777) ∧ (∀ x ∈ E, x ∈ l.foldl addC E) ∧ (∀ r ∈ l, oneC r = true → r.fr ∈ l.foldl addC E ∧ r.to + 1 ∈ l.foldl addC E)
  | [], E, hu, hx => ⟨hu, hx, fun _ h => h, fun r hr => by cases hr⟩
  | t :: l, E, hu, hx => by
    obtain ⟨h1, h2, h3, h4⟩ := addC_ok (r := t) hu hx
    obtain ⟨i1, i2, i3, i4⟩ := cedges_ok l (addC E t) h1 h2
    refine ⟨i1, i2, fun x h => i3 x (h3 x h), fun r hr ho => ?_⟩
    rcases List.mem_cons.1 hr with rfl | hr
    · exact ⟨i3 _ (h4 ho).1, i3 _ (h4 ho).2⟩
    · exact i4 r hr ho
theorem edges_lenC : ∀ (l : List Rn) (E : List Int), (l.foldl addC E).length ≤ E.length + 2 * l.length
  | [], E => by simp
  | t :: l, E => by
    have h1 := edges_lenC l (addC E t)
    have h2 : (addC E t).length ≤ E.length + 2 := by
      cases h : oneC t with
      | false => rw [addC_no h]; omega
      | true =>
        rw [addC_one h]
        have h3 := putI_len (putI E t.fr) (t.to + 1)
        have h4 := putI_len E t.fr
        omega
    rw [List.foldl_cons, List.length_cons]
    omega
def edgesC (a b : List Rn) : List Int := b.foldl addC (a.foldl addC [])
theorem hasC_det {l : List Rn} {E : List Int} (h : ∀ r ∈ l, oneC r = true → r.fr ∈ E ∧ r.to + 1 ∈ E) : DetC (hasC l) E := fun s c hs => by
  unfold hasC
  rw [Bool.eq_iff_iff, List.any_eq_true, List.any_eq_true]
  have key : ∀ r ∈ l, inC r s = inC r c := fun r hr => by
    cases ho : oneC r with
    | false => unfold inC; rw [ho]; rfl
    | true =>
      obtain ⟨h1, h2⟩ := h r hr ho
      have h3 := hs _ h1
      have h4 := hs _ h2
      unfold inC
      rw [ho, show decide (r.fr ≤ s) = decide (r.fr ≤ c) from decide_eq_decide.2 (by omega), show decide (s ≤ r.to) = decide (c ≤ r.to) from decide_eq_decide.2 (by omega)]
  constructor
  · rintro ⟨r, hr, hi⟩; exact ⟨r, hr, by rw [← key r hr]; exact hi⟩
  · rintro ⟨r, hr, hi⟩; exact ⟨r, hr, by rw [key r hr]; exact hi⟩
def gC (op : Int) (x y : Bool) : Bool := ((op == 1) && (x || y)) || ((op == 2) && x && y) || ((op == 3) && x && !y)
theorem gC1 (x y : Bool) : gC 1 x y = (x || y) := by cases x <;> cases y <;> rfl
theorem gC2 (x y : Bool) : gC 2 x y = (x && y) := by cases x <;> cases y <;> rfl
theorem gC3 (x y : Bool) : gC 3 x y = (x && !y) := by cases x <;> cases y <;> rfl
theorem gC_no (op : Int) : gC op false false = false := by unfold gC; simp
def isC (op : Int) (a b : List Rn) (n : Int) : Bool := gC op (hasC a n) (hasC b n)
def makeC (op : Int) (a b : List Rn) : List Rn := mkC (isC op a b) (edgesC a b) none
def ofC (l : List Rn) : List Rn := makeC 1 l []
theorem edgesC_ok (a b : List Rn) : upC 0 (edgesC a b) = true ∧ (∀ x ∈ edgesC a b, x ≤ 1099511627777) ∧ (∀ r ∈ a, oneC r = true → r.fr ∈ edgesC a b ∧ r.to + 1 ∈ edgesC a b) ∧ (∀ r ∈ b, oneC r = true → r.fr ∈ edgesC a b ∧ r.to + 1 ∈ edgesC a b) := by
  obtain ⟨h1, h2, _, h4⟩ := cedges_ok a [] rfl (fun x hx => by cases hx)
  obtain ⟨i1, i2, i3, i4⟩ := cedges_ok b (a.foldl addC []) h1 h2
  exact ⟨i1, i2, fun r hr ho => ⟨i3 _ (h4 r hr ho).1, i3 _ (h4 r hr ho).2⟩, i4⟩
theorem makeC_ok (op : Int) (a b : List Rn) : rightC (makeC op a b) = true ∧ ∀ n, hasC (makeC op a b) n = gC op (hasC a n) (hasC b n) := by
  obtain ⟨h1, h2, h3, h4⟩ := edgesC_ok a b
  refine mkC_all h1 h2 (fun s c h => ?_) fun n hn => ?_
  · unfold isC
    rw [hasC_det h3 s c h, hasC_det h4 s c h]
  · have e1 : hasC a n = false := by
      cases h : hasC a n with
      | false => rfl
      | true => have := hasC_range h; omega
    have e2 : hasC b n = false := by
      cases h : hasC b n with
      | false => rfl
      | true => have := hasC_range h; omega
    unfold isC
    rw [e1, e2, gC_no]
theorem makeC_right (op : Int) (a b : List Rn) : rightC (makeC op a b) = true := (makeC_ok op a b).1
theorem makeC_has (op : Int) (a b : List Rn) (n : Int) : hasC (makeC op a b) n = gC op (hasC a n) (hasC b n) := (makeC_ok op a b).2 n
theorem makeC_unique {op : Int} {a b u : List Rn} (h : rightC u = true) (hs : ∀ n, hasC u n = gC op (hasC a n) (hasC b n)) : u = makeC op a b :=
  rightC_unique h (makeC_right op a b) fun n => by rw [hs, makeC_has]
theorem ofC_right (l : List Rn) : rightC (ofC l) = true := makeC_right 1 l []
theorem ofC_has (l : List Rn) (n : Int) : hasC (ofC l) n = hasC l n := by unfold ofC; rw [makeC_has, gC1, hasC_nil, Bool.or_false]
theorem ofC_unique {l u : List Rn} (h : rightC u = true) (hs : ∀ n, hasC u n = hasC l n) : u = ofC l := rightC_unique h (ofC_right l) fun n => by rw [hs, ofC_has]
theorem mkC_lenC (f : Int → Bool) : ∀ (es : List Int) (o : Option Rn), (mkC f es o).length ≤ es.length + 1
  | [], o => by cases o <;> simp [mkC]
  | [x], o => by cases o <;> simp [mkC]
  | x :: y :: es, o => by
    cases h : f x with
    | false => rw [mkC_out h]; have := mkC_lenC f (y :: es) o; simp only [List.length_cons] at *; omega
    | true =>
      rw [mkC_in h, List.length_append]
      have h1 := mkC_lenC f (y :: es) (putC o x y).2
      have h2 : (putC o x y).1.length ≤ 1 := by
        unfold putC
        cases o with
        | none => simp
        | some r => simp only; split <;> simp
      simp only [List.length_cons] at *
      omega
theorem makeC_len (op : Int) (a b : List Rn) : (makeC op a b).length ≤ 2 * (a.length + b.length) + 1 := by
  have h1 := mkC_lenC (isC op a b) (edgesC a b) none
  have h2 := edges_lenC b (a.foldl addC [])
  have h3 := edges_lenC a []
  simp only [List.length_nil] at h3
  unfold makeC
  unfold edgesC at h1 ⊢
  omega

/-! How many. -/
/-- How many of the first k counts are told true. -/
def cardN (f : Int → Bool) : Nat → Int
  | 0 => 0
  | k + 1 => cardN f k + (match f ((k : Int) + 1) with | true => 1 | false => 0)
theorem card_congr {f g : Int → Bool} : ∀ {k : Nat}, (∀ n : Int, 1 ≤ n → n ≤ k → f n = g n) → cardN f k = cardN g k
  | 0, _ => rfl
  | k + 1, h => by rw [cardN, cardN, card_congr (k := k) fun n h1 h2 => h n h1 (by omega), h ((k : Int) + 1) (by omega) (by omega)]
theorem card_two (f g : Int → Bool) : ∀ k : Nat, cardN (fun n => f n || g n) k + cardN (fun n => f n && g n) k = cardN f k + cardN g k
  | 0 => rfl
  | k + 1 => by
    have := card_two f g k
    simp only [cardN]
    cases f ((k : Int) + 1) <;> cases g ((k : Int) + 1) <;> simp <;> omega
theorem card_less (f g : Int → Bool) : ∀ k : Nat, cardN (fun n => f n && !g n) k = cardN f k - cardN (fun n => f n && g n) k
  | 0 => rfl
  | k + 1 => by
    have := card_less f g k
    simp only [cardN]
    cases f ((k : Int) + 1) <;> cases g ((k : Int) + 1) <;> simp <;> omega
theorem card_zero : ∀ k : Nat, cardN (fun _ => false) k = 0
  | 0 => rfl
  | k + 1 => by rw [cardN, card_zero k]; rfl
theorem card_bounds (f : Int → Bool) : ∀ k : Nat, 0 ≤ cardN f k ∧ cardN f k ≤ k
  | 0 => ⟨Int.le_refl _, Int.le_refl _⟩
  | k + 1 => by
    have := card_bounds f k
    rw [cardN]
    cases f ((k : Int) + 1) <;> simp <;> omega
theorem card_mono {f g : Int → Bool} : ∀ {k : Nat}, (∀ n : Int, 1 ≤ n → n ≤ k → f n = true → g n = true) → cardN f k ≤ cardN g k
  | 0, _ => Int.le_refl _
  | k + 1, h => by
    have h1 := card_mono (k := k) fun n h1 h2 => h n h1 (by omega)
    have h2 := h ((k : Int) + 1) (by omega) (by omega)
    rw [cardN, cardN]
    cases hf : f ((k : Int) + 1) with
    | false => cases g ((k : Int) + 1) <;> simp <;> omega
    | true => rw [h2 hf]; simp; omega
/-- From 1 on, up to a count. -/
theorem card_upto (b : Int) : ∀ {k : Nat}, 0 ≤ b → b ≤ k → cardN (fun n => decide (n ≤ b)) k = b
  | 0, h1, h2 => by have : b = 0 := by omega
                    subst this; rfl
  | k + 1, h1, h2 => by
    rw [cardN]
    by_cases h : b ≤ k
    · rw [card_upto b h1 h, decide_eq_false (by omega)]; simp
    · have : b = (k : Int) + 1 := by omega
      subst this
      have h3 : cardN (fun n => decide (n ≤ (k : Int) + 1)) k = cardN (fun n => decide (n ≤ (k : Int))) k := card_congr fun n _ h => by rw [decide_eq_true h, decide_eq_true (show n ≤ (k : Int) + 1 by omega)]
      rw [h3, card_upto (k : Int) (by omega) (Int.le_refl _), decide_eq_true (Int.le_refl _)]
theorem card_one (m : Int) : ∀ {k : Nat}, cardN (fun n => decide (n = m)) k = if 1 ≤ m ∧ m ≤ k then 1 else 0
  | 0 => by rw [if_neg (by omega)]; rfl
  | k + 1 => by
    rw [cardN, card_one m (k := k)]
    by_cases h : m = (k : Int) + 1
    · rw [decide_eq_true h.symm, if_neg (by omega), if_pos (by omega)]; rfl
    · rw [decide_eq_false (fun e => h e.symm)]
      by_cases h2 : 1 ≤ m ∧ m ≤ k
      · rw [if_pos h2, if_pos (by omega)]; rfl
      · rw [if_neg h2, if_neg (by omega)]; rfl
/-- One more. -/
theorem card_more (f : Int → Bool) {m : Int} {k : Nat} (h1 : 1 ≤ m) (h2 : m ≤ k) : cardN (fun n => f n || decide (n = m)) k = cardN f k + (match f m with | true => 0 | false => 1) := by
  have h3 := card_two f (fun n => decide (n = m)) k
  rw [card_one m, if_pos ⟨h1, h2⟩] at h3
  cases hf : f m with
  | false =>
    have h4 : cardN (fun n => f n && decide (n = m)) k = cardN (fun _ => false) k := card_congr fun n _ _ => by
      by_cases e : n = m
      · rw [e, hf]; rfl
      · rw [decide_eq_false e, Bool.and_false]
    rw [h4, card_zero] at h3
    show _ = cardN f k + 1
    omega
  | true =>
    have h4 : cardN (fun n => f n && decide (n = m)) k = cardN (fun n => decide (n = m)) k := card_congr fun n _ _ => by
      by_cases e : n = m
      · rw [e, hf, decide_eq_true rfl]; rfl
      · rw [decide_eq_false e, Bool.and_false]
    rw [h4, card_one m, if_pos ⟨h1, h2⟩] at h3
    show _ = cardN f k + 0
    omega
def sumC : List Rn → Int
  | [] => 0
  | r :: l => (r.to - r.fr + 1) + sumC l
theorem card_run {a b : Int} {k : Nat} (h1 : 1 ≤ a) (h2 : a ≤ b) (h3 : b ≤ k) : cardN (fun n => decide (a ≤ n) && decide (n ≤ b)) k = b - a + 1 := by
  have h4 := card_less (fun n => decide (n ≤ b)) (fun n => decide (n ≤ a - 1)) k
  have h5 : cardN (fun n => decide (n ≤ b) && !decide (n ≤ a - 1)) k = cardN (fun n => decide (a ≤ n) && decide (n ≤ b)) k := card_congr fun n _ _ => by
    by_cases c1 : a ≤ n
    · rw [decide_eq_true c1, decide_eq_false (show ¬ n ≤ a - 1 by omega), Bool.not_false, Bool.and_true, Bool.true_and]
    · rw [decide_eq_false c1, decide_eq_true (show n ≤ a - 1 by omega), Bool.not_true, Bool.and_false, Bool.false_and]
  have h6 : cardN (fun n => decide (n ≤ b) && decide (n ≤ a - 1)) k = cardN (fun n => decide (n ≤ a - 1)) k := card_congr fun n _ _ => by
    by_cases c1 : n ≤ a - 1
    · rw [decide_eq_true c1, decide_eq_true (show n ≤ b by omega)]; rfl
    · rw [decide_eq_false c1, Bool.and_false]
  rw [← h5, h4, h6, card_upto b (by omega) h3, card_upto (a - 1) (by omega) (by omega)]
  omega
theorem sum_card : ∀ {l : List Rn} {k : Nat}, rightC l = true → (k : Int) = 1099511627776 → sumC l = cardN (hasC l) k
  | [], k, _, _ => by show (0 : Int) = cardN (fun _ => false) k; rw [card_zero]
  | r :: l, k, h, hk => by
    have h0 := oneC_iff.1 (rightC_head h)
    have h1 := card_two (inC r) (hasC l) k
    have h2 : cardN (fun n => inC r n && hasC l n) k = cardN (fun _ => false) k := card_congr fun n _ _ => by
      cases hi : inC r n with
      | false => rfl
      | true => cases hl : hasC l n with
        | false => rfl
        | true => have e1 := inC_iff.1 hi; have e2 := hasC_above h hl; omega
    have h3 : cardN (inC r) k = r.to - r.fr + 1 := by
      rw [← card_run (k := k) h0.1 h0.2.1 (by omega)]
      exact card_congr fun n _ _ => by unfold inC; rw [rightC_head h, Bool.true_and]
    rw [h2, card_zero, h3] at h1
    rw [sumC, sum_card (rightC_tail h) hk]
    have h4 : cardN (hasC (r :: l)) k = cardN (fun n => inC r n || hasC l n) k := card_congr fun n _ _ => hasC_cons r l n
    omega
def manyC (l : List Rn) : Int := sumC (ofC l)
def baseC (l : List Rn) : Int := match ofC l with
  | [] => 0
  | r :: _ => match decide (r.fr = 1) with | true => r.to | false => 0
def lastC : List Rn → Int
  | [] => 0
  | [r] => r.to
  | _ :: t :: l => lastC (t :: l)
def mostC (l : List Rn) : Int := lastC (ofC l)
theorem manyC_card (l : List Rn) {k : Nat} (hk : (k : Int) = 1099511627776) : manyC l = cardN (hasC l) k := by
  unfold manyC
  rw [sum_card (ofC_right l) hk]
  exact card_congr fun n _ _ => ofC_has l n
theorem last_ok : ∀ {l : List Rn}, rightC l = true → (∀ n, hasC l n = true → n ≤ lastC l) ∧ (l ≠ [] → hasC l (lastC l) = true) ∧ 0 ≤ lastC l
  | [], _ => ⟨(fun n h => by cases h), (fun h => absurd rfl h), Int.le_refl _⟩
  | [r], h => by
    have h0 := oneC_iff.1 (rightC_head h)
    refine ⟨fun n hn => ?_, fun _ => hasC_first h (by show r.fr ≤ r.to; omega) (Int.le_refl _), by show 0 ≤ r.to; omega⟩
    rw [hasC_cons, hasC_nil, Bool.or_false] at hn
    exact (inC_iff.1 hn).2.2
  | r :: t :: l, h => by
    obtain ⟨h1, h2, h3⟩ := last_ok (rightC_tail h)
    have hg := rightC_gap h
    have ht := oneC_iff.1 (rightC_head (rightC_tail h))
    have h4 := h2 (by simp)
    refine ⟨fun n hn => ?_, fun _ => by rw [hasC_cons, show lastC (r :: t :: l) = lastC (t :: l) from rfl, h4, Bool.or_true], h3⟩
    show n ≤ lastC (t :: l)
    rw [hasC_cons, Bool.or_eq_true] at hn
    rcases hn with hn | hn
    · have e1 := (inC_iff.1 hn).2.2
      have e2 := h1 t.fr (hasC_first (rightC_tail h) (Int.le_refl _) ht.2.1)
      omega
    · exact h1 n hn
theorem most_ok (l : List Rn) : (∀ n, hasC l n = true → n ≤ mostC l) ∧ (0 < mostC l → hasC l (mostC l) = true) ∧ 0 ≤ mostC l ∧ mostC l ≤ 1099511627776 := by
  obtain ⟨h1, h2, h3⟩ := last_ok (ofC_right l)
  have h4 : 0 < mostC l → hasC l (mostC l) = true := fun h => by
    rw [← ofC_has]
    refine h2 fun e => ?_
    unfold mostC at h
    rw [e] at h
    exact absurd h (by decide)
  refine ⟨fun n hn => h1 n (by rw [ofC_has]; exact hn), h4, h3, ?_⟩
  by_cases h : 0 < mostC l
  · exact (hasC_range (h4 h)).2
  · omega
theorem base_ok (l : List Rn) : (∀ n, 1 ≤ n → n ≤ baseC l → hasC l n = true) ∧ hasC l (baseC l + 1) = false ∧ 0 ≤ baseC l ∧ baseC l ≤ mostC l := by
  have hr := ofC_right l
  have hm := most_ok l
  have key : (∀ n, 1 ≤ n → n ≤ baseC l → hasC l n = true) ∧ hasC l (baseC l + 1) = false ∧ 0 ≤ baseC l := by
    unfold baseC
    cases h : ofC l with
    | nil => exact ⟨(fun n h1 h2 => absurd h2 (by show ¬ n ≤ 0; omega)), by rw [← ofC_has, h]; rfl, Int.le_refl _⟩
    | cons r u =>
      rw [h] at hr
      have h0 := oneC_iff.1 (rightC_head hr)
      by_cases h1 : r.fr = 1
      · simp only [decide_eq_true h1]
        refine ⟨fun n h2 h3 => ?_, ?_, by omega⟩
        · rw [← ofC_has, h]; exact hasC_first hr (by omega) h3
        · rw [← ofC_has, h]; exact hasC_behind hr
      · simp only [decide_eq_false h1]
        refine ⟨fun n h2 h3 => by omega, ?_, Int.le_refl _⟩
        rw [← ofC_has, h]
        cases hh : hasC (r :: u) (0 + 1) with
        | false => rfl
        | true => have := hasC_least hr hh; omega
  refine ⟨key.1, key.2.1, key.2.2, ?_⟩
  by_cases h : 1 ≤ baseC l
  · exact hm.1 _ (key.1 _ h (Int.le_refl _))
  · omega
/-- How many against base and greatest. -/
theorem many_ok (l : List Rn) : baseC l ≤ manyC l ∧ manyC l ≤ mostC l ∧ (manyC l = baseC l ↔ baseC l = mostC l) := by
  obtain ⟨k, hk⟩ : ∃ k : Nat, (k : Int) = 1099511627776 := ⟨1099511627776, rfl⟩
  obtain ⟨m1, m2, m3, m4⟩ := most_ok l
  obtain ⟨b1, b2, b3, b4⟩ := base_ok l
  have hc := manyC_card l hk
  have hb := card_upto (baseC l) (k := k) b3 (by omega)
  have hm := card_upto (mostC l) (k := k) m3 (by omega)
  have h1 : baseC l ≤ manyC l := by
    rw [hc]
    have := card_mono (f := fun n => decide (n ≤ baseC l)) (g := hasC l) (k := k) fun n h1 _ h => b1 n h1 (by simpa using h)
    omega
  have h2 : manyC l ≤ mostC l := by
    rw [hc]
    have := card_mono (f := hasC l) (g := fun n => decide (n ≤ mostC l)) (k := k) fun n _ _ h => by simpa using m1 n h
    omega
  refine ⟨h1, h2, fun h => ?_, fun h => by omega⟩
  by_cases e : baseC l = mostC l
  · exact e
  · exfalso
    have h3 := card_more (fun n => decide (n ≤ baseC l)) (m := mostC l) (k := k) (by omega) (by omega)
    rw [decide_eq_false (show ¬ mostC l ≤ baseC l by omega), hb] at h3
    have h4 := card_mono (f := fun n => decide (n ≤ baseC l) || decide (n = mostC l)) (g := hasC l) (k := k) fun n h1 _ h => by
      rcases Bool.or_eq_true _ _ ▸ h with h | h
      · exact b1 n h1 (by simpa using h)
      · rw [show n = mostC l by simpa using h]; exact m2 (by omega)
    simp only at h3
    omega
def runC (n : Int) : Rn := ⟨n, n⟩
theorem run_has (m n : Int) : inC (runC m) n = (decide (n = m) && decide (1 ≤ m ∧ m ≤ 1099511627776)) := by
  unfold inC oneC runC
  by_cases h1 : n = m
  · subst h1; by_cases h2 : 1 ≤ n <;> by_cases h3 : n ≤ 1099511627776 <;> simp [h2, h3]
  · rw [decide_eq_false h1]
    by_cases h2 : m ≤ n
    · by_cases h3 : n ≤ m
      · omega
      · simp [h3]
    · simp [h2]
theorem many_add (l : List Rn) (m : Int) : manyC (l ++ [runC m]) = manyC l + (match decide (1 ≤ m) && (decide (m ≤ 1099511627776) && !hasC l m) with | true => 1 | false => 0) := by
  obtain ⟨k, hk⟩ : ∃ k : Nat, (k : Int) = 1099511627776 := ⟨1099511627776, rfl⟩
  rw [manyC_card _ hk, manyC_card _ hk]
  by_cases hm : 1 ≤ m ∧ m ≤ 1099511627776
  · have h1 : cardN (hasC (l ++ [runC m])) k = cardN (fun n => hasC l n || decide (n = m)) k := card_congr fun n _ _ => by
      rw [hasC_append, hasC_cons, hasC_nil, Bool.or_false, run_has, decide_eq_true hm, Bool.and_true]
    rw [h1, card_more (hasC l) hm.1 (by omega), decide_eq_true hm.1, decide_eq_true hm.2]
    cases hasC l m <;> rfl
  · have h1 : cardN (hasC (l ++ [runC m])) k = cardN (hasC l) k := card_congr fun n _ _ => by
      rw [hasC_append, hasC_cons, hasC_nil, Bool.or_false, run_has, decide_eq_false hm, Bool.and_false, Bool.or_false]
    rw [h1]
    by_cases c1 : 1 ≤ m
    · rw [decide_eq_true c1, decide_eq_false (show ¬ m ≤ 1099511627776 by omega)]; simp
    · rw [decide_eq_false c1]; simp
theorem many_two (a b : List Rn) : manyC (makeC 1 a b) = manyC a + manyC b - manyC (makeC 2 a b) ∧ manyC (makeC 3 a b) = manyC a - manyC (makeC 2 a b) := by
  obtain ⟨k, hk⟩ : ∃ k : Nat, (k : Int) = 1099511627776 := ⟨1099511627776, rfl⟩
  rw [manyC_card _ hk, manyC_card _ hk, manyC_card _ hk, manyC_card _ hk, manyC_card _ hk]
  have h1 := card_two (hasC a) (hasC b) k
  have h2 := card_less (hasC a) (hasC b) k
  have e1 : cardN (hasC (makeC 1 a b)) k = cardN (fun n => hasC a n || hasC b n) k := card_congr fun n _ _ => by rw [makeC_has, gC1]
  have e2 : cardN (hasC (makeC 2 a b)) k = cardN (fun n => hasC a n && hasC b n) k := card_congr fun n _ _ => by rw [makeC_has, gC2]
  have e3 : cardN (hasC (makeC 3 a b)) k = cardN (fun n => hasC a n && !hasC b n) k := card_congr fun n _ _ => by rw [makeC_has, gC3]
  rw [e1, e2, e3]
  exact ⟨by omega, h2⟩
theorem most_two (a b : List Rn) : mostC (makeC 1 a b) = max (mostC a) (mostC b) := by
  obtain ⟨a1, a2, a3, _⟩ := most_ok a
  obtain ⟨b1, b2, b3, _⟩ := most_ok b
  obtain ⟨u1, u2, u3, _⟩ := most_ok (makeC 1 a b)
  have h1 : mostC a ≤ mostC (makeC 1 a b) := by
    by_cases h : 0 < mostC a
    · exact u1 _ (by rw [makeC_has, gC1, a2 h]; rfl)
    · omega
  have h2 : mostC b ≤ mostC (makeC 1 a b) := by
    by_cases h : 0 < mostC b
    · exact u1 _ (by rw [makeC_has, gC1, b2 h, Bool.or_true])
    · omega
  by_cases h : 0 < mostC (makeC 1 a b)
  · have h3 := u2 h
    rw [makeC_has, gC1, Bool.or_eq_true] at h3
    rcases h3 with h3 | h3
    · have := a1 _ h3; omega
    · have := b1 _ h3; omega
  · omega
end Go.Proofs.Ytfklochgciijkaa

/-
  Layer 13 (counts), the document's words: runs as values; is one right, has a list a count, are two lists the same; a number put among rising ones.
-/
namespace Go.Proofs.Ytfklochgciijkaa
open Go.RowKit

def rnCells (r : Rn) : List Value := [.int .i64 r.fr, .int .i64 r.to]
noncomputable def kRn : Kind Try.prog Rn where
  ty := 50
  el := 49
  size := 2
  bytes := 16
  zero := .agg #[.int .i64 0, .int .i64 0]
  cells := rnCells
  len := fun _ => rfl
  one := fun r u hu => by simp [rnCells] at hu; rcases hu with rfl | rfl <;> rfl
  pos := by decide
  under := Try.underlying50
  info := by kernel_rfl
  zsize := rfl
noncomputable def kIt : Kind Try.prog Int where
  ty := 53
  el := 3
  size := 1
  bytes := 8
  zero := .int .i64 0
  cells := fun x => [.int .i64 x]
  len := fun _ => rfl
  one := fun r u hu => by simp at hu; subst hu; rfl
  pos := by decide
  under := Try.underlying53
  info := by kernel_rfl
  zsize := rfl
theorem rns_at {w : World} {B : Nat} {A : Option Addr} {c : Nat} {l : List Rn} (h : kRn.Rd w B A c l) (hp : 0 < l.length) :
    ∃ b o, A = some ⟨b, o, none⟩ ∧ b < B ∧ ∀ k v, l[k]? = some v → w.cell? ⟨b, o + k * 2, none⟩ = some (.int .i64 v.fr) ∧ w.cell? ⟨b, o + k * 2 + 1, none⟩ = some (.int .i64 v.to) := by
  obtain ⟨b, o, h1, h2, h3⟩ := h.at_ hp
  exact ⟨b, o, h1, h2, fun k n hn => ⟨h3 k n hn 0 _ rfl, h3 k n hn 1 _ rfl⟩⟩
theorem its_at {w : World} {B : Nat} {A : Option Addr} {c : Nat} {l : List Int} (h : kIt.Rd w B A c l) (hp : 0 < l.length) :
    ∃ b o, A = some ⟨b, o, none⟩ ∧ b < B ∧ ∀ k x, l[k]? = some x → w.cell? ⟨b, o + k, none⟩ = some (.int .i64 x) := by
  obtain ⟨b, o, h1, h2, h3⟩ := h.at_ hp
  exact ⟨b, o, h1, h2, fun k x hx => by have := h3 k x hx 0 _ rfl; rwa [show kIt.size = 1 from rfl, Nat.mul_one, Nat.add_zero] at this⟩
theorem int_sizeOf (w : World) : (sizeOf 3).run Try.prog w = .ok 1 w := by kernel_rfl
theorem cnt_get {α : Type} {l : List α} {k : Nat} (h : k < l.length) : ∃ x, l[k]? = some x ∧ l.drop k = x :: l.drop (k + 1) ∧ x ∈ l := ⟨l[k], List.getElem?_eq_getElem h, List.drop_eq_getElem_cons h, List.getElem_mem h⟩
theorem rd_maxC {P : Program} {α : Type} {k : Kind P α} {w : World} {B : Nat} {A : Option Addr} {c n : Nat} {l : List α} (h : k.Rd w B A c l) (hn : n = l.length) : n ≤ 9223372036854775807 := by
  have h1 := h.room; have h2 := h.cap; unfold maxLen at h2; omega
theorem eq_rn (i j k m : Int) (q : Bool) (hq : (i == k && j == m) = q) (w : World) :
    (Op.equalIn 10000 49 (.agg #[.int .i64 i, .int .i64 j]) (.agg #[.int .i64 k, .int .i64 m])).run Try.prog w = .ok q w := by
  subst hq
  have u2 := Try.underlying3
  have a2 := Try.isAgg3
  have z2 := Try.sizeOf3
  have hS : Try.prog.underlying 49 = some (.struct (Try.prog.fieldsOf 49)) := by kernel_rfl
  have hp : Try.prog.stoodInHeld 49 = false := by kernel_rfl
  rw [show (10000 : Nat) = 9999 + 1 from rfl, run_equalIn_agg w 9999 49 _ _ hS hp]
  simp only [Program.fieldsOf, Try.underlying49]
  go_simp
  by_cases h1 : i = k <;> by_cases h2 : j = m <;> simp [h1, h2]
theorem ref_one (r : Rn) (x y : Int) (hx : r.fr = x) (hy : r.to = y) (z : Bool) (hz : oneC r = z) (w : World) :
    Calls Try.prog 47 #[.agg #[.int .i64 x, .int .i64 y]] w fun e w' => e = .returned (.bool z) ∧ Below w.heap.size w w' := by
  unfold oneC at hz
  rw [hx, hy] at hz
  have HB := Lib.hid (below_new w (.cells #[.int .i64 x, .int .i64 y] 49))
  obtain ⟨b1, h1⟩ : ∃ b, decide (1 ≤ x) = b := ⟨_, rfl⟩
  obtain ⟨b2, h2⟩ : ∃ b, decide (x ≤ y) = b := ⟨_, rfl⟩
  obtain ⟨b3, h3⟩ : ∃ b, decide (y ≤ 1099511627776) = b := ⟨_, rfl⟩
  rw [h1, h2, h3] at hz
  subst hz
  clear hx hy
  cases b1
  case' true =>
    cases b2
    case' true =>
      cases b3
  all_goals
    go_enter Try.func47, Try.ntmps47
    go_wp2_with fail
    go_ret
    exact ⟨rfl, HB.out⟩
/-- Are two lists the same, run by run? -/
def sameC : List Rn → List Rn → Bool
  | [], [] => true
  | r :: a, t :: b => (r.fr == t.fr && r.to == t.to) && sameC a b
  | _, _ => false
theorem sameC_refl : ∀ a : List Rn, sameC a a = true
  | [] => rfl
  | r :: a => by unfold sameC; rw [sameC_refl a, beq_self_eq_true, beq_self_eq_true]; rfl
set_option maxHeartbeats 1000000 in
theorem ref_csame (A B : Option Addr) (c d n : Nat) (a : List Rn) (hn : n = a.length) (w : World) (ha : kRn.Rd w w.heap.size A c a) (hb : kRn.Rd w w.heap.size B d a) :
    Calls Try.prog 31 #[.slice A n c, .slice B n d] w fun e w' => e = .returned (.bool true) ∧ Below w.heap.size w w' := by
  have HN := Lib.hid hn
  have HA := Lib.hid ha
  have HB := Lib.hid hb
  have hmx := rd_maxC ha hn
  have hcx : n ≤ c := by rw [hn]; exact ha.room
  have hcy : n ≤ d := by rw [hn]; exact hb.room
  clear hn ha hb
  go_enter Try.func31, Try.ntmps31
  go_wp2_with fail
  go_loopw [5] (fun i wr => ∃ k q : Nat, k ≤ n ∧ i = .int .i64 k ∧ wr = w.drewN q) (fun i _ => n - (intOf i).toNat)
  case atStart => exact ⟨0, 0, by omega, rfl, rfl⟩
  case round =>
    obtain ⟨k, q, hk, rfl, rfl⟩ := hrel
    by_cases hlt : k < n
    · obtain ⟨r, hg, -, -⟩ := cnt_get (l := a) (k := k) (by have := HN.out; omega)
      obtain ⟨b1, o1, rfl, hb1, hcell1⟩ := rns_at HA.out (by have := HN.out; omega)
      obtain ⟨b2, o2, rfl, hb2, hcell2⟩ := rns_at HB.out (by have := HN.out; omega)
      obtain ⟨a0, a1⟩ := hcell1 k r hg
      obtain ⟨c0, c1⟩ := hcell2 k r hg
      have EQ := fun w => eq_rn r.fr r.to r.fr r.to true (by simp) w
      have hk0 : (0 : Int) ≤ (k : Int) := by omega
      have hkn : (k : Int) < (n : Int) := by omega
      obtain ⟨X, hX⟩ : ∃ X, r.fr = X := ⟨_, rfl⟩
      obtain ⟨Y, hY⟩ : ∃ Y, r.to = Y := ⟨_, rfl⟩
      rw [hX, hY] at EQ
      rw [hX] at a0 c0
      rw [hY] at a1 c1
      clear hcell1 hcell2 hg hX hY
      go_wp2_with fail
      go_quiet (fail)
      go_wp2_with fail
      go_roundw
      case rel => exact ⟨k + 1, _, by omega, by go_num, rfl⟩
      case measure => simp [intOf]; omega
    · go_wp2_with fail
      go_ret
      exact ⟨rfl, below_drewN (Below.refl _ _) _⟩
theorem its_take (l : List Int) (k : Nat) : kIt.row (l.take k) = (kIt.row l).take k := by
  have := kIt.row_take l k
  rwa [show k * kIt.size = k by show k * 1 = k; omega] at this
theorem its_drop (l : List Int) (k : Nat) : kIt.row (l.drop k) = (kIt.row l).drop k := by
  have := kIt.row_drop l k
  rwa [show k * kIt.size = k by show k * 1 = k; omega] at this
theorem its_len (l : List Int) : (kIt.row l).length = l.length := by
  have := kIt.row_len l
  rwa [show l.length * kIt.size = l.length by show l.length * 1 = l.length; omega] at this
theorem cle_alloc {n : Nat} {w : World} (h : n ≤ w.heap.size) (o : Obj) : n ≤ (w.alloc o).heap.size := by simp; omega
theorem cret_slice {A : Option Addr} {n m c : Nat} (h : n = m) : Ending.returned (.slice A n c) = .returned (.slice A m c) := by rw [h]
def RetI (w : World) (N : Nat) (l : List Int) (e : Ending) (w' : World) : Prop := ∃ A c, e = .returned (.slice A N c) ∧ kIt.Rd w' w'.heap.size A c l ∧ Below w.heap.size w w'
end Go.Proofs.Ytfklochgciijkaa

/-
  Runs that came in as a slice; numbers that came in as a slice (of a Kind).
-/
namespace Go.Proofs.Ytfklochgciijkaa
open Go.ChangeShapes Go.WideShapes Go.ChangeAt Go.RowKit Go.Joins

theorem rcells_int : Try.prog.cellsOf 3 = 1 := by kernel_rfl
set_option maxRecDepth 100000 in
theorem rn_of {H : Type} {enc : TypeId × Value → H} {W : World} (n : Nat) (cs : List Value) (y : DataW H × List MemPlace) (hl : cs.length = 2)
    (hy : DataW.trod enc Try.prog W 0 (fun _ => true) true n 49 cs = some y) : ∃ x : Rn, cs = rnCells x ∧ True := by
  obtain ⟨xs, n', _, rfl, -, hlen, hf⟩ := DataW.trod_struct Try.underlying49 hy
  match xs, hlen with
  | [y0, y1], _ =>
    have h0 := hf 0 _ rfl
    have h1 := hf 1 _ rfl
    match cs, hl with
    | [a, b], _ =>
      have h0 : DataW.trod enc Try.prog W 0 (fun _ => true) true n' 3 (([a, b].drop 0).take (Try.prog.cellsOf 3)) = some y0 := by simpa using h0
      have h1 : DataW.trod enc Try.prog W 0 (fun _ => true) true n' 3 (([a, b].drop 1).take (Try.prog.cellsOf 3)) = some y1 := by simpa using h1
      rw [rcells_int] at h0 h1
      obtain ⟨i, e0, -, w0⟩ := DataW.trod_int Try.underlying3 h0
      obtain ⟨j, e1, -, w1⟩ := DataW.trod_int Try.underlying3 h1
      simp at e0 e1
      subst e0 e1
      exact ⟨⟨i, j⟩, rfl, trivial⟩
set_option maxRecDepth 100000 in
theorem in_rns {H : Type} {enc : TypeId × Value → H} {W : World} {base : Nat} {v : Value} {d : DataW H} {p : List MemPlace}
    (hok : Value.okWide Try.prog W .any base 50 v) (h : DataW.Trod enc Try.prog W 0 (fun _ => true) true 50 v d p) :
    ∃ (A : Option Addr) (c : Nat) (l : List Rn), v = .slice A l.length c ∧ kRn.Rd W W.heap.size A c l := by
  obtain ⟨A, c, l, rfl, h1, -, h2, h3⟩ := in_slice rnCells (fun _ => True) Try.underlying50 (k := 2) (by kernel_rfl) (by omega) rn_of hok h
  exact ⟨A, c, l, rfl, h1, h2, h3⟩
theorem it_of {H : Type} {enc : TypeId × Value → H} {W : World} (n : Nat) (cs : List Value) (y : DataW H × List MemPlace) (_ : cs.length = 1)
    (hy : DataW.trod enc Try.prog W 0 (fun _ => true) true n 3 cs = some y) : ∃ x : Int, cs = [.int .i64 x] ∧ True := by
  obtain ⟨i, e0, -, w0⟩ := DataW.trod_int Try.underlying3 hy
  exact ⟨i, e0, trivial⟩
set_option maxRecDepth 100000 in
theorem in_its {H : Type} {enc : TypeId × Value → H} {W : World} {base : Nat} {v : Value} {d : DataW H} {p : List MemPlace}
    (hok : Value.okWide Try.prog W .any base 53 v) (h : DataW.Trod enc Try.prog W 0 (fun _ => true) true 53 v d p) :
    ∃ (A : Option Addr) (c : Nat) (l : List Int), v = .slice A l.length c ∧ kIt.Rd W W.heap.size A c l := by
  obtain ⟨A, c, l, rfl, h1, -, h2, h3⟩ := in_slice (fun x : Int => [Value.int .i64 x]) (fun _ => True) Try.underlying53 (k := 1) (by kernel_rfl) (by omega) it_of hok h
  exact ⟨A, c, l, rfl, h1, h2, h3⟩
end Go.Proofs.Ytfklochgciijkaa

/-
  Layer 13 (counts), the document's words: is a list right; all edges of two lists.
-/
namespace Go.Proofs.Ytfklochgciijkaa
open Go.RowKit

/-- Right runs behind one, each at least two above the end of the one ahead. -/
def contC : Rn → List Rn → Bool
  | _, [] => true
  | p, r :: l => oneC r && (decide (p.to + 2 ≤ r.fr) && contC r l)
theorem contC_cons (p r : Rn) (l : List Rn) : contC p (r :: l) = (oneC r && (decide (p.to + 2 ≤ r.fr) && contC r l)) := rfl
theorem rightC_cont : ∀ (r : Rn) (l : List Rn), rightC (r :: l) = (oneC r && contC r l)
  | r, [] => by show oneC r = _; rw [contC, Bool.and_true]
  | r, t :: l => by
    have h := rightC_cont t l
    rw [show rightC (r :: t :: l) = (oneC r && decide (r.to + 2 ≤ t.fr) && rightC (t :: l)) from rfl, h, contC_cons]
    cases oneC r <;> cases oneC t <;> cases decide (r.to + 2 ≤ t.fr) <;> rfl
set_option maxHeartbeats 4000000 in
theorem ref_cright (A : Option Addr) (c n : Nat) (l : List Rn) (hn : n = l.length) (v : Bool) (hv : rightC l = v) (w : World) (hr : kRn.Rd w w.heap.size A c l) :
    Calls Try.prog 25 #[.slice A n c] w fun e w' => e = .returned (.bool v) ∧ Below w.heap.size w w' := by
  have HN := Lib.hid hn
  have HR := Lib.hid hr
  have HV := Lib.hid hv
  have hmx := rd_maxC hr hn
  have hcx : n ≤ c := by rw [hn]; exact hr.room
  clear hn hr hv
  go_enter Try.func25, Try.ntmps25
  go_wp2_with fail
  go_loopw [3] (fun i wr => ∃ k : Nat, k ≤ n ∧ i = .int .i64 k ∧ Hid (k = 0 ∨ ∃ j p, k = j + 1 ∧ l[j]? = some p ∧ oneC p = true ∧ rightC l = contC p (l.drop k)) ∧ Below w.heap.size w wr) (fun i _ => n - (intOf i).toNat)
  case atStart => exact ⟨0, by omega, rfl, .inl rfl, Below.refl _ _⟩
  case round =>
    obtain ⟨k, hk, rfl, HL, hb⟩ := hrel
    by_cases hlt : k < n
    · obtain ⟨r, hg, hd, -⟩ := cnt_get (l := l) (k := k) (by have := HN.out; omega)
      obtain ⟨b, o, rfl, hb1, hcell⟩ := rns_at (HR.out.below hb) (by have := HN.out; omega)
      obtain ⟨c0, c1⟩ := hcell k r hg
      obtain ⟨z, hz⟩ : ∃ z, oneC r = z := ⟨_, rfl⟩
      have C := fun w => ref_one r _ _ rfl rfl z hz w
      have C := Lib.hid (fun L => cellL_of (a := wr) (l := L) C)
      obtain ⟨X, hX⟩ : ∃ X, r.fr = X := ⟨_, rfl⟩
      obtain ⟨Y, hY⟩ : ∃ Y, r.to = Y := ⟨_, rfl⟩
      rw [hX, hY] at C
      rw [hX] at c0
      rw [hY] at c1
      have hk0 : (0 : Int) ≤ (k : Int) := by omega
      have hkn : (k : Int) < (n : Int) := by omega
      rcases HL.out with h0 | ⟨j, p, hkj, hgj, hop, hcj⟩
      · have e0 : l = r :: l.drop (k + 1) := by rw [← hd, h0]; rfl
        have hg0 : decide ((0 : Int) < (k : Int)) = false := decide_eq_false (by omega)
        have hg1 : decide (0 < k) = false := decide_eq_false (by omega)
        have HC := Lib.hid (show CellL wr [(⟨b, o + k * 2, none⟩, .int .i64 X), (⟨b, o + k * 2 + 1, none⟩, .int .i64 Y)] wr from ⟨c0, c1, Below.refl _ _⟩)
        have HF := Lib.hid (fun h : z = false => show false = v by rw [← HV.out, e0, rightC_cont, hz, h]; rfl)
        have HT := Lib.hid (fun h : z = true => show k + 1 = 0 ∨ ∃ j p, k + 1 = j + 1 ∧ l[j]? = some p ∧ oneC p = true ∧ rightC l = contC p (l.drop (k + 1)) from .inr ⟨k, r, rfl, hg, hz.trans h, by
          conv => lhs; rw [e0]
          rw [rightC_cont, hz, h, Bool.true_and]⟩)
        clear hcell hg hd hX hY hz HL c0 c1 h0 e0
        cases z
        · replace HF := Lib.hid (HF.out rfl)
          clear HT
          go_wp2_with fail
          refine q_region (CellL wr [(⟨b, o + k * 2, none⟩, .int .i64 X), (⟨b, o + k * 2 + 1, none⟩, .int .i64 Y)]) (by kernel_rfl) (by kernel_rfl) (cellL_drew HC.out) ?_
          repeat (first
            | go_big_quiet_skip
            | (go_big_quiet_want; (first
              | (refine q_take (v := ?_) ?_ ?_; rotate_left; (focus (intro w hSw; (try simp only [CellL] at hSw); go_split_ands; go_simp; (try (rw [if_neg (by omega)])); (try with_reducible rfl); done)))
              | (refine q_call (C.out _) ?_ ?_; (focus (intro w hSw; (try simp only [CellL] at hSw); go_split_ands; go_simp; (try (rw [if_neg (by omega)])); done)))); (try simp only [Act.put, List.setIfInBounds_toArray, List.set_cons_zero, List.set_cons_succ]); go_big_quiet_on))
          refine wpQuiet_nil ?_
          intro w2 hw2
          have HB2 := Lib.hid (hb.trans ((cellL_size hw2).mono hb.size))
          clear hw2
          go_wp2_with fail
          go_ret
          exact ⟨ret_bool HF.out, HB2.out⟩
        · replace HT := Lib.hid (HT.out rfl)
          clear HF
          go_wp2_with fail
          refine q_region (CellL wr [(⟨b, o + k * 2, none⟩, .int .i64 X), (⟨b, o + k * 2 + 1, none⟩, .int .i64 Y)]) (by kernel_rfl) (by kernel_rfl) (cellL_drew HC.out) ?_
          repeat (first
            | go_big_quiet_skip
            | (go_big_quiet_want; (first
              | (refine q_take (v := ?_) ?_ ?_; rotate_left; (focus (intro w hSw; (try simp only [CellL] at hSw); go_split_ands; go_simp; (try (rw [if_neg (by omega)])); (try with_reducible rfl); done)))
              | (refine q_call (C.out _) ?_ ?_; (focus (intro w hSw; (try simp only [CellL] at hSw); go_split_ands; go_simp; (try (rw [if_neg (by omega)])); done)))); (try simp only [Act.put, List.setIfInBounds_toArray, List.set_cons_zero, List.set_cons_succ]); go_big_quiet_on))
          refine wpQuiet_nil ?_
          intro w2 hw2
          have HB2 := Lib.hid (hb.trans ((cellL_size hw2).mono hb.size))
          clear hw2
          go_wp2_with fail
          go_roundw
          case rel => exact ⟨k + 1, by omega, by go_num, HT, HB2.out⟩
          case measure => simp [intOf]; omega
      · obtain ⟨d0, d1⟩ := hcell j p hgj
        obtain ⟨P, hP⟩ : ∃ P, p.to = P := ⟨_, rfl⟩
        rw [hP] at d1
        have hp9 := (oneC_iff.1 hop).2.2
        have hp1 := (oneC_iff.1 hop)
        rw [hP] at hp9
        have hP1 : 1 ≤ P := by rw [← hP]; omega
        have hg0 : decide ((0 : Int) < (k : Int)) = true := decide_eq_true (by omega)
        have hg1 : decide (0 < k) = true := decide_eq_true (by omega)
        have hj0 : (0 : Int) ≤ (j : Int) := by omega
        have hjn : (j : Int) < (n : Int) := by omega
        have hjd : decide ((j : Int) < 0) = false := decide_eq_false (by omega)
        have hjw : IntKind.i64.wrap ((k : Int) - 1) = (j : Int) := by rw [show (k : Int) - 1 = (j : Int) by omega]; exact IntWalk.i64_in _ (by omega)
        have hpw : IntKind.i64.wrap (P + 2) = P + 2 := IntWalk.i64_in _ (by omega)
        obtain ⟨g, hg2⟩ : ∃ g, decide (X < P + 2) = g := ⟨_, rfl⟩
        have hgg : decide (p.to + 2 ≤ r.fr) = !g := by
          rw [hP, hX, ← hg2]
          by_cases h : X < P + 2
          · rw [decide_eq_true h, decide_eq_false (by omega)]; rfl
          · rw [decide_eq_false h, decide_eq_true (by omega)]; rfl
        have HC := Lib.hid (show CellL wr [(⟨b, o + k * 2, none⟩, .int .i64 X), (⟨b, o + k * 2 + 1, none⟩, .int .i64 Y), (⟨b, o + j * 2 + 1, none⟩, .int .i64 P)] wr from ⟨c0, c1, d1, Below.refl _ _⟩)
        have HE := Lib.hid (show rightC l = (z && (!g && contC r (l.drop (k + 1)))) by rw [hcj, hd, contC_cons, hz, hgg])
        have HG := Lib.hid hg
        have HZ := Lib.hid hz
        clear hcell hg hd hX hY hz HL c0 c1 d0 d1 hkj hgj hop hcj hgg hP hp1
        cases z
        · have HF := Lib.hid (show false = v by rw [← HV.out, HE.out]; rfl)
          go_wp2_with fail
          refine q_region (CellL wr [(⟨b, o + k * 2, none⟩, .int .i64 X), (⟨b, o + k * 2 + 1, none⟩, .int .i64 Y), (⟨b, o + j * 2 + 1, none⟩, .int .i64 P)]) (by kernel_rfl) (by kernel_rfl) (cellL_drew HC.out) ?_
          repeat (first
            | go_big_quiet_skip
            | (go_big_quiet_want; (first
              | (refine q_take (v := ?_) ?_ ?_; rotate_left; (focus (intro w hSw; (try simp only [CellL] at hSw); go_split_ands; go_simp; (try (rw [if_neg (by omega)])); (try with_reducible rfl); done)))
              | (refine q_call (C.out _) ?_ ?_; (focus (intro w hSw; (try simp only [CellL] at hSw); go_split_ands; go_simp; (try (rw [if_neg (by omega)])); done)))); (try simp only [Act.put, List.setIfInBounds_toArray, List.set_cons_zero, List.set_cons_succ]); go_big_quiet_on))
          refine wpQuiet_nil ?_
          intro w2 hw2
          have HB2 := Lib.hid (hb.trans ((cellL_size hw2).mono hb.size))
          clear hw2
          go_wp2_with fail
          go_ret
          exact ⟨ret_bool HF.out, HB2.out⟩
        · cases g
          · have HT := Lib.hid (show k + 1 = 0 ∨ ∃ j p, k + 1 = j + 1 ∧ l[j]? = some p ∧ oneC p = true ∧ rightC l = contC p (l.drop (k + 1)) from .inr ⟨k, r, rfl, HG.out, HZ.out, by rw [HE.out]; rfl⟩)
            go_wp2_with fail
            refine q_region (CellL wr [(⟨b, o + k * 2, none⟩, .int .i64 X), (⟨b, o + k * 2 + 1, none⟩, .int .i64 Y), (⟨b, o + j * 2 + 1, none⟩, .int .i64 P)]) (by kernel_rfl) (by kernel_rfl) (cellL_drew HC.out) ?_
            repeat (first
              | go_big_quiet_skip
              | (go_big_quiet_want; (first
                | (refine q_take (v := ?_) ?_ ?_; rotate_left; (focus (intro w hSw; (try simp only [CellL] at hSw); go_split_ands; go_simp; (try (rw [if_neg (by omega)])); (try with_reducible rfl); done)))
                | (refine q_call (C.out _) ?_ ?_; (focus (intro w hSw; (try simp only [CellL] at hSw); go_split_ands; go_simp; (try (rw [if_neg (by omega)])); done)))); (try simp only [Act.put, List.setIfInBounds_toArray, List.set_cons_zero, List.set_cons_succ]); go_big_quiet_on))
            refine wpQuiet_nil ?_
            intro w2 hw2
            have HB2 := Lib.hid (hb.trans ((cellL_size hw2).mono hb.size))
            clear hw2
            go_wp2_with fail
            go_roundw
            case rel => exact ⟨k + 1, by omega, by go_num, HT, HB2.out⟩
            case measure => simp [intOf]; omega
          · have HF := Lib.hid (show false = v by rw [← HV.out, HE.out]; rfl)
            go_wp2_with fail
            refine q_region (CellL wr [(⟨b, o + k * 2, none⟩, .int .i64 X), (⟨b, o + k * 2 + 1, none⟩, .int .i64 Y), (⟨b, o + j * 2 + 1, none⟩, .int .i64 P)]) (by kernel_rfl) (by kernel_rfl) (cellL_drew HC.out) ?_
            repeat (first
              | go_big_quiet_skip
              | (go_big_quiet_want; (first
                | (refine q_take (v := ?_) ?_ ?_; rotate_left; (focus (intro w hSw; (try simp only [CellL] at hSw); go_split_ands; go_simp; (try (rw [if_neg (by omega)])); (try with_reducible rfl); done)))
                | (refine q_call (C.out _) ?_ ?_; (focus (intro w hSw; (try simp only [CellL] at hSw); go_split_ands; go_simp; (try (rw [if_neg (by omega)])); done)))); (try simp only [Act.put, List.setIfInBounds_toArray, List.set_cons_zero, List.set_cons_succ]); go_big_quiet_on))
            refine wpQuiet_nil ?_
            intro w2 hw2
            have HB2 := Lib.hid (hb.trans ((cellL_size hw2).mono hb.size))
            clear hw2
            go_wp2_with fail
            go_ret
            exact ⟨ret_bool HF.out, HB2.out⟩
    · have HF := Lib.hid (show true = v by
        rw [← HV.out]
        rcases HL.out with h0 | ⟨j, p, _, _, _, hcj⟩
        · have : l = [] := List.eq_nil_of_length_eq_zero (by have := HN.out; omega)
          rw [this]; rfl
        · rw [hcj, List.drop_eq_nil_of_le (by have := HN.out; omega)]; rfl)
      clear HL
      go_wp2_with fail
      go_ret
      exact ⟨ret_bool HF.out, hb⟩
end Go.Proofs.Ytfklochgciijkaa

/-
  Layer 13 (counts), the document's words: all edges of two lists.
-/
namespace Go.Proofs.Ytfklochgciijkaa
open Go.RowKit

end Go.Proofs.Ytfklochgciijkaa

/-
  Layer 13 (counts), the document's words: the right list of what is meant.
-/
namespace Go.Proofs.Ytfklochgciijkaa
open Go.RowKit

def RetC (w : World) (N : Nat) (l : List Rn) (e : Ending) (w' : World) : Prop := ∃ A c, e = .returned (.slice A N c) ∧ kRn.Rd w' w'.heap.size A c l ∧ Below w.heap.size w w'
/-- .. of the call's own: made since it began. -/
def RetOC (w : World) (N : Nat) (l : List Rn) (e : Ending) (w' : World) : Prop := ∃ A c, e = .returned (.slice A N c) ∧ kRn.Own w' w.heap.size (.slice A N c) l ∧ Below w.heap.size w w'
theorem RetOC.ret {w w' : World} {N : Nat} {l : List Rn} {e : Ending} (h : RetOC w N l e w') : RetC w N l e w' := by
  obtain ⟨A, c, h1, h2, h3⟩ := h
  exact ⟨A, c, h1, h2.rd, h3⟩
theorem rn_row (w : World) (x y : Int) : RowAt (w.alloc (.cells #[.int .i64 x, .int .i64 y] 49)) (w.heap.size + 1) (some ⟨w.heap.size, 0, none⟩) (kRn.row [⟨x, y⟩]) := (Kind.rd_new (k := kRn) (l := [⟨x, y⟩]) (n := 1) (by rw [kRn.row_one]; rfl) rfl (by simp)).row
theorem own_to {w : World} {base g n c D : Nat} {dn : List Rn} {r : Rn} (h : kRn.Own w base (.slice (some ⟨g, 0, none⟩) n c) (dn ++ [r])) (hn : n = (dn ++ [r]).length) (hD : dn.length = D) (y : Int) :
    kRn.Own (w.setCell ⟨g, D * 2 + 1, none⟩ (.int .i64 y)) base (.slice (some ⟨g, 0, none⟩) n c) (dn ++ [⟨r.fr, y⟩]) := by
  subst hD
  have g1 : (dn ++ [r])[dn.length]? = some r := by rw [List.getElem?_append_right (Nat.le_refl _), Nat.sub_self]; rfl
  have h1 := h.stored (j := 1) (y := ⟨r.fr, y⟩) (v := .int .i64 y) hn g1 (by decide) rfl
  rwa [show (dn ++ [r]).set dn.length ⟨r.fr, y⟩ = dn ++ [⟨r.fr, y⟩] from by simp] at h1
end Go.Proofs.Ytfklochgciijkaa

/-
  Plain facts on keys (layer 6): texts in order, what stands behind, what texts begin with. No program in this text.
-/
namespace Go.Proofs.Ytfklochgciijkaa

/-- Does a text stand ahead of another one? -/
def ltB : List UInt8 → List UInt8 → Bool
  | _, [] => false
  | [], _ :: _ => true
  | x :: a, y :: b => if x = y then ltB a b else decide (x.toNat < y.toNat)

theorem ltB_nil (a : List UInt8) : ltB a [] = false := by cases a <;> rfl
theorem ltB_nil_cons (y : UInt8) (b : List UInt8) : ltB [] (y :: b) = true := rfl
theorem ltB_same (x : UInt8) (a b : List UInt8) : ltB (x :: a) (x :: b) = ltB a b := by simp [ltB]
theorem ltB_other {x y : UInt8} (h : x ≠ y) (a b : List UInt8) : ltB (x :: a) (y :: b) = decide (x.toNat < y.toNat) := by simp [ltB, h]
theorem u8_ne {x y : UInt8} (h : x ≠ y) : x.toNat ≠ y.toNat := fun e => h (UInt8.toNat_inj.1 e)
theorem ltB_irrefl : ∀ a : List UInt8, ltB a a = false
  | [] => rfl
  | x :: a => by rw [ltB_same]; exact ltB_irrefl a
theorem ltB_asymm : ∀ {a b : List UInt8}, ltB a b = true → ltB b a = false
  | a, [], h => by rw [ltB_nil] at h; cases h
  | [], y :: b, _ => rfl
  | x :: a, y :: b, h => by
    by_cases e : x = y
    · subst e; rw [ltB_same] at h ⊢; exact ltB_asymm h
    · rw [ltB_other e, decide_eq_true_eq] at h
      rw [ltB_other (Ne.symm e), decide_eq_false_iff_not]; omega
theorem ltB_total : ∀ {a b : List UInt8}, ltB a b = false → ltB b a = false → a = b
  | [], [], _, _ => rfl
  | [], y :: b, h, _ => by cases h
  | x :: a, [], _, h => by cases h
  | x :: a, y :: b, h, h' => by
    by_cases e : x = y
    · subst e; rw [ltB_same] at h h'; rw [ltB_total h h']
    · rw [ltB_other e, decide_eq_false_iff_not] at h
      rw [ltB_other (Ne.symm e), decide_eq_false_iff_not] at h'
      have := u8_ne e
      omega
theorem ltB_trans : ∀ {a b c : List UInt8}, ltB a b = true → ltB b c = true → ltB a c = true
  | a, [], c, h, _ => by rw [ltB_nil] at h; cases h
  | a, y :: b, [], _, h => by cases h
  | [], y :: b, z :: c, _, _ => rfl
  | x :: a, y :: b, z :: c, h, h' => by
    by_cases e : x = y
    · subst e
      rw [ltB_same] at h
      by_cases e' : x = z
      · subst e'; rw [ltB_same] at h' ⊢; exact ltB_trans h h'
      · rw [ltB_other e'] at h' ⊢; exact h'
    · rw [ltB_other e, decide_eq_true_eq] at h
      by_cases e' : y = z
      · subst e'; rw [ltB_other e, decide_eq_true_eq]; exact h
      · rw [ltB_other e', decide_eq_true_eq] at h'
        have e2 : x ≠ z := fun e2 => by subst e2; omega
        rw [ltB_other e2, decide_eq_true_eq]; omega
/-- What is not behind, and what is ahead: together ahead. -/
theorem ltB_of_le_of_lt {a b c : List UInt8} (h : ltB b a = false) (h' : ltB b c = true) : ltB a c = true := by
  cases hab : ltB a b with
  | true => exact ltB_trans hab h'
  | false => rw [ltB_total hab h]; exact h'
theorem ltB_of_lt_of_le {a b c : List UInt8} (h : ltB a b = true) (h' : ltB c b = false) : ltB a c = true := by
  cases hbc : ltB b c with
  | true => exact ltB_trans h hbc
  | false => rw [← ltB_total hbc h']; exact h
theorem leB_trans {a b c : List UInt8} (h : ltB b a = false) (h' : ltB c b = false) : ltB c a = false := by
  cases hc : ltB c a with
  | false => rfl
  | true => rw [ltB_of_lt_of_le hc h] at h'; cases h'
theorem ltB_append : ∀ (p a b : List UInt8), ltB (p ++ a) (p ++ b) = ltB a b
  | [], _, _ => rfl
  | x :: p, a, b => by rw [List.cons_append, List.cons_append, ltB_same]; exact ltB_append p a b
theorem ltB_prefix : ∀ (p a : List UInt8), ltB (p ++ a) p = false
  | [], a => ltB_nil a
  | x :: p, a => by rw [List.cons_append, ltB_same]; exact ltB_prefix p a

/-- Which of two stands ahead, in words of the order. -/
theorem cmp_ltB : ∀ (a b : List UInt8), Lib.compareBytes a b = if ltB a b = true then -1 else if ltB b a = true then 1 else 0
  | [], [] => rfl
  | [], _ :: _ => rfl
  | _ :: _, [] => rfl
  | x :: a, y :: b => by
    unfold Lib.compareBytes
    by_cases e : x = y
    · subst e
      rw [if_neg (UInt8.lt_irrefl x), if_neg (UInt8.lt_irrefl x), ltB_same, ltB_same]; exact cmp_ltB a b
    · rw [ltB_other e, ltB_other (Ne.symm e)]
      simp only [decide_eq_true_eq, UInt8.lt_iff_toNat_lt]
      have := u8_ne e
      by_cases h : x.toNat < y.toNat
      · rw [if_pos h, if_pos h]
      · rw [if_neg h, if_neg h, if_pos (by omega), if_pos (by omega)]
theorem cmp_lt {a b : List UInt8} (h : ltB a b = true) : Lib.compareBytes a b = -1 := by rw [cmp_ltB, if_pos h]
theorem cmp_gt {a b : List UInt8} (h : ltB b a = true) : Lib.compareBytes a b = 1 := by rw [cmp_ltB, if_neg (by rw [ltB_asymm h]; exact Bool.false_ne_true), if_pos h]
theorem cmp_self (a : List UInt8) : Lib.compareBytes a a = 0 := by rw [cmp_ltB, ltB_irrefl]; rfl
/-- Three ways two texts stand. -/
theorem ltB_three (a b : List UInt8) : (ltB a b = true ∧ ltB b a = false ∧ a ≠ b) ∨ (ltB a b = false ∧ ltB b a = true ∧ a ≠ b) ∨ (ltB a b = false ∧ ltB b a = false ∧ a = b) := by
  cases h : ltB a b with
  | true => exact .inl ⟨rfl, ltB_asymm h, fun e => by rw [e, ltB_irrefl] at h; cases h⟩
  | false => cases h' : ltB b a with
    | true => exact .inr (.inl ⟨rfl, rfl, fun e => by rw [e, ltB_irrefl] at h'; cases h'⟩)
    | false => exact .inr (.inr ⟨rfl, rfl, ltB_total h h'⟩)

/-- The walk of two texts from the left. -/
theorem ltB_step {a b : List UInt8} {k : Nat} (ha : k < a.length) (hb : k < b.length) (h : a.getD k 0 = b.getD k 0) : ltB (a.drop k) (b.drop k) = ltB (a.drop (k + 1)) (b.drop (k + 1)) := by
  rw [List.drop_eq_getElem_cons ha, List.drop_eq_getElem_cons hb]
  simp only [List.getD, List.getElem?_eq_getElem ha, List.getElem?_eq_getElem hb, Option.getD_some] at h
  rw [h, ltB_same]
theorem ltB_stop {a b : List UInt8} {k : Nat} (ha : k < a.length) (hb : k < b.length) (h : a.getD k 0 ≠ b.getD k 0) : ltB (a.drop k) (b.drop k) = decide ((a.getD k 0).toNat < (b.getD k 0).toNat) := by
  rw [List.drop_eq_getElem_cons ha, List.drop_eq_getElem_cons hb]
  simp only [List.getD, List.getElem?_eq_getElem ha, List.getElem?_eq_getElem hb, Option.getD_some] at h ⊢
  rw [ltB_other h]
theorem ltB_out {a b : List UInt8} {k : Nat} (h : b.length ≤ k) : ltB (a.drop k) (b.drop k) = false := by rw [List.drop_eq_nil_of_le h, ltB_nil]
theorem ltB_end {a b : List UInt8} {k : Nat} (ha : a.length = k) (hb : k ≤ b.length) : ltB (a.drop k) (b.drop k) = decide (k < b.length) := by
  rw [List.drop_eq_nil_of_le (by omega)]
  by_cases h : k < b.length
  · rw [List.drop_eq_getElem_cons h, ltB_nil_cons, decide_eq_true h]
  · rw [List.drop_eq_nil_of_le (by omega), ltB_nil, decide_eq_false h]

/-! What stands behind. -/
theorem ltB_next (s : List UInt8) : ltB s (s ++ [0]) = true := by
  have := ltB_append s [] [0]
  rw [List.append_nil] at this
  rw [this]; rfl
theorem next_none : ∀ {s t : List UInt8}, ltB s t = true → ltB t (s ++ [0]) = false
  | s, [], h => by rw [ltB_nil] at h; cases h
  | [], y :: t, _ => by
    by_cases e : y = 0
    · subst e; rw [List.nil_append, ltB_same]; exact ltB_nil t
    · rw [List.nil_append, ltB_other e, decide_eq_false_iff_not]
      show ¬ y.toNat < 0
      omega
  | x :: s, y :: t, h => by
    by_cases e : x = y
    · subst e; rw [ltB_same] at h; rw [List.cons_append, ltB_same]; exact next_none h
    · rw [ltB_other e, decide_eq_true_eq] at h
      rw [List.cons_append, ltB_other (Ne.symm e), decide_eq_false_iff_not]; omega

/-- The first of all texts behind all that begin with one. -/
def endV : List UInt8 → Option (List UInt8)
  | [] => none
  | c :: l => match endV l with
    | some e => some (c :: e)
    | none => if c = 255 then none else some [c + 1]
theorem endV_nil : endV [] = none := rfl
theorem endV_last : ∀ l : List UInt8, endV (l ++ [255]) = endV l
  | [] => rfl
  | c :: l => by rw [List.cons_append, endV, endV, endV_last l]
theorem endV_some {c : UInt8} (h : c ≠ 255) : ∀ l : List UInt8, endV (l ++ [c]) = some (l ++ [c + 1])
  | [] => by rw [List.nil_append, endV, endV]; simp [h]
  | d :: l => by rw [List.cons_append, endV, endV_some h l]; rfl
theorem add_one_nat {c : UInt8} (h : c ≠ 255) : (c + 1).toNat = c.toNat + 1 := by
  have h1 : c.toNat ≠ 255 := u8_ne h
  have := c.toNat_lt
  rw [UInt8.toNat_add]
  show (c.toNat + 1) % 256 = _
  omega
theorem endV_len : ∀ {p e : List UInt8}, endV p = some e → 0 < e.length ∧ e.length ≤ p.length
  | [], e, h => by cases h
  | c :: l, e, h => by
    unfold endV at h
    cases hl : endV l with
    | some e' =>
      rw [hl] at h
      have := endV_len hl
      injection h with h; subst h
      simp; omega
    | none =>
      rw [hl] at h
      by_cases hc : c = 255
      · simp [hc] at h
      · simp only [if_neg hc, Option.some.injEq] at h
        subst h; simp
theorem endV_cons (c : UInt8) (l : List UInt8) : endV (c :: l) = match endV l with | some e => some (c :: e) | none => if c = 255 then none else some [c + 1] := rfl
/-- Does a text stand ahead of an end that may be none? -/
def aheadO (t : List UInt8) : Option (List UInt8) → Bool
  | some e => ltB t e
  | none => true
/-- Between a text and its end stand those that begin with it, and no others. -/
theorem end_between : ∀ (s t : List UInt8), (!ltB t s && aheadO t (endV s)) = s.isPrefixOf t
  | [], t => by rw [ltB_nil]; simp [endV, aheadO]
  | c :: s, [] => by rw [ltB_nil_cons]; simp
  | c :: s, d :: t => by
    have ih := end_between s t
    by_cases e : d = c
    · subst e
      rw [ltB_same, List.isPrefixOf_cons_cons_self, ← ih, endV_cons]
      cases hs : endV s with
      | some e' => simp only [aheadO, ltB_same]
      | none =>
        by_cases hc : d = 255
        · simp [hc, aheadO]
        · have h1 : d ≠ d + 1 := fun e => by have := add_one_nat hc; rw [← e] at this; omega
          simp only [if_neg hc, aheadO, ltB_other h1, add_one_nat hc]
          simp
    · have hp : (c :: s).isPrefixOf (d :: t) = false := by
        simp only [List.isPrefixOf, Bool.and_eq_false_iff, beq_eq_false_iff_ne]
        exact .inl (Ne.symm e)
      rw [hp, ltB_other e]
      have hne := u8_ne e
      by_cases hlt : d.toNat < c.toNat
      · simp [hlt]
      · have hgt : c.toNat < d.toNat := by omega
        rw [endV_cons]
        cases hs : endV s with
        | some e' => simp [aheadO, ltB_other e, hlt]
        | none =>
          by_cases hc : c = 255
          · subst hc
            have := d.toNat_lt
            have : (255 : UInt8).toNat = 255 := rfl
            omega
          · simp only [if_neg hc, aheadO]
            by_cases h1 : d = c + 1
            · subst h1; simp [ltB_same, ltB_nil]
            · have h2 : (c + 1).toNat = c.toNat + 1 := add_one_nat hc
              have h3 := u8_ne h1
              simp [ltB_other h1]; omega

/-! With what texts begin. -/
/-- How many bytes at the beginning of both are the same. -/
def alikeN : List UInt8 → List UInt8 → Nat
  | x :: a, y :: b => if x = y then alikeN a b + 1 else 0
  | _, _ => 0
theorem alikeN_le : ∀ a b : List UInt8, alikeN a b ≤ a.length ∧ alikeN a b ≤ b.length
  | [], b => by simp [alikeN]
  | x :: a, [] => by simp [alikeN]
  | x :: a, y :: b => by
    have := alikeN_le a b
    unfold alikeN
    split <;> simp <;> omega
theorem alikeN_at : ∀ {a b : List UInt8} {k : Nat}, k ≤ a.length → k ≤ b.length → a.take k = b.take k → (k < a.length → k < b.length → a.getD k 0 ≠ b.getD k 0) → alikeN a b = k
  | [], b, k, h, _, _, _ => by simp at h; subst h; simp [alikeN]
  | x :: a, [], k, _, h, _, _ => by simp at h; subst h; simp [alikeN]
  | x :: a, y :: b, 0, _, _, _, h => by
    have := h (by simp) (by simp)
    simp at this
    simp [alikeN, this]
  | x :: a, y :: b, k + 1, h1, h2, h3, h4 => by
    simp only [List.take_succ_cons, List.cons.injEq] at h3
    have := alikeN_at (a := a) (b := b) (k := k) (by simpa using h1) (by simpa using h2) h3.2 (fun u v => by simpa using h4 (by simpa using u) (by simpa using v))
    simp [alikeN, h3.1, this]
theorem alike_take : ∀ a b : List UInt8, a.take (alikeN a b) <+: b
  | [], b => by simp [alikeN]
  | x :: a, [] => by simp [alikeN]
  | x :: a, y :: b => by
    unfold alikeN
    split
    · rename_i h; subst h; rw [List.take_succ_cons]; exact (List.prefix_cons_inj x).2 (alike_take a b)
    · simp
theorem alike_most : ∀ {a b d : List UInt8}, d <+: a → d <+: b → d <+: a.take (alikeN a b)
  | a, b, [], _, _ => List.nil_prefix
  | a, b, z :: d, h1, h2 => by
    obtain ⟨a', rfl⟩ := h1
    obtain ⟨b', rfl⟩ := h2
    rw [List.cons_append, List.cons_append]
    unfold alikeN
    rw [if_pos rfl, List.take_succ_cons]
    exact (List.prefix_cons_inj z).2 (alike_most (List.prefix_append d a') (List.prefix_append d b'))
/-- What is left of a text when more are met. -/
def commonF (s : List UInt8) (r : List (List UInt8)) : List UInt8 := r.foldl (fun all t => all.take (alikeN all t)) s
/-- With what all begin. -/
def commonV : List (List UInt8) → List UInt8
  | [] => []
  | s :: r => commonF s r
theorem commonF_snoc (s : List UInt8) (r : List (List UInt8)) (t : List UInt8) : commonF s (r ++ [t]) = (commonF s r).take (alikeN (commonF s r) t) := by simp [commonF]
theorem commonF_pre : ∀ (r : List (List UInt8)) (s : List UInt8), commonF s r <+: s ∧ ∀ t ∈ r, commonF s r <+: t
  | [], s => ⟨List.prefix_rfl, by simp⟩
  | t :: r, s => by
    have h := commonF_pre r (s.take (alikeN s t))
    refine ⟨h.1.trans (List.take_prefix _ _), fun u hu => ?_⟩
    rcases List.mem_cons.1 hu with rfl | hu
    · exact h.1.trans (alike_take s u)
    · exact h.2 u hu
theorem commonF_most : ∀ (r : List (List UInt8)) (s d : List UInt8), d <+: s → (∀ t ∈ r, d <+: t) → d <+: commonF s r
  | [], _, _, h, _ => h
  | t :: r, _, _, h, h' => commonF_most r _ _ (alike_most h (h' t (List.mem_cons_self ..))) fun u hu => h' u (List.mem_cons_of_mem _ hu)
theorem commonV_pre {l : List (List UInt8)} {t : List UInt8} (h : t ∈ l) : commonV l <+: t := by
  cases l with
  | nil => cases h
  | cons s r =>
    rcases List.mem_cons.1 h with rfl | h
    · exact (commonF_pre r _).1
    · exact (commonF_pre r s).2 t h
theorem commonV_most {l : List (List UInt8)} {d : List UInt8} (hl : l ≠ []) (h : ∀ t ∈ l, d <+: t) : d <+: commonV l := by
  cases l with
  | nil => exact absurd rfl hl
  | cons s r => exact commonF_most r s d (h s (List.mem_cons_self ..)) fun u hu => h u (List.mem_cons_of_mem _ hu)
theorem prefix_getD {p t : List UInt8} (h : p <+: t) : t.take p.length = p := (List.prefix_iff_eq_take.1 h).symm
theorem take_succ_getD {t : List UInt8} {k : Nat} (h : k < t.length) : t.take (k + 1) = t.take k ++ [t.getD k 0] := by
  rw [List.take_succ_eq_append_getElem h]; simp [List.getD, List.getElem?_eq_getElem h]
/-- Nothing longer serves. -/
theorem commonV_longest {l : List (List UInt8)} (h : ∀ t ∈ l, (commonV l).length < t.length) (he : ∀ t ∈ l, t.getD (commonV l).length 0 = (l.getD 0 []).getD (commonV l).length 0) : l = [] := by
  refine Decidable.byContradiction fun hl => ?_
  have hm := commonV_most (d := commonV l ++ [(l.getD 0 []).getD (commonV l).length 0]) hl fun t ht => by
    have h1 := commonV_pre ht
    have h2 := take_succ_getD (h t ht)
    rw [he t ht, prefix_getD h1] at h2
    rw [← h2]
    exact List.take_prefix _ _
  have := hm.length_le
  rw [List.length_append, List.length_singleton] at this
  omega
end Go.Proofs.Ytfklochgciijkaa

/-
  Plain facts on versions (layer 12): right ones, their order, their texts, and lists of them in order. No program in this text.
-/
namespace Go.Proofs.Ytfklochgciijkaa

structure Vr where
  rep : Int
  cnt : Int
def rightVr (v : Vr) : Bool := decide (1 ≤ v.rep) && (decide (v.rep ≤ 16) && (decide (1 ≤ v.cnt) && decide (v.cnt ≤ 1099511627776)))
theorem rightVr_iff {v : Vr} : rightVr v = true ↔ 1 ≤ v.rep ∧ v.rep ≤ 16 ∧ 1 ≤ v.cnt ∧ v.cnt ≤ 1099511627776 := by
  unfold rightVr; simp only [Bool.and_eq_true, decide_eq_true_eq]
def lessVr (a b : Vr) : Bool := decide (a.rep < b.rep) || (decide (a.rep = b.rep) && decide (a.cnt < b.cnt))
theorem lessVr_iff {a b : Vr} : lessVr a b = true ↔ a.rep < b.rep ∨ a.rep = b.rep ∧ a.cnt < b.cnt := by
  unfold lessVr; simp only [Bool.or_eq_true, Bool.and_eq_true, decide_eq_true_eq]
theorem vr_ext {a b : Vr} (h1 : a.rep = b.rep) (h2 : a.cnt = b.cnt) : a = b := by cases a; cases b; simp_all
def cmpVr (a b : Vr) : Int := match lessVr a b with | true => -1 | false => match lessVr b a with | true => 1 | false => 0
theorem cmpVr_three (a b : Vr) : (cmpVr a b = -1 ∧ cmpVr b a = 1 ∧ lessVr a b = true ∧ lessVr b a = false) ∨ (cmpVr a b = 1 ∧ cmpVr b a = -1 ∧ lessVr a b = false ∧ lessVr b a = true) ∨ (cmpVr a b = 0 ∧ cmpVr b a = 0 ∧ lessVr a b = false ∧ lessVr b a = false ∧ a = b) := by
  unfold cmpVr
  cases h : lessVr a b <;> cases h' : lessVr b a
  · refine .inr (.inr ⟨rfl, rfl, rfl, rfl, ?_⟩)
    have e1 : ¬ (a.rep < b.rep ∨ a.rep = b.rep ∧ a.cnt < b.cnt) := fun e => by rw [lessVr_iff.2 e] at h; cases h
    have e2 : ¬ (b.rep < a.rep ∨ b.rep = a.rep ∧ b.cnt < a.cnt) := fun e => by rw [lessVr_iff.2 e] at h'; cases h'
    exact vr_ext (by omega) (by omega)
  · exact .inr (.inl ⟨rfl, rfl, rfl, rfl⟩)
  · exact .inl ⟨rfl, rfl, rfl, rfl⟩
  · have e1 := lessVr_iff.1 h
    have e2 := lessVr_iff.1 h'
    omega
theorem lessVr_trans {a b c : Vr} (h : lessVr a b = true) (h' : lessVr b c = true) : lessVr a c = true := by
  rw [lessVr_iff] at *; omega
theorem lessVr_irrefl (a : Vr) : lessVr a a = false := by
  cases h : lessVr a a with
  | false => rfl
  | true => rw [lessVr_iff] at h; omega
theorem cmpVr_zero {a b : Vr} : cmpVr a b = 0 ↔ a = b := by
  constructor
  · intro h
    rcases cmpVr_three a b with h1 | h1 | h1
    · rw [h1.1] at h; cases h
    · rw [h1.1] at h; cases h
    · exact h1.2.2.2.2
  · rintro rfl
    unfold cmpVr; rw [lessVr_irrefl]

/-! Numbers as digits. -/
def digC (n : Nat) : UInt8 := UInt8.ofNat (48 + n)
def digF : Nat → Nat → List UInt8
  | 0, n => [digC (n % 10)]
  | f + 1, n => match decide (n < 10) with | true => [digC n] | false => digF f (n / 10) ++ [digC (n % 10)]
def digN (n : Nat) : List UInt8 := digF 20 n
theorem digF_small {f n : Nat} (h : n < 10) : digF f n = [digC n] := by
  cases f with
  | zero => rw [digF, Nat.mod_eq_of_lt h]
  | succ f => rw [digF, decide_eq_true h]
theorem digF_big {f n : Nat} (h : 10 ≤ n) : digF (f + 1) n = digF f (n / 10) ++ [digC (n % 10)] := by rw [digF, decide_eq_false (by omega)]
def digVal : List UInt8 → Nat → Nat
  | [], a => a
  | c :: l, a => digVal l (10 * a + (c.toNat - 48))
theorem digVal_append : ∀ (a b : List UInt8) (x : Nat), digVal (a ++ b) x = digVal b (digVal a x)
  | [], _, _ => rfl
  | c :: a, b, x => by rw [List.cons_append, digVal, digVal, digVal_append a b]
theorem digC_val : ∀ n, n < 10 → (digC n).toNat - 48 = n ∧ 48 ≤ (digC n).toNat ∧ (digC n).toNat ≤ 57 := by decide +kernel
theorem digF_val : ∀ (f n : Nat), n < 10 ^ (f + 1) → digVal (digF f n) 0 = n
  | 0, n, h => by
    rw [digF_small (by simpa using h)]
    show 10 * 0 + ((digC n).toNat - 48) = n
    rw [(digC_val n (by simpa using h)).1]; omega
  | f + 1, n, h => by
    by_cases hn : n < 10
    · rw [digF_small hn]
      show 10 * 0 + ((digC n).toNat - 48) = n
      rw [(digC_val n hn).1]; omega
    · rw [digF_big (by omega), digVal_append, digF_val f (n / 10) (by rw [Nat.pow_succ] at h; omega)]
      show 10 * (n / 10) + ((digC (n % 10)).toNat - 48) = n
      rw [(digC_val (n % 10) (by omega)).1]; omega
theorem digF_digits : ∀ (f n : Nat), ∀ c ∈ digF f n, 48 ≤ c.toNat ∧ c.toNat ≤ 57
  | 0, n, c, hc => by
    rw [digF, List.mem_singleton] at hc
    subst hc
    exact (digC_val (n % 10) (by omega)).2
  | f + 1, n, c, hc => by
    by_cases hn : n < 10
    · rw [digF_small hn, List.mem_singleton] at hc
      subst hc
      exact (digC_val n hn).2
    · rw [digF_big (by omega)] at hc
      rcases List.mem_append.1 hc with hc | hc
      · exact digF_digits f _ c hc
      · rw [List.mem_singleton] at hc
        subst hc
        exact (digC_val (n % 10) (by omega)).2
theorem digF_len : ∀ (f n : Nat), (digF f n).length ≤ f + 1
  | 0, n => by simp [digF]
  | f + 1, n => by
    by_cases hn : n < 10
    · rw [digF_small hn]; simp
    · rw [digF_big (by omega), List.length_append, List.length_singleton]
      have := digF_len f (n / 10)
      omega
theorem digF_ne (f n : Nat) : digF f n ≠ [] := by
  cases f with
  | zero => simp [digF]
  | succ f =>
    by_cases hn : n < 10
    · rw [digF_small hn]; simp
    · rw [digF_big (by omega)]; simp
theorem digN_inj {m n : Nat} (hm : m ≤ 1099511627776) (hn : n ≤ 1099511627776) (h : digN m = digN n) : m = n := by
  have h1 := digF_val 20 m (by omega)
  have h2 := digF_val 20 n (by omega)
  unfold digN at h
  rw [h] at h1
  omega
/-- How the digits come, the last one first. -/
def DigSt (n : Nat) (s : List UInt8) (r : Nat) : Prop := ∃ f, r < 10 ^ (f + 1) ∧ ((s = [] ∧ digN n = digF f r) ∨ (s ≠ [] ∧ digN n = (match decide (r = 0) with | true => [] | false => digF f r) ++ s))
theorem DigSt.start {n : Nat} (h : n ≤ 1099511627776) : DigSt n [] n := ⟨20, by omega, .inl ⟨rfl, rfl⟩⟩
theorem DigSt.step {n r : Nat} {s : List UInt8} (h : DigSt n s r) (hc : s = [] ∨ 0 < r) : DigSt n (digC (r % 10) :: s) (r / 10) := by
  obtain ⟨f, hf, h⟩ := h
  have e : digN n = digF f r ++ s := by
    rcases h with ⟨h1, h2⟩ | ⟨h1, h2⟩
    · rw [h2, h1, List.append_nil]
    · rw [h2, decide_eq_false (by rcases hc with hc | hc; exact absurd hc h1; omega)]
  by_cases hr : r < 10
  · refine ⟨0, by omega, .inr ⟨by simp, ?_⟩⟩
    rw [decide_eq_true (show r / 10 = 0 by omega), e, digF_small hr, Nat.mod_eq_of_lt hr]; rfl
  · cases f with
    | zero => simp at hf; omega
    | succ f =>
      refine ⟨f, by rw [Nat.pow_succ] at hf; omega, .inr ⟨by simp, ?_⟩⟩
      rw [decide_eq_false (show ¬ r / 10 = 0 by omega), e, digF_big (by omega), List.append_assoc]; rfl
theorem DigSt.done {n : Nat} {s : List UInt8} (h : DigSt n s 0) (hs : s ≠ []) : s = digN n := by
  obtain ⟨f, _, h⟩ := h
  rcases h with ⟨h1, _⟩ | ⟨_, h2⟩
  · exact absurd h1 hs
  · exact h2.symm

/-! A version's text. -/
def textVr (v : Vr) : List UInt8 := digN v.rep.toNat ++ 46 :: digN v.cnt.toNat
theorem dot_cut : ∀ {a b r r' : List UInt8}, (∀ c ∈ a, 48 ≤ c.toNat ∧ c.toNat ≤ 57) → (∀ c ∈ b, 48 ≤ c.toNat ∧ c.toNat ≤ 57) → a ++ 46 :: r = b ++ 46 :: r' → a = b ∧ r = r'
  | [], [], r, r', _, _, h => by injection h with _ h; exact ⟨rfl, h⟩
  | [], c :: b, r, r', _, hb, h => by
    injection h with h _
    have := hb c (List.mem_cons_self ..)
    rw [← h] at this
    exact absurd this.1 (by decide)
  | c :: a, [], r, r', ha, _, h => by
    injection h with h _
    have := ha c (List.mem_cons_self ..)
    rw [h] at this
    exact absurd this.1 (by decide)
  | c :: a, d :: b, r, r', ha, hb, h => by
    rw [List.cons_append, List.cons_append] at h
    injection h with h1 h2
    obtain ⟨h3, h4⟩ := dot_cut (fun x hx => ha x (List.mem_cons_of_mem _ hx)) (fun x hx => hb x (List.mem_cons_of_mem _ hx)) h2
    exact ⟨by rw [h1, h3], h4⟩
theorem textVr_inj {a b : Vr} (ha : rightVr a = true) (hb : rightVr b = true) (h : textVr a = textVr b) : a = b := by
  rw [rightVr_iff] at ha hb
  unfold textVr at h
  obtain ⟨h1, h2⟩ := dot_cut (digF_digits 20 _) (digF_digits 20 _) h
  have h3 := digN_inj (by omega) (by omega) h1
  have h4 := digN_inj (by omega) (by omega) h2
  exact vr_ext (by omega) (by omega)
theorem textVr_len (v : Vr) : (textVr v).length ≤ 43 := by
  have h1 := digF_len 20 v.rep.toNat
  have h2 := digF_len 20 v.cnt.toNat
  unfold textVr digN
  rw [List.length_append, List.length_cons]
  omega
/-- The version of a text, if there is one. -/
noncomputable def readVr (s : List UInt8) : Option Vr := by
  classical exact if h : ∃ v, rightVr v = true ∧ textVr v = s then some h.choose else none
theorem readVr_back {s : List UInt8} {v : Vr} (h : readVr s = some v) : rightVr v = true ∧ textVr v = s := by
  unfold readVr at h
  split at h
  · rename_i hx
    injection h with h
    subst h
    exact hx.choose_spec
  · cases h
theorem readVr_some {s : List UInt8} {v : Vr} (h : rightVr v = true) (hs : textVr v = s) : readVr s = some v := by
  have hx : ∃ v, rightVr v = true ∧ textVr v = s := ⟨v, h, hs⟩
  unfold readVr
  rw [dif_pos hx]
  obtain ⟨h1, h2⟩ := hx.choose_spec
  rw [textVr_inj h1 h (h2.trans hs.symm)]
theorem readVr_none {s : List UInt8} (h : readVr s = none) : ∀ v, rightVr v = true → textVr v ≠ s := fun v hv hs => by
  rw [readVr_some hv hs] at h; cases h

/-! Lists of versions. -/
def hasVr (l : List Vr) (v : Vr) : Bool := l.any fun x => decide (x.rep = v.rep) && decide (x.cnt = v.cnt)
theorem hasVr_iff {l : List Vr} {v : Vr} : hasVr l v = true ↔ v ∈ l := by
  unfold hasVr
  rw [List.any_eq_true]
  constructor
  · rintro ⟨x, hx, h⟩
    simp only [Bool.and_eq_true, decide_eq_true_eq] at h
    rw [← vr_ext h.1 h.2]; exact hx
  · intro h
    exact ⟨v, h, by simp⟩
/-- In order, each once. -/
def RiseVr (l : List Vr) : Prop := l.Pairwise fun a b => lessVr a b = true
/-- The right ones of some versions, in order, each once. -/
structure SortVr (l r : List Vr) : Prop where
  rise : RiseVr r
  mem : ∀ v, v ∈ r ↔ v ∈ l ∧ rightVr v = true
theorem SortVr.one {v : Vr} {r : List Vr} (h : SortVr [v, v] r) (hv : rightVr v = true) : r = [v] := by
  have h1 : ∀ x ∈ r, x = v := fun x hx => by have := ((h.mem x).1 hx).1; simpa using this
  match r, h with
  | [], h => have := (h.mem v).2 ⟨by simp, hv⟩; cases this
  | [x], h => rw [h1 x (List.mem_singleton.2 rfl)]
  | x :: y :: r, h =>
    have h2 := (List.pairwise_cons.1 h.rise).1 y (List.mem_cons_self ..)
    rw [h1 x (List.mem_cons_self ..), h1 y (by simp), lessVr_irrefl] at h2
    cases h2
theorem SortVr.next {l r : List Vr} (h : SortVr l r) {k : Nat} {a b : Vr} (ha : r[k]? = some a) (hb : r[k + 1]? = some b) : lessVr a b = true := by
  obtain ⟨h1, rfl⟩ := List.getElem?_eq_some_iff.1 ha
  obtain ⟨h2, rfl⟩ := List.getElem?_eq_some_iff.1 hb
  exact List.pairwise_iff_getElem.1 h.rise k (k + 1) h1 h2 (by omega)
theorem riseVr_nodup {l : List Vr} (h : RiseVr l) : l.Nodup := List.Pairwise.imp (fun {a b} h e => by subst e; rw [lessVr_irrefl] at h; cases h) h
/-- There is one such list. -/
theorem riseVr_unique : ∀ {a b : List Vr}, RiseVr a → RiseVr b → (∀ v, v ∈ a ↔ v ∈ b) → a = b
  | [], [], _, _, _ => rfl
  | [], y :: b, _, _, h => by have := (h y).2 (List.mem_cons_self ..); cases this
  | x :: a, [], _, _, h => by have := (h x).1 (List.mem_cons_self ..); cases this
  | x :: a, y :: b, ha, hb, h => by
    obtain ⟨ha1, ha2⟩ := List.pairwise_cons.1 ha
    obtain ⟨hb1, hb2⟩ := List.pairwise_cons.1 hb
    have e : x = y := by
      rcases List.mem_cons.1 ((h x).1 (List.mem_cons_self ..)) with e | e
      · exact e
      · rcases List.mem_cons.1 ((h y).2 (List.mem_cons_self ..)) with e' | e'
        · exact e'.symm
        · have h1 := hb1 x e
          have h2 := ha1 y e'
          have := lessVr_trans h1 h2
          rw [lessVr_irrefl] at this; cases this
    subst e
    rw [riseVr_unique ha2 hb2 fun v => ?_]
    constructor
    · intro hv
      rcases List.mem_cons.1 ((h v).1 (List.mem_cons_of_mem _ hv)) with e | e
      · subst e; have := ha1 v hv; rw [lessVr_irrefl] at this; cases this
      · exact e
    · intro hv
      rcases List.mem_cons.1 ((h v).2 (List.mem_cons_of_mem _ hv)) with e | e
      · subst e; have := hb1 v hv; rw [lessVr_irrefl] at this; cases this
      · exact e
end Go.Proofs.Ytfklochgciijkaa

/-
  Plain facts on sets of versions (layer 14): which are right, which versions they have, the one right set, what is made of two. No program in this text.
-/
namespace Go.Proofs.Ytfklochgciijkaa

structure Kn where
  rep : Int
  runs : List Rn
theorem kn_ext {a b : Kn} (h1 : a.rep = b.rep) (h2 : a.runs = b.runs) : a = b := by cases a; cases b; simp_all
/-- All runs of a replica. -/
def partV (k : Kn) (r : Int) : List Rn := match decide (k.rep = r) with
  | true => k.runs
  | false => []
theorem partV_yes {k : Kn} {r : Int} (h : k.rep = r) : partV k r = k.runs := by unfold partV; rw [decide_eq_true h]
theorem partV_no {k : Kn} {r : Int} (h : k.rep ≠ r) : partV k r = [] := by unfold partV; rw [decide_eq_false h]
def runsV : List Kn → Int → List Rn
  | [], _ => []
  | k :: s, r => partV k r ++ runsV s r
theorem runsV_append : ∀ (a b : List Kn) (r : Int), runsV (a ++ b) r = runsV a r ++ runsV b r
  | [], _, _ => rfl
  | k :: a, b, r => by rw [List.cons_append, runsV, runsV, runsV_append a b, List.append_assoc]
theorem runsV_none : ∀ {s : List Kn} {r : Int}, (∀ k ∈ s, k.rep ≠ r) → runsV s r = []
  | [], _, _ => rfl
  | k :: s, r, h => by rw [runsV, partV_no (h k (List.mem_cons_self ..)), runsV_none fun x hx => h x (List.mem_cons_of_mem _ hx)]; rfl
def hasK (s : List Kn) (r n : Int) : Bool := decide (1 ≤ r) && (decide (r ≤ 16) && hasC (runsV s r) n)
theorem hasK_in {s : List Kn} {r n : Int} (h1 : 1 ≤ r) (h2 : r ≤ 16) : hasK s r n = hasC (runsV s r) n := by unfold hasK; rw [decide_eq_true h1, decide_eq_true h2]; rfl
theorem hasK_out {s : List Kn} {r n : Int} (h : r < 1 ∨ 16 < r) : hasK s r n = false := by
  unfold hasK
  rcases h with h | h
  · rw [decide_eq_false (by omega : ¬ 1 ≤ r)]; rfl
  · rw [decide_eq_false (by omega : ¬ r ≤ 16), Bool.false_and, Bool.and_false]
def hasS (s : List Kn) (v : Vr) : Bool := rightVr v && hasC (runsV s v.rep) v.cnt
theorem hasS_hasK (s : List Kn) (v : Vr) : hasS s v = hasK s v.rep v.cnt := by
  unfold hasS
  cases h : rightVr v with
  | true =>
    have h1 := rightVr_iff.1 h
    rw [hasK_in h1.1 h1.2.1]; rfl
  | false =>
    by_cases h1 : 1 ≤ v.rep ∧ v.rep ≤ 16
    · rw [hasK_in h1.1 h1.2]
      cases h2 : hasC (runsV s v.rep) v.cnt with
      | false => rfl
      | true =>
        have h3 := hasC_range h2
        rw [rightVr_iff.2 ⟨h1.1, h1.2, h3.1, h3.2⟩] at h; cases h
    · rw [hasK_out (by omega)]; rfl
/-! Which sets are right. -/
def oneK (k : Kn) : Bool := (match k.runs with | [] => false | _ :: _ => true) && rightC k.runs
theorem oneK_iff {k : Kn} : oneK k = true ↔ k.runs ≠ [] ∧ rightC k.runs = true := by
  unfold oneK
  cases k.runs <;> simp
def upS : Int → List Kn → Bool
  | _, [] => true
  | c, k :: s => decide (c < k.rep) && (decide (k.rep ≤ 16) && (oneK k && upS k.rep s))
theorem upS_cons {c : Int} {k : Kn} {s : List Kn} : upS c (k :: s) = true ↔ c < k.rep ∧ k.rep ≤ 16 ∧ oneK k = true ∧ upS k.rep s = true := by
  rw [upS]; simp only [Bool.and_eq_true, decide_eq_true_eq]
def rightS (s : List Kn) : Bool := upS 0 s
theorem upS_all : ∀ {s : List Kn} {c : Int}, upS c s = true → ∀ k ∈ s, c < k.rep ∧ k.rep ≤ 16 ∧ oneK k = true
  | k :: s, c, h, x, hx => by
    obtain ⟨h1, h2, h3, h4⟩ := upS_cons.1 h
    rcases List.mem_cons.1 hx with rfl | hx
    · exact ⟨h1, h2, h3⟩
    · have := upS_all h4 x hx
      exact ⟨by omega, this.2⟩
theorem upS_snoc : ∀ {s : List Kn} {c : Int} {k : Kn}, upS c s = true → c < k.rep → (∀ x ∈ s, x.rep < k.rep) → k.rep ≤ 16 → oneK k = true → upS c (s ++ [k]) = true
  | [], _, _, _, h1, _, h3, h4 => upS_cons.2 ⟨h1, h3, h4, rfl⟩
  | x :: s, c, k, h, h1, h2, h3, h4 => by
    obtain ⟨a1, a2, a3, a4⟩ := upS_cons.1 h
    exact upS_cons.2 ⟨a1, a2, a3, upS_snoc a4 (h2 x (List.mem_cons_self ..)) (fun y hy => h2 y (List.mem_cons_of_mem _ hy)) h3 h4⟩
/-- The runs of a replica, in a right set: of one Known, or none. -/
theorem upS_runs : ∀ {s : List Kn} {c r : Int}, upS c s = true → rightC (runsV s r) = true
  | [], _, _, _ => rfl
  | k :: s, c, r, h => by
    obtain ⟨h1, h2, h3, h4⟩ := upS_cons.1 h
    rw [runsV]
    by_cases e : k.rep = r
    · rw [partV_yes e, runsV_none (fun x hx => by have := (upS_all h4 x hx).1; omega), List.append_nil]
      exact (oneK_iff.1 h3).2
    · rw [partV_no e]
      exact upS_runs h4
theorem upS_same : ∀ {a b : List Kn} {c d : Int}, upS c a = true → upS d b = true → (∀ r, runsV a r = runsV b r) → a = b
  | [], [], _, _, _, _, _ => rfl
  | [], k :: b, _, _, _, hb, h => by
    obtain ⟨-, -, h3, -⟩ := upS_cons.1 hb
    have h1 := h k.rep
    rw [runsV, runsV, partV_yes rfl] at h1
    exact absurd (List.append_eq_nil_iff.1 h1.symm).1 (oneK_iff.1 h3).1
  | k :: a, [], _, _, ha, _, h => by
    obtain ⟨-, -, h3, -⟩ := upS_cons.1 ha
    have h1 := h k.rep
    rw [runsV, runsV, partV_yes rfl] at h1
    exact absurd (List.append_eq_nil_iff.1 h1).1 (oneK_iff.1 h3).1
  | k :: a, x :: b, c, d, ha, hb, h => by
    obtain ⟨-, -, h3, h4⟩ := upS_cons.1 ha
    obtain ⟨-, -, g3, g4⟩ := upS_cons.1 hb
    have ua : ∀ r, r ≤ k.rep → runsV a r = [] := fun r hr => runsV_none fun y hy => by have := (upS_all h4 y hy).1; omega
    have ub : ∀ r, r ≤ x.rep → runsV b r = [] := fun r hr => runsV_none fun y hy => by have := (upS_all g4 y hy).1; omega
    have e : k.rep = x.rep := by
      rcases Int.lt_trichotomy k.rep x.rep with e | e | e
      · have h1 := h k.rep
        rw [runsV, runsV, partV_yes rfl, partV_no (by omega), ub _ (by omega)] at h1
        exact absurd (List.append_eq_nil_iff.1 h1).1 (oneK_iff.1 h3).1
      · exact e
      · have h1 := h x.rep
        rw [runsV, runsV, partV_yes (k := x) rfl, partV_no (by omega), ua _ (by omega)] at h1
        exact absurd (List.append_eq_nil_iff.1 h1.symm).1 (oneK_iff.1 g3).1
    have e2 : k.runs = x.runs := by
      have h1 := h k.rep
      rwa [runsV, runsV, partV_yes rfl, partV_yes e.symm, ua _ (by omega), ub _ (by omega), List.append_nil, List.append_nil] at h1
    rw [kn_ext e e2, upS_same h4 g4 fun r => by
      by_cases hr : r ≤ k.rep
      · rw [ua r hr, ub r (by omega)]
      · have h1 := h r
        rwa [runsV, runsV, partV_no (by omega), partV_no (by omega)] at h1]
/-- P14.4: one right set for each set of versions. -/
theorem rightS_unique {a b : List Kn} (ha : rightS a = true) (hb : rightS b = true) (h : ∀ r n, hasK a r n = hasK b r n) : a = b :=
  upS_same ha hb fun r => by
    by_cases hr : 1 ≤ r ∧ r ≤ 16
    · exact rightC_unique (upS_runs ha) (upS_runs hb) fun n => by have := h r n; rwa [hasK_in hr.1 hr.2, hasK_in hr.1 hr.2] at this
    · rw [runsV_none fun k hk => by have := upS_all ha k hk; omega, runsV_none fun k hk => by have := upS_all hb k hk; omega]
/-! What is made, replica by replica. -/
def putK (n : Int) (l : List Rn) : List Kn := match l with
  | [] => []
  | _ :: _ => [⟨n, l⟩]
theorem putK_nil (n : Int) : putK n [] = [] := rfl
theorem putK_some {n : Int} {l : List Rn} (h : l ≠ []) : putK n l = [⟨n, l⟩] := by
  unfold putK
  cases l
  · exact absurd rfl h
  · rfl
def colS (f : Int → List Rn) : Nat → List Kn
  | 0 => []
  | k + 1 => colS f k ++ putK ((k : Int) + 1) (f ((k : Int) + 1))
theorem colS_succ (f : Int → List Rn) (k : Nat) : colS f (k + 1) = colS f k ++ putK ((k : Int) + 1) (f ((k : Int) + 1)) := rfl
theorem colS_reps (f : Int → List Rn) : ∀ (k : Nat), ∀ x ∈ colS f k, 1 ≤ x.rep ∧ x.rep ≤ k
  | 0, x, hx => by cases hx
  | k + 1, x, hx => by
    rw [colS_succ] at hx
    rcases List.mem_append.1 hx with hx | hx
    · have := colS_reps f k x hx; omega
    · by_cases h : f ((k : Int) + 1) = []
      · rw [h] at hx; cases hx
      · rw [putK_some h] at hx
        rcases List.mem_singleton.1 hx with rfl
        exact ⟨by show (1 : Int) ≤ (k : Int) + 1; omega, by show (k : Int) + 1 ≤ ((k + 1 : Nat) : Int); omega⟩
theorem colS_up {f : Int → List Rn} (hf : ∀ r, rightC (f r) = true) : ∀ {k : Nat}, k ≤ 16 → rightS (colS f k) = true
  | 0, _ => rfl
  | k + 1, hk => by
    rw [colS_succ]
    by_cases h : f ((k : Int) + 1) = []
    · rw [h, putK_nil, List.append_nil]
      exact colS_up hf (by omega)
    · rw [putK_some h]
      exact upS_snoc (colS_up hf (by omega)) (by show (0 : Int) < (k : Int) + 1; omega) (fun x hx => by have := colS_reps f k x hx; show x.rep < (k : Int) + 1; omega) (by show (k : Int) + 1 ≤ 16; omega) (oneK_iff.2 ⟨h, hf _⟩)
theorem putK_runs (n : Int) (l : List Rn) (r : Int) : runsV (putK n l) r = match decide (n = r) with | true => l | false => [] := by
  by_cases h : l = []
  · subst h
    cases decide (n = r) <;> rfl
  · rw [putK_some h, runsV, runsV, List.append_nil]
    rfl
theorem colS_runs (f : Int → List Rn) : ∀ (k : Nat) (r : Int), runsV (colS f k) r = match decide (1 ≤ r) && decide (r ≤ k) with | true => f r | false => []
  | 0, r => by
    have : (decide (1 ≤ r) && decide (r ≤ ((0 : Nat) : Int))) = false := by
      by_cases h : 1 ≤ r
      · rw [decide_eq_false (by omega : ¬ r ≤ ((0 : Nat) : Int)), Bool.and_false]
      · rw [decide_eq_false h]; rfl
    rw [this]; rfl
  | k + 1, r => by
    rw [colS_succ, runsV_append, colS_runs f k, putK_runs]
    by_cases h : (k : Int) + 1 = r
    · rw [decide_eq_true h, decide_eq_false (by omega : ¬ r ≤ (k : Int)), Bool.and_false, decide_eq_true (by omega : 1 ≤ r), decide_eq_true (by omega : r ≤ ((k + 1 : Nat) : Int))]
      show [] ++ f ((k : Int) + 1) = f r
      rw [h]; rfl
    · rw [decide_eq_false h, List.append_nil, show decide (r ≤ ((k + 1 : Nat) : Int)) = decide (r ≤ (k : Int)) from by
        rw [Bool.eq_iff_iff]; simp only [decide_eq_true_eq]; omega]
def makeS (op : Int) (a b : List Kn) : List Kn := colS (fun r => makeC op (runsV a r) (runsV b r)) 16
def ofS (s : List Kn) : List Kn := makeS 1 s []
theorem makeS_right (op : Int) (a b : List Kn) : rightS (makeS op a b) = true := colS_up (fun _ => makeC_right _ _ _) (Nat.le_refl _)
theorem makeS_runs {op : Int} {a b : List Kn} {r : Int} (h1 : 1 ≤ r) (h2 : r ≤ 16) : runsV (makeS op a b) r = makeC op (runsV a r) (runsV b r) := by
  unfold makeS
  rw [colS_runs, decide_eq_true h1, decide_eq_true (show r ≤ ((16 : Nat) : Int) from h2)]; rfl
theorem makeS_has (op : Int) (a b : List Kn) (r n : Int) : hasK (makeS op a b) r n = gC op (hasK a r n) (hasK b r n) := by
  by_cases hr : 1 ≤ r ∧ r ≤ 16
  · rw [hasK_in hr.1 hr.2, hasK_in hr.1 hr.2, hasK_in hr.1 hr.2, makeS_runs hr.1 hr.2, makeC_has]
  · rw [hasK_out (by omega), hasK_out (by omega), hasK_out (by omega), gC_no]
theorem makeS_unique {op : Int} {a b u : List Kn} (h : rightS u = true) (hs : ∀ r n, hasK u r n = gC op (hasK a r n) (hasK b r n)) : u = makeS op a b :=
  rightS_unique h (makeS_right op a b) fun r n => by rw [hs, makeS_has]
theorem ofS_right (s : List Kn) : rightS (ofS s) = true := makeS_right 1 s []
theorem hasK_nil (r n : Int) : hasK [] r n = false := by unfold hasK; rw [runsV, hasC_nil, Bool.and_false, Bool.and_false]
theorem ofS_has (s : List Kn) (r n : Int) : hasK (ofS s) r n = hasK s r n := by unfold ofS; rw [makeS_has, gC1, hasK_nil, Bool.or_false]
theorem ofS_unique {s u : List Kn} (h : rightS u = true) (hs : ∀ r n, hasK u r n = hasK s r n) : u = ofS s := rightS_unique h (ofS_right s) fun r n => by rw [hs, ofS_has]
theorem ofS_runs {s : List Kn} {r : Int} (h1 : 1 ≤ r) (h2 : r ≤ 16) : runsV (ofS s) r = ofC (runsV s r) := makeS_runs h1 h2
theorem ofS_iff {a b : List Kn} : ofS a = ofS b ↔ ∀ r n, hasK a r n = hasK b r n :=
  ⟨fun h r n => by rw [← ofS_has a, ← ofS_has b, h], fun h => ofS_unique (ofS_right a) fun r n => by rw [ofS_has, h]⟩
theorem makeS_less {a b : List Kn} : makeS 3 a b = [] ↔ ∀ r n, hasK a r n = true → hasK b r n = true :=
  ⟨fun h r n h1 => by
    have h2 := makeS_has 3 a b r n
    rw [h, hasK_nil, gC3, h1] at h2
    cases h3 : hasK b r n
    · rw [h3] at h2; cases h2
    · rfl,
  fun h => (makeS_unique (u := []) rfl fun r n => by
    rw [hasK_nil, gC3]
    cases h1 : hasK a r n
    · rfl
    · rw [h r n h1]; rfl).symm⟩
theorem same_within {a b : List Kn} : ofS a = ofS b ↔ makeS 3 a b = [] ∧ makeS 3 b a = [] := by
  rw [ofS_iff, makeS_less, makeS_less]
  constructor
  · exact fun h => ⟨fun r n h1 => by rw [← h]; exact h1, fun r n h1 => by rw [h]; exact h1⟩
  · intro h r n
    cases h1 : hasK a r n
    · cases h2 : hasK b r n
      · rfl
      · rw [h.2 r n h2] at h1; cases h1
    · exact (h.1 r n h1).symm
theorem makeS_back1 (a b : List Kn) : makeS 1 b a = makeS 1 a b := (makeS_unique (makeS_right 1 a b) fun r n => by rw [makeS_has, gC1, gC1, Bool.or_comm]).symm
theorem makeS_parts (a b : List Kn) : makeS 1 (makeS 3 a b) (makeS 2 a b) = ofS a := (makeS_unique (ofS_right a) fun r n => by
  rw [makeS_has, makeS_has, gC1, gC2, gC3, ofS_has]
  cases hasK a r n <;> cases hasK b r n <;> rfl).symm
theorem makeS_joined (a b : List Kn) : makeS 1 (makeS 3 a b) b = makeS 1 a b := (makeS_unique (makeS_right 1 a b) fun r n => by
  rw [makeS_has, makeS_has, gC1, gC1, gC3]
  cases hasK a r n <;> cases hasK b r n <;> rfl).symm
theorem makeS_apart (a b : List Kn) : makeS 2 (makeS 3 a b) b = [] := (makeS_unique (u := []) rfl fun r n => by
  rw [hasK_nil, makeS_has, gC2, gC3]
  cases hasK a r n <;> cases hasK b r n <;> rfl).symm
theorem makeS_in (a b : List Kn) : makeS 3 (makeS 2 a b) a = [] := makeS_less.2 fun r n h => by
  rw [makeS_has, gC2, Bool.and_eq_true] at h
  exact h.1
theorem makeS_on (a b : List Kn) : makeS 3 a (makeS 1 a b) = [] := makeS_less.2 fun r n h => by rw [makeS_has, gC1, h]; rfl
theorem colS_len (f : Int → List Rn) : ∀ k : Nat, (colS f k).length ≤ k
  | 0 => Nat.le_refl _
  | k + 1 => by
    have h1 := colS_len f k
    have h2 : (putK ((k : Int) + 1) (f ((k : Int) + 1))).length ≤ 1 := by
      by_cases h : f ((k : Int) + 1) = []
      · rw [h]; exact Nat.zero_le _
      · rw [putK_some h]; exact Nat.le_refl _
    rw [colS_succ, List.length_append]
    omega
/-! Some versions more. -/
def oneS (v : Vr) : List Kn := [⟨v.rep, [⟨v.cnt, v.cnt⟩]⟩]
def addS (s : List Kn) (v : Vr) : List Kn := match rightVr v with
  | true => makeS 1 s (oneS v)
  | false => s
theorem addS_right {s : List Kn} {v : Vr} (h : rightS s = true) : rightS (addS s v) = true := by
  unfold addS
  cases rightVr v
  · exact h
  · exact makeS_right _ _ _
def addsS (s : List Kn) (l : List Vr) : List Kn := l.foldl addS (ofS s)
/-! Up to where all is known. -/
theorem baseC_least {l : List Rn} {b : Int} (h : ∀ n, 1 ≤ n → n ≤ b → hasC l n = true) : b ≤ baseC l := by
  have h1 := base_ok l
  rcases Int.lt_or_le (baseC l) b with h2 | h2
  · have h3 := h (baseC l + 1) (by omega) (by omega)
    rw [h1.2.1] at h3; cases h3
  · exact h2
theorem baseC_join (a b : List Rn) : baseC a ≤ baseC (makeC 1 a b) ∧ baseC b ≤ baseC (makeC 1 a b) :=
  ⟨baseC_least fun n h1 h2 => by rw [makeC_has, gC1, (base_ok a).1 n h1 h2]; rfl, baseC_least fun n h1 h2 => by rw [makeC_has, gC1, (base_ok b).1 n h1 h2, Bool.or_true]⟩
theorem baseC_meet (a b : List Rn) : baseC (makeC 2 a b) = min (baseC a) (baseC b) := by
  have h1 : min (baseC a) (baseC b) ≤ baseC (makeC 2 a b) := baseC_least fun n h1 h2 => by
    rw [makeC_has, gC2, (base_ok a).1 n h1 (by omega), (base_ok b).1 n h1 (by omega)]; rfl
  have h2 : baseC (makeC 2 a b) ≤ baseC a := baseC_least fun n h1 h2 => by
    have h3 := (base_ok (makeC 2 a b)).1 n h1 h2
    rw [makeC_has, gC2, Bool.and_eq_true] at h3
    exact h3.1
  have h3 : baseC (makeC 2 a b) ≤ baseC b := baseC_least fun n h1 h2 => by
    have h3 := (base_ok (makeC 2 a b)).1 n h1 h2
    rw [makeC_has, gC2, Bool.and_eq_true] at h3
    exact h3.2
  omega
end Go.Proofs.Ytfklochgciijkaa

/-
  Layer 14 (vset), the document's words: sets as values; all runs of a replica.
-/
namespace Go.Proofs.Ytfklochgciijkaa
open Go.RowKit

/-- A Known as it lies: the replica, and where its runs are. -/
structure Ks where
  rep : Int
  A : Option Addr
  n : Nat
  c : Nat
def ksCells (k : Ks) : List Value := [.int .i64 k.rep, .slice k.A k.n k.c]
noncomputable def kKs : Kind Try.prog Ks where
  ty := 22
  el := 52
  size := 2
  bytes := 32
  zero := .agg #[.int .i64 0, .slice none 0 0]
  cells := ksCells
  len := fun _ => rfl
  one := fun r u hu => by simp [ksCells] at hu; rcases hu with rfl | rfl <;> rfl
  pos := by decide
  under := Try.underlying22
  info := by kernel_rfl
  zsize := rfl
/-- A set that reads: each of its Known lies, and its runs read. -/
def RdK (w : World) (B : Nat) (A : Option Addr) (c : Nat) (s : List Kn) : Prop := ∃ ks : List Ks, kKs.Rd w B A c ks ∧ ks.length = s.length ∧ ∀ (i : Nat) (k : Ks) (x : Kn), ks[i]? = some k → s[i]? = some x → k.rep = x.rep ∧ k.n = x.runs.length ∧ kRn.Rd w B k.A k.c x.runs
theorem RdK.below {w w' : World} {B : Nat} {A : Option Addr} {c : Nat} {s : List Kn} (h : RdK w B A c s) (hb : Below B w w') : RdK w' B A c s := by
  obtain ⟨ks, h1, h2, h3⟩ := h
  exact ⟨ks, h1.below hb, h2, fun i k x hk hx => ⟨(h3 i k x hk hx).1, (h3 i k x hk hx).2.1, (h3 i k x hk hx).2.2.below hb⟩⟩
theorem RdK.call {w w' : World} {A : Option Addr} {c : Nat} {s : List Kn} (h : RdK w w.heap.size A c s) (hb : Below w.heap.size w w') : RdK w' w'.heap.size A c s := by
  obtain ⟨ks, h1, h2, h3⟩ := h
  exact ⟨ks, h1.call hb, h2, fun i k x hk hx => ⟨(h3 i k x hk hx).1, (h3 i k x hk hx).2.1, (h3 i k x hk hx).2.2.call hb⟩⟩
theorem RdK.room {w : World} {B : Nat} {A : Option Addr} {c : Nat} {s : List Kn} (h : RdK w B A c s) : s.length ≤ c := by
  obtain ⟨ks, h1, h2, -⟩ := h
  rw [← h2]; exact h1.room
theorem rdk_max {w : World} {B : Nat} {A : Option Addr} {c n : Nat} {s : List Kn} (h : RdK w B A c s) (hn : n = s.length) : n ≤ 9223372036854775807 := by
  obtain ⟨ks, h1, h2, -⟩ := h
  exact rd_maxC h1 (hn.trans h2.symm)
/-- Where its Known lie. -/
theorem knowns_at {w : World} {B : Nat} {A : Option Addr} {c : Nat} {s : List Kn} (h : RdK w B A c s) (hp : 0 < s.length) :
    ∃ b o, A = some ⟨b, o, none⟩ ∧ b < B ∧ ∀ k x, s[k]? = some x → ∃ (A' : Option Addr) (n' c' : Nat), n' = x.runs.length ∧ kRn.Rd w B A' c' x.runs ∧ w.cell? ⟨b, o + k * 2, none⟩ = some (.int .i64 x.rep) ∧ w.cell? ⟨b, o + k * 2 + 1, none⟩ = some (.slice A' n' c') := by
  obtain ⟨ks, h1, h2, h3⟩ := h
  obtain ⟨b, o, e1, e2, e3⟩ := h1.at_ (by omega)
  refine ⟨b, o, e1, e2, fun k x hx => ?_⟩
  obtain ⟨y, hy⟩ : ∃ y, ks[k]? = some y := ⟨_, List.getElem?_eq_getElem (by have := (List.getElem?_eq_some_iff.1 hx).1; omega)⟩
  obtain ⟨g1, g2, g3⟩ := h3 k y x hy hx
  refine ⟨y.A, y.n, y.c, g2, g3, ?_, ?_⟩
  · have := e3 k y hy 0 _ rfl
    rw [← g1]; exact this
  · exact e3 k y hy 1 _ rfl
/-- How many runs a set has. -/
def sizeV (m : Nat) (s : List Kn) : Prop := s.length ≤ m ∧ ∀ k ∈ s, k.runs.length ≤ m
theorem runsV_len {m : Nat} : ∀ {s : List Kn} (r : Int), (∀ k ∈ s, k.runs.length ≤ m) → (runsV s r).length ≤ m * s.length
  | [], _, _ => Nat.zero_le _
  | k :: s, r, h => by
    have h1 := runsV_len (s := s) r fun x hx => h x (List.mem_cons_of_mem _ hx)
    have h2 : (partV k r).length ≤ m := by
      by_cases e : k.rep = r
      · rw [partV_yes e]; exact h k (List.mem_cons_self ..)
      · rw [partV_no e]; exact Nat.zero_le _
    rw [runsV, List.length_append, List.length_cons, Nat.mul_succ]
    omega
theorem runsV_take {s : List Kn} {k : Nat} {x : Kn} (r : Int) (h : s[k]? = some x) : runsV (s.take (k + 1)) r = runsV (s.take k) r ++ partV x r := by
  rw [List.take_add_one, h, runsV_append]
  show _ ++ (partV x r ++ []) = _
  rw [List.append_nil]
end Go.Proofs.Ytfklochgciijkaa

/-
  Known that came in as a slice: each with its runs.
-/
namespace Go.Proofs.Ytfklochgciijkaa
open Go.ChangeShapes Go.WideShapes Go.ChangeAt Go.RowKit

theorem kcells_runs : Try.prog.cellsOf 50 = 1 := by kernel_rfl
/-- What a Known that lies and one that is meant have in common. -/
def KnIn (W : World) (x : Ks × Kn) : Prop := x.1.rep = x.2.rep ∧ x.1.n = x.2.runs.length ∧ kRn.Rd W W.heap.size x.1.A x.1.c x.2.runs
set_option maxRecDepth 100000 in
theorem kn_of {H : Type} {enc : TypeId × Value → H} {W : World} (n : Nat) (cs : List Value) (y : DataW H × List MemPlace) (hl : cs.length = 2)
    (hy : DataW.trod enc Try.prog W 0 (fun _ => true) true n 52 cs = some y) : ∃ x : Ks × Kn, cs = ksCells x.1 ∧ KnIn W x := by
  obtain ⟨xs, n', _, rfl, -, hlen, hf⟩ := DataW.trod_struct Try.underlying52 hy
  match xs, hlen with
  | [y0, y1], _ =>
    have h0 := hf 0 _ rfl
    have h1 := hf 1 _ rfl
    match cs, hl with
    | [a, b], _ =>
      have h0 : DataW.trod enc Try.prog W 0 (fun _ => true) true n' 3 (([a, b].drop 0).take (Try.prog.cellsOf 3)) = some y0 := by simpa using h0
      have h1 : DataW.trod enc Try.prog W 0 (fun _ => true) true n' 50 (([a, b].drop 1).take (Try.prog.cellsOf 50)) = some y1 := by simpa using h1
      rw [rcells_int] at h0
      rw [kcells_runs] at h1
      obtain ⟨i, e0, -, w0⟩ := DataW.trod_int Try.underlying3 h0
      obtain ⟨A, c, l, e1, g1, -, g2, g3⟩ := cells_slice rnCells (fun _ => True) Try.underlying50 (k := 2) (by kernel_rfl) (by omega) rn_of h1
      simp at e0 e1
      subst e0 e1
      exact ⟨(⟨i, A, l.length, c⟩, ⟨i, l⟩), rfl, rfl, rfl, g1, g2, g3⟩
set_option maxRecDepth 100000 in
theorem in_kns {H : Type} {enc : TypeId × Value → H} {W : World} {base : Nat} {v : Value} {d : DataW H} {p : List MemPlace}
    (hok : Value.okWide Try.prog W .any base 22 v) (h : DataW.Trod enc Try.prog W 0 (fun _ => true) true 22 v d p) :
    ∃ (A : Option Addr) (c : Nat) (l : List Kn), v = .slice A l.length c ∧ RdK W W.heap.size A c l := by
  obtain ⟨A, c, sl, rfl, h1, hg, h2, h3⟩ := in_slice (fun x : Ks × Kn => ksCells x.1) (KnIn W) Try.underlying22 (k := 2) (by kernel_rfl) (by omega) kn_of hok h
  refine ⟨A, c, sl.map (·.2), by rw [List.length_map], sl.map (·.1), ⟨?_, by rw [List.length_map]; exact h2, h3⟩, by rw [List.length_map, List.length_map], fun i s l hs hl => ?_⟩
  · show RowAt W W.heap.size A ((sl.map (·.1)).flatMap ksCells)
    rw [List.flatMap_map]
    exact h1
  · rw [List.getElem?_map] at hs hl
    cases hx : sl[i]? with
    | none => rw [hx] at hs; cases hs
    | some x =>
      rw [hx] at hs hl
      cases hs; cases hl
      exact hg x (List.mem_of_getElem? hx)
end Go.Proofs.Ytfklochgciijkaa

/-
  Plain facts on numbers as bytes and on a reader of them: no program is named here.
-/
namespace Go.Proofs.Ytfklochgciijkaa

/-- The bytes of a number: seven bits a byte, the lowest first. -/
def putV (n : Nat) : List UInt8 := if n < 128 then [UInt8.ofNat n] else UInt8.ofNat (n % 128 + 128) :: putV (n / 128)
termination_by n
decreasing_by omega
theorem putV_small {n : Nat} (h : n < 128) : putV n = [UInt8.ofNat n] := by rw [putV, if_pos h]
theorem putV_big {n : Nat} (h : ¬ n < 128) : putV n = UInt8.ofNat (n % 128 + 128) :: putV (n / 128) := by rw [putV, if_neg h]
theorem putV_len (k : Nat) : ∀ n, n < 128 ^ (k + 1) → (putV n).length ≤ k + 1 := by
  induction k with
  | zero => intro n h; rw [putV_small (by simpa using h)]; simp
  | succ k ih =>
    intro n h
    by_cases hn : n < 128
    · rw [putV_small hn]; simp
    · rw [putV_big hn, List.length_cons]
      have := ih (n / 128) (by rw [Nat.pow_succ] at h; omega)
      omega
theorem putV_len10 (n : Nat) (h : n ≤ 9223372036854775807) : (putV n).length ≤ 9 := by
  have e : 128 ^ (8 + 1) = 9223372036854775808 := by decide
  exact putV_len 8 n (by omega)
theorem putV_pos (n : Nat) : 0 < (putV n).length := by
  by_cases h : n < 128
  · rw [putV_small h]; simp
  · rw [putV_big h]; simp

/-- The bytes of numbers, one behind the other. -/
def putsV (l : List Int) : List UInt8 := l.flatMap fun n => putV n.toNat
theorem putsV_nil : putsV [] = [] := rfl
theorem putsV_cons (n : Int) (l : List Int) : putsV (n :: l) = putV n.toNat ++ putsV l := by simp [putsV]
theorem putsV_snoc (l : List Int) (n : Int) : putsV (l ++ [n]) = putsV l ++ putV n.toNat := by simp [putsV]
theorem putsV_len (l : List Int) (h : ∀ n ∈ l, n ≤ 9223372036854775807) : (putsV l).length ≤ 9 * l.length := by
  induction l with
  | nil => simp [putsV]
  | cons x r ih =>
    rw [putsV_cons, List.length_append, List.length_cons]
    have h1 := putV_len10 x.toNat (by have := h x (by simp); omega)
    have h2 := ih fun n hn => h n (by simp [hn])
    omega

/-- What bytes are as a number. -/
def valV : List UInt8 → Nat
  | [] => 0
  | c :: r => c.toNat % 128 + 128 * valV r

/-- The number that begins some bytes, how many it has, and what is wrong: from byte i on. -/
def cutGo : Nat → Nat → List UInt8 → Nat × Nat × Nat
  | i, _, [] => if 8 ≤ i then (0, 0, 11) else (0, 0, 10)
  | i, a, c :: r =>
    if 8 ≤ i then (0, 0, 11)
    else if 128 ≤ c.toNat then cutGo (i + 1) (a + c.toNat % 128 * 128 ^ i) r
    else if (0 < i ∧ c.toNat = 0) ∨ 281474976710656 < a + c.toNat % 128 * 128 ^ i then (0, 0, 11)
    else (a + c.toNat % 128 * 128 ^ i, i + 1, 0)
def cutV (l : List UInt8) : Nat × Nat × Nat := cutGo 0 0 l

theorem cutGo_put : ∀ (n : Nat) (i a : Nat) (r : List UInt8), a + n * 128 ^ i ≤ 281474976710656 → (0 < i → 0 < n) → cutGo i a (putV n ++ r) = (a + n * 128 ^ i, i + (putV n).length, 0) := by
  intro n
  induction n using Nat.strongRecOn with
  | _ n ih =>
    intro i a r hm hi
    have hi8 : ¬ 8 ≤ i := by
      intro h8
      have hn : 0 < n := hi (by omega)
      have h1 : 128 ^ 8 ≤ 128 ^ i := Nat.pow_le_pow_right (by decide) h8
      have h2 : 128 ^ i ≤ n * 128 ^ i := Nat.le_mul_of_pos_left _ hn
      have h3 : 128 ^ 8 = 72057594037927936 := by decide
      omega
    by_cases h : n < 128
    · rw [putV_small h]
      have e : (UInt8.ofNat n).toNat = n := by simp; omega
      simp only [List.cons_append, List.nil_append, cutGo, if_neg hi8, e, List.length_cons, List.length_nil]
      rw [if_neg (by omega), Nat.mod_eq_of_lt h, if_neg ?_]
      rintro (⟨h1, h2⟩ | h1)
      · have := hi h1; omega
      · omega
    · rw [putV_big h]
      have e : (UInt8.ofNat (n % 128 + 128)).toNat = n % 128 + 128 := by simp; omega
      simp only [List.cons_append, cutGo, if_neg hi8, e, List.length_cons]
      have hm128 : (n % 128 + 128) % 128 = n % 128 := by omega
      have key : n % 128 * 128 ^ i + n / 128 * 128 ^ (i + 1) = n * 128 ^ i := by
        rw [Nat.pow_succ, Nat.mul_comm (128 ^ i) 128, ← Nat.mul_assoc, ← Nat.add_mul]
        congr 1; omega
      rw [if_pos (by omega), hm128, ih (n / 128) (by omega) (i + 1) _ r (by omega) (fun _ => by omega)]
      refine Prod.ext ?_ (Prod.ext ?_ rfl)
      · show a + n % 128 * 128 ^ i + n / 128 * 128 ^ (i + 1) = a + n * 128 ^ i
        omega
      · show i + 1 + (putV (n / 128)).length = i + ((putV (n / 128)).length + 1)
        omega
theorem cutV_put (n : Nat) (r : List UInt8) (h : n ≤ 281474976710656) : cutV (putV n ++ r) = (n, (putV n).length, 0) := by
  unfold cutV
  rw [cutGo_put n 0 0 r (by simpa using h) (by omega)]
  simp

theorem cutGo_back : ∀ (l : List UInt8) (i a n k : Nat), cutGo i a l = (n, k, 0) → ∃ m, n = a + m * 128 ^ i ∧ k = i + (putV m).length ∧ l.take (putV m).length = putV m ∧ (0 < i → 0 < m) := by
  intro l
  induction l with
  | nil => intro i a n k h; rw [cutGo] at h; split at h <;> simp at h
  | cons c r ih =>
    intro i a n k h
    rw [cutGo] at h
    by_cases h8 : 8 ≤ i
    · rw [if_pos h8] at h; simp at h
    · rw [if_neg h8] at h
      by_cases hc : 128 ≤ c.toNat
      · rw [if_pos hc] at h
        obtain ⟨m, h1, h2, h3, h4⟩ := ih (i + 1) _ n k h
        have hm := h4 (by omega)
        have hc256 := c.toNat_lt
        have hb : ¬ (c.toNat % 128 + 128 * m) < 128 := by omega
        have e1 : (c.toNat % 128 + 128 * m) / 128 = m := by omega
        have e2 : (c.toNat % 128 + 128 * m) % 128 + 128 = c.toNat := by omega
        have e3 : putV (c.toNat % 128 + 128 * m) = c :: putV m := by
          rw [putV_big hb, e1, e2]; simp
        refine ⟨c.toNat % 128 + 128 * m, ?_, ?_, ?_, fun _ => by omega⟩
        · rw [h1, Nat.pow_succ, Nat.add_mul, Nat.mul_comm (128 ^ i) 128, ← Nat.mul_assoc, Nat.mul_comm m 128]; omega
        · rw [e3, List.length_cons]; omega
        · rw [e3, List.length_cons, List.take_succ_cons, h3]
      · rw [if_neg hc] at h
        split at h
        · simp at h
        · rename_i hno
          simp only [Prod.mk.injEq] at h
          obtain ⟨h1, h2, -⟩ := h
          have e3 : putV c.toNat = [c] := by rw [putV_small (by omega)]; simp
          refine ⟨c.toNat, ?_, ?_, ?_, fun hi => ?_⟩
          · rw [← h1, Nat.mod_eq_of_lt (by omega)]
          · rw [e3]; simpa using h2.symm
          · rw [e3]; rfl
          · rcases Nat.eq_zero_or_pos c.toNat with h0 | h0
            · exact absurd (.inl ⟨hi, h0⟩) hno
            · exact h0
theorem cutV_back {l : List UInt8} {n k : Nat} (h : cutV l = (n, k, 0)) : k = (putV n).length ∧ l.take k = putV n ∧ k ≤ l.length := by
  obtain ⟨m, h1, h2, h3, -⟩ := cutGo_back l 0 0 n k h
  have e : m = n := by simpa using h1.symm
  subst e
  have hk : k = (putV m).length := by simpa using h2
  refine ⟨hk, hk ▸ h3, ?_⟩
  have := congrArg List.length h3
  rw [List.length_take] at this
  omega
theorem cutGo_max : ∀ (l : List UInt8) (i a : Nat), (cutGo i a l).1 ≤ 281474976710656 := by
  intro l
  induction l with
  | nil => intro i a; rw [cutGo]; split <;> simp
  | cons c r ih =>
    intro i a
    rw [cutGo]
    split
    · simp
    · split
      · exact ih _ _
      · split
        · simp
        · rename_i h; simp only; omega
theorem cutV_max (l : List UInt8) : (cutV l).1 ≤ 281474976710656 := cutGo_max l 0 0
theorem cutGo_err : ∀ (l : List UInt8) (i a : Nat), (cutGo i a l).2.2 ≠ 0 → (cutGo i a l).1 = 0 ∧ (cutGo i a l).2.1 = 0 := by
  intro l
  induction l with
  | nil => intro i a; rw [cutGo]; split <;> simp
  | cons c r ih =>
    intro i a
    rw [cutGo]
    split
    · simp
    · split
      · exact ih _ _
      · split <;> simp
theorem cutV_err {l : List UInt8} (h : (cutV l).2.2 ≠ 0) : (cutV l).1 = 0 ∧ (cutV l).2.1 = 0 := cutGo_err l 0 0 h
theorem cutGo_size : ∀ (l : List UInt8) (i a : Nat), i ≤ 8 → (cutGo i a l).2.1 ≤ 8 := by
  intro l
  induction l with
  | nil => intro i a _; rw [cutGo]; split <;> simp
  | cons c r ih =>
    intro i a hi
    rw [cutGo]
    split
    · simp
    · split
      · exact ih _ _ (by omega)
      · split <;> simp <;> omega
theorem cutV_size (l : List UInt8) : (cutV l).2.1 ≤ 8 := cutGo_size l 0 0 (by omega)
theorem cutV_le (l : List UInt8) : (cutV l).2.1 ≤ l.length := by
  by_cases h : (cutV l).2.2 = 0
  · exact (cutV_back (l := l) (n := (cutV l).1) (k := (cutV l).2.1) (by rw [← h])).2.2
  · rw [(cutV_err h).2]; omega

/-- The first k bytes all have 128 or more. -/
def Lead (l : List UInt8) (k : Nat) : Prop := k ≤ l.length ∧ ∀ j, j < k → 128 ≤ (l.getD j 0).toNat
theorem Lead.zero (l : List UInt8) : Lead l 0 := ⟨Nat.zero_le _, fun j h => by omega⟩
theorem Lead.next {l : List UInt8} {k : Nat} (h : Lead l k) (hk : k < l.length) (hc : 128 ≤ (l.getD k 0).toNat) : Lead l (k + 1) :=
  ⟨hk, fun j hj => by
    rcases Nat.lt_or_ge j k with h' | h'
    · exact h.2 j h'
    · obtain rfl : j = k := by omega
      exact hc⟩
theorem valV_snoc : ∀ (l : List UInt8) (c : UInt8), valV (l ++ [c]) = valV l + c.toNat % 128 * 128 ^ l.length
  | [], c => by simp [valV]
  | x :: l, c => by
    rw [List.cons_append, valV, valV, valV_snoc l c, List.length_cons, Nat.pow_succ, Nat.mul_add, Nat.mul_comm (128 ^ l.length) 128, ← Nat.mul_assoc, ← Nat.mul_assoc, Nat.mul_comm 128 (c.toNat % 128)]
    omega
theorem valV_take (l : List UInt8) (k : Nat) (h : k < l.length) : valV (l.take (k + 1)) = valV (l.take k) + (l.getD k 0).toNat % 128 * 128 ^ k := by
  rw [take_snoc_getD l k h, valV_snoc, List.length_take, Nat.min_eq_left (by omega)]
theorem valV_drop (l : List UInt8) (k : Nat) (h : k < l.length) : valV (l.drop k) = (l.getD k 0).toNat % 128 + 128 * valV (l.drop (k + 1)) := by
  rw [drop_cons_getD8 l k h, valV]
theorem valV_lt : ∀ (l : List UInt8), valV l < 128 ^ l.length
  | [] => by simp [valV]
  | c :: r => by
    have := valV_lt r
    rw [valV, List.length_cons, Nat.pow_succ]; omega
theorem valV_take_lt (l : List UInt8) (k : Nat) (h : k ≤ 8) : valV (l.take k) < 72057594037927936 := by
  have h1 := valV_lt (l.take k)
  have h2 : 128 ^ (l.take k).length ≤ 128 ^ 8 := Nat.pow_le_pow_right (by decide) (by rw [List.length_take]; omega)
  have h3 : 128 ^ 8 = 72057594037927936 := by decide
  omega
theorem cutV_lead {l : List UInt8} : ∀ {k : Nat}, Lead l k → k ≤ 8 → cutV l = cutGo k (valV (l.take k)) (l.drop k)
  | 0, _, _ => by simp [cutV, valV]
  | k + 1, h, h8 => by
    have hk : k < l.length := h.1
    rw [cutV_lead (k := k) ⟨by omega, fun j hj => h.2 j (by omega)⟩ (by omega), drop_cons_getD8 l k hk, cutGo, if_neg (by omega), if_pos (h.2 k (by omega)), ← valV_take l k hk]
theorem cut_eight {l : List UInt8} (h : Lead l 8) : cutV l = (0, 0, 11) := by
  rw [cutV_lead h (by omega)]
  cases l.drop 8 with
  | nil => rfl
  | cons c r => rfl
theorem cut_short {l : List UInt8} (h : Lead l l.length) (h8 : l.length < 8) : cutV l = (0, 0, 10) := by
  rw [cutV_lead h (by omega), List.drop_length, cutGo, if_neg (by omega)]
theorem cut_bad {l : List UInt8} {k : Nat} (h : Lead l k) (hk : k < l.length) (h8 : k < 8) (hc : (l.getD k 0).toNat < 128)
    (hb : (0 < k ∧ (l.getD k 0).toNat = 0) ∨ 281474976710656 < valV (l.take (k + 1))) : cutV l = (0, 0, 11) := by
  rw [cutV_lead h (by omega), drop_cons_getD8 l k hk, cutGo, if_neg (by omega), if_neg (by omega), ← valV_take l k hk, if_pos hb]
theorem cut_good {l : List UInt8} {k : Nat} (h : Lead l k) (hk : k < l.length) (h8 : k < 8) (hc : (l.getD k 0).toNat < 128)
    (hb : ¬ ((0 < k ∧ (l.getD k 0).toNat = 0) ∨ 281474976710656 < valV (l.take (k + 1)))) : cutV l = (valV (l.take (k + 1)), k + 1, 0) := by
  rw [cutV_lead h (by omega), drop_cons_getD8 l k hk, cutGo, if_neg (by omega), if_neg (by omega), ← valV_take l k hk, if_neg hb]

/-- What a reader of the bytes l, with the error e, reads as a number: the number, what is left, the error. -/
def numR (l : List UInt8) (e : Int) : Nat × List UInt8 × Int :=
  if e = 0 then (if (cutV l).2.2 = 0 then ((cutV l).1, l.drop (cutV l).2.1, 0) else (0, l, ((cutV l).2.2 : Int))) else (0, l, e)
def withinR (lo hi : Int) (l : List UInt8) (e : Int) : Nat × List UInt8 × Int :=
  if ((numR l e).1 : Int) < lo ∨ hi < ((numR l e).1 : Int) then (0, l, if (numR l e).2.2 = 0 then 11 else (numR l e).2.2) else numR l e
def textR (most : Int) (l : List UInt8) (e : Int) : List UInt8 × List UInt8 × Int :=
  if (withinR 0 most l e).2.1.length < (withinR 0 most l e).1 then ([], l, if (withinR 0 most l e).2.2 = 0 then 10 else (withinR 0 most l e).2.2)
  else ((withinR 0 most l e).2.1.take (withinR 0 most l e).1, (withinR 0 most l e).2.1.drop (withinR 0 most l e).1, (withinR 0 most l e).2.2)
def endR (l : List UInt8) (e : Int) : Int := if e = 0 ∧ l ≠ [] then 14 else e

theorem numR_err {l : List UInt8} {e : Int} (h : e ≠ 0) : numR l e = (0, l, e) := by unfold numR; rw [if_neg h]
theorem numR_max (l : List UInt8) (e : Int) : (numR l e).1 ≤ 281474976710656 := by
  unfold numR
  split
  · split
    · exact cutV_max l
    · simp
  · simp
/-- Behind an error nothing is read, and all is left. -/
theorem numR_same (l : List UInt8) (e : Int) (h : (numR l e).2.2 ≠ 0) : (numR l e).1 = 0 ∧ (numR l e).2.1 = l := by
  unfold numR at h ⊢
  split
  · split
    · rename_i h1 h2; rw [if_pos h1, if_pos h2] at h; simp at h
    · simp
  · simp
theorem withinR_same (lo hi : Int) (l : List UInt8) (e : Int) (h : (withinR lo hi l e).2.2 ≠ 0) : (withinR lo hi l e).1 = 0 ∧ (withinR lo hi l e).2.1 = l := by
  unfold withinR at h ⊢
  split
  · simp
  · rename_i h1; rw [if_neg h1] at h; exact numR_same l e h
theorem withinR_err {lo hi : Int} {l : List UInt8} {e : Int} (h : e ≠ 0) : withinR lo hi l e = (0, l, e) := by
  unfold withinR
  rw [numR_err h]
  simp [h]
theorem textR_err {most : Int} {l : List UInt8} {e : Int} (h : e ≠ 0) : textR most l e = ([], l, e) := by
  unfold textR
  rw [withinR_err h]
  simp
theorem withinR_num (l : List UInt8) (e : Int) : withinR 0 281474976710656 l e = numR l e := by
  unfold withinR
  rw [if_neg]
  have := numR_max l e
  omega
theorem numR_suffix (l : List UInt8) (e : Int) : ∃ k, k ≤ l.length ∧ (numR l e).2.1 = l.drop k := by
  unfold numR
  split
  · split
    · exact ⟨_, cutV_le l, rfl⟩
    · exact ⟨0, by omega, rfl⟩
  · exact ⟨0, by omega, rfl⟩
theorem numR_len (l : List UInt8) (e : Int) : (numR l e).2.1.length ≤ l.length := by
  obtain ⟨k, _, h⟩ := numR_suffix l e
  rw [h, List.length_drop]; omega
theorem withinR_len (lo hi : Int) (l : List UInt8) (e : Int) : (withinR lo hi l e).2.1.length ≤ l.length := by
  unfold withinR
  split
  · simp
  · exact numR_len l e
theorem textR_len (most : Int) (l : List UInt8) (e : Int) : (textR most l e).2.1.length ≤ l.length := by
  unfold textR
  split
  · simp
  · have := withinR_len 0 most l e
    simp only [List.length_drop]; omega
theorem withinR_cut {lo hi : Int} {l : List UInt8} {n k x : Nat} (h : cutV l = (n, k, x)) :
    k ≤ l.length ∧ k ≤ 8 ∧ n ≤ 281474976710656 ∧ (x ≠ 0 → withinR lo hi l 0 = (0, l, (x : Int))) ∧ (x = 0 → ((n : Int) < lo ∨ hi < (n : Int)) → withinR lo hi l 0 = (0, l, 11)) ∧
      (x = 0 → ¬ ((n : Int) < lo ∨ hi < (n : Int)) → withinR lo hi l 0 = (n, l.drop k, 0)) := by
  have h1 := cutV_le l
  have h2 := cutV_size l
  have h3 := cutV_max l
  rw [h] at h1 h2 h3
  refine ⟨h1, h2, h3, fun hx => ?_, fun hx hr => ?_, fun hx hr => ?_⟩
  · have e : numR l 0 = (0, l, (x : Int)) := by unfold numR; rw [if_pos rfl, h, if_neg hx]
    have hx' : ¬ (x : Int) = 0 := by omega
    unfold withinR
    rw [e]
    show (if _ then (0, l, if (x : Int) = 0 then 11 else (x : Int)) else _) = _
    rw [if_neg hx', ite_self]
  · subst hx
    have e : numR l 0 = (n, l.drop k, 0) := by unfold numR; rw [if_pos rfl, h, if_pos rfl]
    unfold withinR
    rw [e, if_pos hr]
    rfl
  · subst hx
    have e : numR l 0 = (n, l.drop k, 0) := by unfold numR; rw [if_pos rfl, h, if_pos rfl]
    unfold withinR
    rw [e, if_neg hr]
theorem numR_put (n : Nat) (r : List UInt8) (h : n ≤ 281474976710656) : numR (putV n ++ r) 0 = (n, r, 0) := by
  unfold numR
  rw [if_pos rfl, cutV_put n r h]
  simp
theorem textR_put (s r : List UInt8) (h : s.length ≤ 281474976710656) : textR (s.length : Int) (putV s.length ++ (s ++ r)) 0 = (s, r, 0) := by
  have e : withinR 0 (s.length : Int) (putV s.length ++ (s ++ r)) 0 = (s.length, s ++ r, 0) := by
    unfold withinR
    rw [numR_put s.length _ h, if_neg (by simp)]
  unfold textR
  rw [e]
  simp
end Go.Proofs.Ytfklochgciijkaa
