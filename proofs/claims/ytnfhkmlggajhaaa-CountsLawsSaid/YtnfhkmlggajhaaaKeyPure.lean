/-
  Plain facts on keys (layer 6): texts in order, what stands behind, what texts begin with. No program in this text.
-/
import Derived.Lib.Bytealg
namespace Go.Proofs.Ytnfhkmlggajhaaa

/-- Does a text stand ahead of another one? -/
def ltB : List UInt8 → List UInt8 → Bool
  | _, [] => false
  | [], _ :: _ => true
  | x :: a, y :: b => if x = y then ltB a b else decide (x.toNat < y.toNat)

theorem ltB_nil (a : List UInt8) : ltB a [] = false := by cases a <;> rfl
theorem ltB_nil_cons (y : UInt8) (b : List UInt8) : ltB [] (y :: b) = true := rfl
theorem ltB_same (x : UInt8) (a b : List UInt8) : ltB (x :: a) (x :: b) = ltB a b := by simp [ltB]
theorem ltB_other {x y : UInt8} (h : x ≠ y) (a b : List UInt8) : ltB (x :: a) (y :: b) = decide (x.toNat < y.toNat) := by simp [ltB, h]
theorem u8_ne {x y : UInt8} (h : x ≠ y) : x.toNat ≠ y.toNat := fun e => h (UInt8.toNat_inj.1 e)
theorem ltB_irrefl : ∀ a : List UInt8, ltB a a = false
  | [] => rfl
  | x :: a => by rw [ltB_same]; exact ltB_irrefl a
theorem ltB_asymm : ∀ {a b : List UInt8}, ltB a b = true → ltB b a = false
  | a, [], h => by rw [ltB_nil] at h; cases h
  | [], y :: b, _ => rfl
  | x :: a, y :: b, h => by
    by_cases e : x = y
    · subst e; rw [ltB_same] at h ⊢; exact ltB_asymm h
    · rw [ltB_other e, decide_eq_true_eq] at h
      rw [ltB_other (Ne.symm e), decide_eq_false_iff_not]; omega
theorem ltB_total : ∀ {a b : List UInt8}, ltB a b = false → ltB b a = false → a = b
  | [], [], _, _ => rfl
  | [], y :: b, h, _ => by cases h
  | x :: a, [], _, h => by cases h
  | x :: a, y :: b, h, h' => by
    by_cases e : x = y
    · subst e; rw [ltB_same] at h h'; rw [ltB_total h h']
    · rw [ltB_other e, decide_eq_false_iff_not] at h
      rw [ltB_other (Ne.symm e), decide_eq_false_iff_not] at h'
      have := u8_ne e
      omega
theorem ltB_trans : ∀ {a b c : List UInt8}, ltB a b = true → ltB b c = true → ltB a c = true
  | a, [], c, h, _ => by rw [ltB_nil] at h; cases h
  | a, y :: b, [], _, h => by cases h
  | [], y :: b, z :: c, _, _ => rfl
  | x :: a, y :: b, z :: c, h, h' => by
    by_cases e : x = y
    · subst e
      rw [ltB_same] at h
      by_cases e' : x = z
      · subst e'; rw [ltB_same] at h' ⊢; exact ltB_trans h h'
      · rw [ltB_other e'] at h' ⊢; exact h'
    · rw [ltB_other e, decide_eq_true_eq] at h
      by_cases e' : y = z
      · subst e'; rw [ltB_other e, decide_eq_true_eq]; exact h
      · rw [ltB_other e', decide_eq_true_eq] at h'
        have e2 : x ≠ z := fun e2 => by subst e2; omega
        rw [ltB_other e2, decide_eq_true_eq]; omega
/-- What is not behind, and what is ahead: together ahead. -/
theorem ltB_of_le_of_lt {a b c : List UInt8} (h : ltB b a = false) (h' : ltB b c = true) : ltB a c = true := by
  cases hab : ltB a b with
  | true => exact ltB_trans hab h'
  | false => rw [ltB_total hab h]; exact h'
theorem ltB_of_lt_of_le {a b c : List UInt8} (h : ltB a b = true) (h' : ltB c b = false) : ltB a c = true := by
  cases hbc : ltB b c with
  | true => exact ltB_trans h hbc
  | false => rw [← ltB_total hbc h']; exact h
theorem leB_trans {a b c : List UInt8} (h : ltB b a = false) (h' : ltB c b = false) : ltB c a = false := by
  cases hc : ltB c a with
  | false => rfl
  | true => rw [ltB_of_lt_of_le hc h] at h'; cases h'
theorem ltB_append : ∀ (p a b : List UInt8), ltB (p ++ a) (p ++ b) = ltB a b
  | [], _, _ => rfl
  | x :: p, a, b => by rw [List.cons_append, List.cons_append, ltB_same]; exact ltB_append p a b
theorem ltB_prefix : ∀ (p a : List UInt8), ltB (p ++ a) p = false
  | [], a => ltB_nil a
  | x :: p, a => by rw [List.cons_append, ltB_same]; exact ltB_prefix p a

/-- Which of two stands ahead, in words of the order. -/
theorem cmp_ltB : ∀ (a b : List UInt8), Lib.compareBytes a b = if ltB a b = true then -1 else if ltB b a = true then 1 else 0
  | [], [] => rfl
  | [], _ :: _ => rfl
  | _ :: _, [] => rfl
  | x :: a, y :: b => by
    unfold Lib.compareBytes
    by_cases e : x = y
    · subst e
      rw [if_neg (UInt8.lt_irrefl x), if_neg (UInt8.lt_irrefl x), ltB_same, ltB_same]; exact cmp_ltB a b
    · rw [ltB_other e, ltB_other (Ne.symm e)]
      simp only [decide_eq_true_eq, UInt8.lt_iff_toNat_lt]
      have := u8_ne e
      by_cases h : x.toNat < y.toNat
      · rw [if_pos h, if_pos h]
      · rw [if_neg h, if_neg h, if_pos (by omega), if_pos (by omega)]
theorem cmp_lt {a b : List UInt8} (h : ltB a b = true) : Lib.compareBytes a b = -1 := by rw [cmp_ltB, if_pos h]
theorem cmp_gt {a b : List UInt8} (h : ltB b a = true) : Lib.compareBytes a b = 1 := by rw [cmp_ltB, if_neg (by rw [ltB_asymm h]; exact Bool.false_ne_true), if_pos h]
theorem cmp_self (a : List UInt8) : Lib.compareBytes a a = 0 := by rw [cmp_ltB, ltB_irrefl]; rfl
/-- Three ways two texts stand. -/
theorem ltB_three (a b : List UInt8) : (ltB a b = true ∧ ltB b a = false ∧ a ≠ b) ∨ (ltB a b = false ∧ ltB b a = true ∧ a ≠ b) ∨ (ltB a b = false ∧ ltB b a = false ∧ a = b) := by
  cases h : ltB a b with
  | true => exact .inl ⟨rfl, ltB_asymm h, fun e => by rw [e, ltB_irrefl] at h; cases h⟩
  | false => cases h' : ltB b a with
    | true => exact .inr (.inl ⟨rfl, rfl, fun e => by rw [e, ltB_irrefl] at h'; cases h'⟩)
    | false => exact .inr (.inr ⟨rfl, rfl, ltB_total h h'⟩)

/-- The walk of two texts from the left. -/
theorem ltB_step {a b : List UInt8} {k : Nat} (ha : k < a.length) (hb : k < b.length) (h : a.getD k 0 = b.getD k 0) : ltB (a.drop k) (b.drop k) = ltB (a.drop (k + 1)) (b.drop (k + 1)) := by
  rw [List.drop_eq_getElem_cons ha, List.drop_eq_getElem_cons hb]
  simp only [List.getD, List.getElem?_eq_getElem ha, List.getElem?_eq_getElem hb, Option.getD_some] at h
  rw [h, ltB_same]
theorem ltB_stop {a b : List UInt8} {k : Nat} (ha : k < a.length) (hb : k < b.length) (h : a.getD k 0 ≠ b.getD k 0) : ltB (a.drop k) (b.drop k) = decide ((a.getD k 0).toNat < (b.getD k 0).toNat) := by
  rw [List.drop_eq_getElem_cons ha, List.drop_eq_getElem_cons hb]
  simp only [List.getD, List.getElem?_eq_getElem ha, List.getElem?_eq_getElem hb, Option.getD_some] at h ⊢
  rw [ltB_other h]
theorem ltB_out {a b : List UInt8} {k : Nat} (h : b.length ≤ k) : ltB (a.drop k) (b.drop k) = false := by rw [List.drop_eq_nil_of_le h, ltB_nil]
theorem ltB_end {a b : List UInt8} {k : Nat} (ha : a.length = k) (hb : k ≤ b.length) : ltB (a.drop k) (b.drop k) = decide (k < b.length) := by
  rw [List.drop_eq_nil_of_le (by omega)]
  by_cases h : k < b.length
  · rw [List.drop_eq_getElem_cons h, ltB_nil_cons, decide_eq_true h]
  · rw [List.drop_eq_nil_of_le (by omega), ltB_nil, decide_eq_false h]

/-! What stands behind. -/
theorem ltB_next (s : List UInt8) : ltB s (s ++ [0]) = true := by
  have := ltB_append s [] [0]
  rw [List.append_nil] at this
  rw [this]; rfl
theorem next_none : ∀ {s t : List UInt8}, ltB s t = true → ltB t (s ++ [0]) = false
  | s, [], h => by rw [ltB_nil] at h; cases h
  | [], y :: t, _ => by
    by_cases e : y = 0
    · subst e; rw [List.nil_append, ltB_same]; exact ltB_nil t
    · rw [List.nil_append, ltB_other e, decide_eq_false_iff_not]
      show ¬ y.toNat < 0
      omega
  | x :: s, y :: t, h => by
    by_cases e : x = y
    · subst e; rw [ltB_same] at h; rw [List.cons_append, ltB_same]; exact next_none h
    · rw [ltB_other e, decide_eq_true_eq] at h
      rw [List.cons_append, ltB_other (Ne.symm e), decide_eq_false_iff_not]; omega

/-- The first of all texts behind all that begin with one. -/
def endV : List UInt8 → Option (List UInt8)
  | [] => none
  | c :: l => match endV l with
    | some e => some (c :: e)
    | none => if c = 255 then none else some [c + 1]
theorem endV_nil : endV [] = none := rfl
theorem endV_last : ∀ l : List UInt8, endV (l ++ [255]) = endV l
  | [] => rfl
  | c :: l => by rw [List.cons_append, endV, endV, endV_last l]
theorem endV_some {c : UInt8} (h : c ≠ 255) : ∀ l : List UInt8, endV (l ++ [c]) = some (l ++ [c + 1])
  | [] => by rw [List.nil_append, endV, endV]; simp [h]
  | d :: l => by rw [List.cons_append, endV, endV_some h l]; rfl
theorem add_one_nat {c : UInt8} (h : c ≠ 255) : (c + 1).toNat = c.toNat + 1 := by
  have h1 : c.toNat ≠ 255 := u8_ne h
  have := c.toNat_lt
  rw [UInt8.toNat_add]
  show (c.toNat + 1) % 256 = _
  omega
theorem endV_len : ∀ {p e : List UInt8}, endV p = some e → 0 < e.length ∧ e.length ≤ p.length
  | [], e, h => by cases h
  | c :: l, e, h => by
    unfold endV at h
    cases hl : endV l with
    | some e' =>
      rw [hl] at h
      have := endV_len hl
      injection h with h; subst h
      simp; omega
    | none =>
      rw [hl] at h
      by_cases hc : c = 255
      · simp [hc] at h
      · simp only [if_neg hc, Option.some.injEq] at h
        subst h; simp
theorem endV_cons (c : UInt8) (l : List UInt8) : endV (c :: l) = match endV l with | some e => some (c :: e) | none => if c = 255 then none else some [c + 1] := rfl
/-- Does a text stand ahead of an end that may be none? -/
def aheadO (t : List UInt8) : Option (List UInt8) → Bool
  | some e => ltB t e
  | none => true
/-- Between a text and its end stand those that begin with it, and no others. -/
theorem end_between : ∀ (s t : List UInt8), (!ltB t s && aheadO t (endV s)) = s.isPrefixOf t
  | [], t => by rw [ltB_nil]; simp [endV, aheadO]
  | c :: s, [] => by rw [ltB_nil_cons]; simp
  | c :: s, d :: t => by
    have ih := end_between s t
    by_cases e : d = c
    · subst e
      rw [ltB_same, List.isPrefixOf_cons_cons_self, ← ih, endV_cons]
      cases hs : endV s with
      | some e' => simp only [aheadO, ltB_same]
      | none =>
        by_cases hc : d = 255
        · simp [hc, aheadO]
        · have h1 : d ≠ d + 1 := fun e => by have := add_one_nat hc; rw [← e] at this; omega
          simp only [if_neg hc, aheadO, ltB_other h1, add_one_nat hc]
          simp
    · have hp : (c :: s).isPrefixOf (d :: t) = false := by
        simp only [List.isPrefixOf, Bool.and_eq_false_iff, beq_eq_false_iff_ne]
        exact .inl (Ne.symm e)
      rw [hp, ltB_other e]
      have hne := u8_ne e
      by_cases hlt : d.toNat < c.toNat
      · simp [hlt]
      · have hgt : c.toNat < d.toNat := by omega
        rw [endV_cons]
        cases hs : endV s with
        | some e' => simp [aheadO, ltB_other e, hlt]
        | none =>
          by_cases hc : c = 255
          · subst hc
            have := d.toNat_lt
            have : (255 : UInt8).toNat = 255 := rfl
            omega
          · simp only [if_neg hc, aheadO]
            by_cases h1 : d = c + 1
            · subst h1; simp [ltB_same, ltB_nil]
            · have h2 : (c + 1).toNat = c.toNat + 1 := add_one_nat hc
              have h3 := u8_ne h1
              simp [ltB_other h1]; omega

/-! With what texts begin. -/
/-- How many bytes at the beginning of both are the same. -/
def alikeN : List UInt8 → List UInt8 → Nat
  | x :: a, y :: b => if x = y then alikeN a b + 1 else 0
  | _, _ => 0
theorem alikeN_le : ∀ a b : List UInt8, alikeN a b ≤ a.length ∧ alikeN a b ≤ b.length
  | [], b => by simp [alikeN]
  | x :: a, [] => by simp [alikeN]
  | x :: a, y :: b => by
    have := alikeN_le a b
    unfold alikeN
    split <;> simp <;> omega
theorem alikeN_at : ∀ {a b : List UInt8} {k : Nat}, k ≤ a.length → k ≤ b.length → a.take k = b.take k → (k < a.length → k < b.length → a.getD k 0 ≠ b.getD k 0) → alikeN a b = k
  | [], b, k, h, _, _, _ => by simp at h; subst h; simp [alikeN]
  | x :: a, [], k, _, h, _, _ => by simp at h; subst h; simp [alikeN]
  | x :: a, y :: b, 0, _, _, _, h => by
    have := h (by simp) (by simp)
    simp at this
    simp [alikeN, this]
  | x :: a, y :: b, k + 1, h1, h2, h3, h4 => by
    simp only [List.take_succ_cons, List.cons.injEq] at h3
    have := alikeN_at (a := a) (b := b) (k := k) (by simpa using h1) (by simpa using h2) h3.2 (fun u v => by simpa using h4 (by simpa using u) (by simpa using v))
    simp [alikeN, h3.1, this]
theorem alike_take : ∀ a b : List UInt8, a.take (alikeN a b) <+: b
  | [], b => by simp [alikeN]
  | x :: a, [] => by simp [alikeN]
  | x :: a, y :: b => by
    unfold alikeN
    split
    · rename_i h; subst h; rw [List.take_succ_cons]; exact (List.prefix_cons_inj x).2 (alike_take a b)
    · simp
theorem alike_most : ∀ {a b d : List UInt8}, d <+: a → d <+: b → d <+: a.take (alikeN a b)
  | a, b, [], _, _ => List.nil_prefix
  | a, b, z :: d, h1, h2 => by
    obtain ⟨a', rfl⟩ := h1
    obtain ⟨b', rfl⟩ := h2
    rw [List.cons_append, List.cons_append]
    unfold alikeN
    rw [if_pos rfl, List.take_succ_cons]
    exact (List.prefix_cons_inj z).2 (alike_most (List.prefix_append d a') (List.prefix_append d b'))
/-- What is left of a text when more are met. -/
def commonF (s : List UInt8) (r : List (List UInt8)) : List UInt8 := r.foldl (fun all t => all.take (alikeN all t)) s
/-- With what all begin. -/
def commonV : List (List UInt8) → List UInt8
  | [] => []
  | s :: r => commonF s r
theorem commonF_snoc (s : List UInt8) (r : List (List UInt8)) (t : List UInt8) : commonF s (r ++ [t]) = (commonF s r).take (alikeN (commonF s r) t) := by simp [commonF]
theorem commonF_pre : ∀ (r : List (List UInt8)) (s : List UInt8), commonF s r <+: s ∧ ∀ t ∈ r, commonF s r <+: t
  | [], s => ⟨List.prefix_rfl, by simp⟩
  | t :: r, s => by
    have h := commonF_pre r (s.take (alikeN s t))
    refine ⟨h.1.trans (List.take_prefix _ _), fun u hu => ?_⟩
    rcases List.mem_cons.1 hu with rfl | hu
    · exact h.1.trans (alike_take s u)
    · exact h.2 u hu
theorem commonF_most : ∀ (r : List (List UInt8)) (s d : List UInt8), d <+: s → (∀ t ∈ r, d <+: t) → d <+: commonF s r
  | [], _, _, h, _ => h
  | t :: r, _, _, h, h' => commonF_most r _ _ (alike_most h (h' t (List.mem_cons_self ..))) fun u hu => h' u (List.mem_cons_of_mem _ hu)
theorem commonV_pre {l : List (List UInt8)} {t : List UInt8} (h : t ∈ l) : commonV l <+: t := by
  cases l with
  | nil => cases h
  | cons s r =>
    rcases List.mem_cons.1 h with rfl | h
    · exact (commonF_pre r _).1
    · exact (commonF_pre r s).2 t h
theorem commonV_most {l : List (List UInt8)} {d : List UInt8} (hl : l ≠ []) (h : ∀ t ∈ l, d <+: t) : d <+: commonV l := by
  cases l with
  | nil => exact absurd rfl hl
  | cons s r => exact commonF_most r s d (h s (List.mem_cons_self ..)) fun u hu => h u (List.mem_cons_of_mem _ hu)
theorem prefix_getD {p t : List UInt8} (h : p <+: t) : t.take p.length = p := (List.prefix_iff_eq_take.1 h).symm
theorem take_succ_getD {t : List UInt8} {k : Nat} (h : k < t.length) : t.take (k + 1) = t.take k ++ [t.getD k 0] := by
  rw [List.take_succ_eq_append_getElem h]; simp [List.getD, List.getElem?_eq_getElem h]
/-- Nothing longer serves. -/
theorem commonV_longest {l : List (List UInt8)} (h : ∀ t ∈ l, (commonV l).length < t.length) (he : ∀ t ∈ l, t.getD (commonV l).length 0 = (l.getD 0 []).getD (commonV l).length 0) : l = [] := by
  refine Decidable.byContradiction fun hl => ?_
  have hm := commonV_most (d := commonV l ++ [(l.getD 0 []).getD (commonV l).length 0]) hl fun t ht => by
    have h1 := commonV_pre ht
    have h2 := take_succ_getD (h t ht)
    rw [he t ht, prefix_getD h1] at h2
    rw [← h2]
    exact List.take_prefix _ _
  have := hm.length_le
  rw [List.length_append, List.length_singleton] at this
  omega
end Go.Proofs.Ytnfhkmlggajhaaa
