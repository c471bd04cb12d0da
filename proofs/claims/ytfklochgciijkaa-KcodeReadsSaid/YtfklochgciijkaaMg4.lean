/-
  Several texts in one: SpanPure, RgsPure, RgsSets, FltPure, FcdPure, KnwPure, KcdPure, FcdFlt.
-/
import Derived.Test.YtfklochgciijkaaMg3
/-
  Plain facts on ranges (layer 7): which are right, which texts they have, what two have together, which ends ahead. No program in this text.
-/
namespace Go.Proofs.Ytfklochgciijkaa

/-- A range: from lo on, ahead of hi, or Open. -/
structure Rng where
  lo : List UInt8
  hi : List UInt8
  op : Bool
def zeroR : Rng := ⟨[], [], false⟩
def allR : Rng := ⟨[], [], true⟩
def rightR (r : Rng) : Bool := decide (r.lo.length ≤ 17) && (match r.op with | true => r.hi.isEmpty | false => decide (r.hi.length ≤ 17) && ltB r.lo r.hi)
/-- Is a text ahead of a range's end? -/
def aheadR (r : Rng) (s : List UInt8) : Bool := r.op || ltB s r.hi
def hasR (r : Rng) (s : List UInt8) : Bool := rightR r && !ltB s r.lo && aheadR r s
def ofR (k : List UInt8) : Rng := match decide (k.length ≤ 16) with | true => ⟨k, k ++ [0], false⟩ | false => zeroR
def prefixR (p : List UInt8) : Rng := match decide (p.length ≤ 16) with
  | true => (match endV p with | some e => ⟨p, e, false⟩ | none => ⟨p, [], true⟩)
  | false => zeroR

theorem rightR_open {r : Rng} (h : r.op = true) : rightR r = (decide (r.lo.length ≤ 17) && r.hi.isEmpty) := by unfold rightR; rw [h]
theorem rightR_shut {r : Rng} (h : r.op = false) : rightR r = (decide (r.lo.length ≤ 17) && (decide (r.hi.length ≤ 17) && ltB r.lo r.hi)) := by unfold rightR; rw [h]
theorem rightR_lo {r : Rng} (h : rightR r = true) : r.lo.length ≤ 17 := by
  unfold rightR at h; simp only [Bool.and_eq_true, decide_eq_true_eq] at h; exact h.1
theorem rightR_hi {r : Rng} (h : rightR r = true) : r.hi.length ≤ 17 := by
  cases ho : r.op with
  | true => rw [rightR_open ho] at h; simp only [Bool.and_eq_true, List.isEmpty_iff] at h; rw [h.2]; simp
  | false => rw [rightR_shut ho] at h; simp only [Bool.and_eq_true, decide_eq_true_eq] at h; exact h.2.1
theorem rightR_op {r : Rng} (h : rightR r = true) (ho : r.op = true) : r.hi = [] := by
  rw [rightR_open ho] at h; simp only [Bool.and_eq_true, List.isEmpty_iff] at h; exact h.2
theorem rightR_lt {r : Rng} (h : rightR r = true) (ho : r.op = false) : ltB r.lo r.hi = true := by
  rw [rightR_shut ho] at h; simp only [Bool.and_eq_true, decide_eq_true_eq] at h; exact h.2.2
theorem rightR_iff {r : Rng} : rightR r = true ↔ r.lo.length ≤ 17 ∧ r.hi.length ≤ 17 ∧ (r.op = true → r.hi = []) ∧ (r.op = false → ltB r.lo r.hi = true) := by
  constructor
  · intro h; exact ⟨rightR_lo h, rightR_hi h, rightR_op h, rightR_lt h⟩
  · rintro ⟨h1, h2, h3, h4⟩
    cases ho : r.op with
    | true => rw [rightR_open ho, decide_eq_true h1, h3 ho]; rfl
    | false => rw [rightR_shut ho, decide_eq_true h1, decide_eq_true h2, h4 ho]; rfl
theorem rightR_zero : rightR zeroR = false := rfl
theorem hasR_zero (s : List UInt8) : hasR zeroR s = false := rfl
theorem hasR_all (s : List UInt8) : hasR allR s = true := by
  unfold hasR allR aheadR; rw [ltB_nil]; rfl
theorem rightR_first {r : Rng} (h : rightR r = true) : aheadR r r.lo = true := by
  unfold aheadR
  cases ho : r.op with
  | true => rfl
  | false => rw [rightR_lt h ho]; rfl
theorem ofR_short {k : List UInt8} (h : k.length ≤ 16) : ofR k = ⟨k, k ++ [0], false⟩ := by unfold ofR; rw [decide_eq_true h]
theorem ofR_long {k : List UInt8} (h : 16 < k.length) : ofR k = zeroR := by unfold ofR; rw [decide_eq_false (by omega)]
theorem ofR_right {k : List UInt8} (h : k.length ≤ 16) : rightR (ofR k) = true := by
  rw [ofR_short h, rightR_iff]
  exact ⟨by simp only; omega, by simp only [List.length_append, List.length_singleton]; omega, (fun h => by cases h), fun _ => ltB_next k⟩
theorem ofR_has {k : List UInt8} (h : k.length ≤ 16) (s : List UInt8) : hasR (ofR k) s = decide (s = k) := by
  unfold hasR
  rw [ofR_right h, ofR_short h]
  simp only [aheadR, Bool.true_and, Bool.false_or]
  by_cases e : s = k
  · subst e; rw [ltB_irrefl, ltB_next, decide_eq_true rfl]; rfl
  · rw [decide_eq_false e]
    rcases ltB_three s k with ⟨h1, _, _⟩ | ⟨h1, h2, _⟩ | ⟨_, _, h3⟩
    · rw [h1]; rfl
    · rw [h1, next_none h2]; rfl
    · exact absurd h3 e
theorem prefixR_some {p e : List UInt8} (h : p.length ≤ 16) (he : endV p = some e) : prefixR p = ⟨p, e, false⟩ := by unfold prefixR; rw [decide_eq_true h, he]
theorem prefixR_none {p : List UInt8} (h : p.length ≤ 16) (he : endV p = none) : prefixR p = ⟨p, [], true⟩ := by unfold prefixR; rw [decide_eq_true h, he]
theorem prefixR_long {p : List UInt8} (h : 16 < p.length) : prefixR p = zeroR := by unfold prefixR; rw [decide_eq_false (by omega)]
theorem endV_gt : ∀ {p e : List UInt8}, endV p = some e → ltB p e = true := fun {p e} h => by
  have h1 := end_between p p
  rw [ltB_irrefl, h] at h1
  have h2 : p.isPrefixOf p = true := List.isPrefixOf_iff_prefix.2 List.prefix_rfl
  rw [h2] at h1
  simpa [aheadO] using h1
theorem prefixR_right {p : List UInt8} (h : p.length ≤ 16) : rightR (prefixR p) = true := by
  rw [rightR_iff]
  cases he : endV p with
  | some e =>
    rw [prefixR_some h he]
    have := endV_len he
    exact ⟨by simp only; omega, by simp only; omega, (fun h => by cases h), fun _ => endV_gt he⟩
  | none =>
    rw [prefixR_none h he]
    exact ⟨by simp only; omega, by simp, fun _ => rfl, (fun h => by cases h)⟩
theorem prefixR_has {p : List UInt8} (h : p.length ≤ 16) (s : List UInt8) : hasR (prefixR p) s = p.isPrefixOf s := by
  unfold hasR
  rw [prefixR_right h, ← end_between p s, Bool.true_and]
  cases he : endV p with
  | some e => rw [prefixR_some h he]; rfl
  | none => rw [prefixR_none h he]; rfl
theorem prefixR_has_long {p : List UInt8} (h : 16 < p.length) (s : List UInt8) : hasR (prefixR p) s = false := by rw [prefixR_long h]; rfl
theorem ofR_has_long {p : List UInt8} (h : 16 < p.length) (s : List UInt8) : hasR (ofR p) s = false := by rw [ofR_long h]; rfl

/-! Which ends ahead. -/
/-- Does r's end stand ahead of t's? -/
def endLt (r t : Rng) : Bool := !r.op && (t.op || ltB r.hi t.hi)
def endsR (r t : Rng) : Int := match rightR r && rightR t with
  | true => (match endLt r t with | true => -1 | false => (match endLt t r with | true => 1 | false => 0))
  | false => 0
theorem endLt_asymm {r t : Rng} (h : endLt r t = true) : endLt t r = false := by
  unfold endLt at h ⊢
  cases ho : r.op <;> cases hp : t.op <;> rw [ho, hp] at h <;> first | (cases h; done) | rfl | skip
  simp only [Bool.not_false, Bool.true_and, Bool.false_or] at h ⊢
  exact ltB_asymm h
theorem endsR_lt {r t : Rng} (hr : rightR r = true) (ht : rightR t = true) (h : endLt r t = true) : endsR r t = -1 := by unfold endsR; rw [hr, ht, h]; rfl
theorem endsR_gt {r t : Rng} (hr : rightR r = true) (ht : rightR t = true) (h : endLt t r = true) : endsR r t = 1 := by unfold endsR; rw [hr, ht, h, endLt_asymm h]; rfl
theorem endsR_eq {r t : Rng} (h : endLt r t = false) (h' : endLt t r = false) : endsR r t = 0 := by unfold endsR; rw [h, h']; cases rightR r && rightR t <;> rfl
theorem endsR_wrong {r t : Rng} (h : (rightR r && rightR t) = false) : endsR r t = 0 := by unfold endsR; rw [h]
theorem endsR_three (r t : Rng) : (endsR r t = -1 ∧ endsR t r = 1) ∨ (endsR r t = 1 ∧ endsR t r = -1) ∨ (endsR r t = 0 ∧ endsR t r = 0) := by
  cases hr : rightR r with
  | false => exact .inr (.inr ⟨endsR_wrong (by rw [hr]; rfl), endsR_wrong (by rw [hr, Bool.and_false])⟩)
  | true => cases ht : rightR t with
    | false => exact .inr (.inr ⟨endsR_wrong (by rw [ht, Bool.and_false]), endsR_wrong (by rw [ht]; rfl)⟩)
    | true => cases h : endLt r t with
      | true => exact .inl ⟨endsR_lt hr ht h, endsR_gt ht hr h⟩
      | false => cases h' : endLt t r with
        | true => exact .inr (.inl ⟨endsR_gt hr ht h', endsR_lt ht hr h'⟩)
        | false => exact .inr (.inr ⟨endsR_eq h h', endsR_eq h' h⟩)
/-- Ends of right ranges that stand at one place are one. -/
theorem end_same {r t : Rng} (hr : rightR r = true) (ht : rightR t = true) (h : endLt r t = false) (h' : endLt t r = false) : r.hi = t.hi ∧ r.op = t.op := by
  unfold endLt at h h'
  cases ho : r.op <;> cases hp : t.op <;> rw [ho, hp] at h h' <;> first | (cases h; done) | (cases h'; done) | skip
  · simp only [Bool.not_false, Bool.true_and, Bool.false_or] at h h'
    exact ⟨ltB_total h h', rfl⟩
  · exact ⟨by rw [rightR_op hr ho, rightR_op ht hp], rfl⟩
theorem ahead_end {r t : Rng} (h : endLt t r = false) {s : List UInt8} (ha : aheadR r s = true) : aheadR t s = true := by
  unfold endLt at h
  unfold aheadR at ha ⊢
  cases ho : r.op <;> cases hp : t.op <;> rw [ho, hp] at h <;> rw [ho] at ha <;> first | (cases h; done) | rfl | skip
  simp only [Bool.not_false, Bool.true_and, Bool.false_or] at h ha ⊢
  exact ltB_of_lt_of_le ha h

/-! What two have together. -/
/-- The one whose end stands ahead, from the other's lo on. -/
def joinR (a b : Rng) : Rng :=
  let lo := match ltB a.lo b.lo with | true => b.lo | false => a.lo
  match endLt b a with | true => ⟨lo, b.hi, b.op⟩ | false => ⟨lo, a.hi, a.op⟩
def meetR (a b : Rng) : Option Rng := match rightR a && rightR b && rightR (joinR a b) with | true => some (joinR a b) | false => none
theorem joinR_lo (a b : Rng) : (joinR a b).lo = match ltB a.lo b.lo with | true => b.lo | false => a.lo := by
  unfold joinR; cases endLt b a <;> rfl
theorem joinR_lo_or (a b : Rng) : (joinR a b).lo = a.lo ∨ (joinR a b).lo = b.lo := by
  rw [joinR_lo]; cases ltB a.lo b.lo
  · exact .inl rfl
  · exact .inr rfl
theorem joinR_notlt (a b : Rng) (s : List UInt8) : (!ltB s (joinR a b).lo) = (!ltB s a.lo && !ltB s b.lo) := by
  rw [joinR_lo]
  cases h : ltB a.lo b.lo with
  | true =>
    show (!ltB s b.lo) = _
    cases hb : ltB s b.lo with
    | true => simp
    | false =>
      have : ltB s a.lo = false := by
        cases ha : ltB s a.lo with
        | false => rfl
        | true => rw [ltB_trans ha h] at hb; cases hb
      rw [this]; rfl
  | false =>
    show (!ltB s a.lo) = _
    cases ha : ltB s a.lo with
    | true => simp
    | false => rw [leB_trans h ha]; rfl
theorem joinR_ahead (a b : Rng) (s : List UInt8) : aheadR (joinR a b) s = (aheadR a s && aheadR b s) := by
  cases h : endLt b a with
  | true =>
    have e : aheadR (joinR a b) s = aheadR b s := by unfold joinR aheadR; rw [h]
    rw [e]
    cases hb : aheadR b s with
    | false => simp
    | true => rw [ahead_end (endLt_asymm h) hb]; rfl
  | false =>
    have e : aheadR (joinR a b) s = aheadR a s := by unfold joinR aheadR; rw [h]
    rw [e]
    cases ha : aheadR a s with
    | false => simp
    | true => rw [ahead_end h ha]; rfl
theorem joinR_right {a b : Rng} (ha : rightR a = true) (hb : rightR b = true) : rightR (joinR a b) = aheadR (joinR a b) (joinR a b).lo := by
  have hl : (joinR a b).lo.length ≤ 17 := by rcases joinR_lo_or a b with e | e <;> rw [e]; exact rightR_lo ha; exact rightR_lo hb
  have hh : (joinR a b).hi.length ≤ 17 := by
    unfold joinR; cases endLt b a
    · exact rightR_hi (r := a) ha
    · exact rightR_hi (r := b) hb
  have ho : (joinR a b).op = true → (joinR a b).hi = [] := by
    unfold joinR; cases endLt b a
    · exact rightR_op (r := a) ha
    · exact rightR_op (r := b) hb
  generalize joinR a b = m at *
  unfold aheadR
  cases hm : m.op with
  | true => rw [rightR_open hm, decide_eq_true hl, ho hm]; rfl
  | false => rw [rightR_shut hm, decide_eq_true hl, decide_eq_true hh]; rfl
theorem meetR_some {a b m : Rng} (h : meetR a b = some m) : rightR a = true ∧ rightR b = true ∧ rightR m = true ∧ m = joinR a b := by
  unfold meetR at h
  cases h3 : rightR a && rightR b && rightR (joinR a b) with
  | false => rw [h3] at h; cases h
  | true =>
    rw [h3] at h
    simp only [Bool.and_eq_true] at h3
    injection h with h
    subst h
    exact ⟨h3.1.1, h3.1.2, h3.2, rfl⟩
theorem meetR_of {a b : Rng} (ha : rightR a = true) (hb : rightR b = true) (hm : rightR (joinR a b) = true) : meetR a b = some (joinR a b) := by unfold meetR; rw [ha, hb, hm]; rfl
theorem meetR_wrong {a b : Rng} (h : (rightR a && rightR b) = false) : meetR a b = none := by unfold meetR; rw [h]; rfl
theorem meetR_none {a b : Rng} (h : rightR (joinR a b) = false) : meetR a b = none := by unfold meetR; rw [h, Bool.and_false]
theorem meetR_has {a b m : Rng} (h : meetR a b = some m) (s : List UInt8) : hasR m s = (hasR a s && hasR b s) := by
  obtain ⟨ha, hb, hm, rfl⟩ := meetR_some h
  unfold hasR
  rw [ha, hb, hm, joinR_notlt, joinR_ahead]
  cases ltB s a.lo <;> cases ltB s b.lo <;> cases aheadR a s <;> cases aheadR b s <;> rfl
theorem meetR_lo {a b m : Rng} (h : meetR a b = some m) : m.lo = a.lo ∨ m.lo = b.lo := by
  obtain ⟨_, _, _, rfl⟩ := meetR_some h
  exact joinR_lo_or a b
theorem joinR_comm {a b : Rng} (ha : rightR a = true) (hb : rightR b = true) : joinR b a = joinR a b := by
  have e1 : (match ltB b.lo a.lo with | true => a.lo | false => b.lo) = (match ltB a.lo b.lo with | true => b.lo | false => a.lo) := by
    rcases ltB_three a.lo b.lo with ⟨h1, h2, _⟩ | ⟨h1, h2, _⟩ | ⟨h1, h2, h3⟩ <;> rw [h1, h2]
    exact h3.symm
  unfold joinR
  rw [e1]
  cases h : endLt a b with
  | true => rw [endLt_asymm h]
  | false => cases h' : endLt b a with
    | true => rfl
    | false =>
      obtain ⟨e2, e3⟩ := end_same ha hb h h'
      simp only [e2, e3]
theorem meetR_comm (a b : Rng) : meetR b a = meetR a b := by
  cases ha : rightR a with
  | false => rw [meetR_wrong (by rw [ha, Bool.and_false]), meetR_wrong (by rw [ha]; rfl)]
  | true => cases hb : rightR b with
    | false => rw [meetR_wrong (by rw [hb]; rfl), meetR_wrong (by rw [hb, Bool.and_false])]
    | true => unfold meetR; rw [joinR_comm ha hb, ha, hb]
/-- Where two have nothing, the one's first text isn't in both. -/
theorem meetR_no {a b : Rng} (h : meetR a b = none) : (hasR a b.lo && hasR b b.lo) = false := by
  cases h1 : hasR a b.lo with
  | false => rfl
  | true => cases h2 : hasR b b.lo with
    | false => rfl
    | true =>
      unfold hasR at h1 h2
      simp only [Bool.and_eq_true, Bool.not_eq_true'] at h1 h2
      obtain ⟨⟨ha, h3⟩, h4⟩ := h1
      obtain ⟨⟨hb, h5⟩, h6⟩ := h2
      have e : (joinR a b).lo = b.lo := by
        rw [joinR_lo]
        cases h7 : ltB a.lo b.lo with
        | true => rfl
        | false => exact ltB_total h7 h3
      have hm : rightR (joinR a b) = true := by rw [joinR_right ha hb, e, joinR_ahead, h4, h6]; rfl
      rw [meetR_of ha hb hm] at h
      cases h
theorem meetR_no' {a b : Rng} (h : meetR a b = none) : (hasR b a.lo && hasR a a.lo) = false := meetR_no ((meetR_comm a b).trans h)
end Go.Proofs.Ytfklochgciijkaa

/-
  Plain facts on lists of ranges (layer 8): which are right, which texts they have; each set of texts has one right list at most; the right list of what is meant, edge by edge. No program in this text.
-/
namespace Go.Proofs.Ytfklochgciijkaa

def hasL (l : List Rng) (s : List UInt8) : Bool := l.any fun r => hasR r s
/-- Is there a text between the end of one and the beginning of the other? -/
def gapR (r t : Rng) : Bool := !r.op && ltB r.hi t.lo
def rightL : List Rng → Bool
  | [] => true
  | [r] => rightR r
  | r :: t :: l => rightR r && gapR r t && rightL (t :: l)
theorem hasL_cons (r : Rng) (l : List Rng) (s : List UInt8) : hasL (r :: l) s = (hasR r s || hasL l s) := by simp [hasL]
theorem hasL_append (a b : List Rng) (s : List UInt8) : hasL (a ++ b) s = (hasL a s || hasL b s) := by simp [hasL]
theorem rightL_head {r : Rng} {l : List Rng} (h : rightL (r :: l) = true) : rightR r = true := by
  cases l with
  | nil => exact h
  | cons t l => unfold rightL at h; simp only [Bool.and_eq_true] at h; exact h.1.1
theorem rightL_tail {r : Rng} {l : List Rng} (h : rightL (r :: l) = true) : rightL l = true := by
  cases l with
  | nil => rfl
  | cons t l => unfold rightL at h; simp only [Bool.and_eq_true] at h; exact h.2
theorem rightL_gap {r t : Rng} {l : List Rng} (h : rightL (r :: t :: l) = true) : r.op = false ∧ ltB r.hi t.lo = true := by
  unfold rightL gapR at h; simp only [Bool.and_eq_true, Bool.not_eq_true'] at h; exact h.1.2
theorem hasR_lo {r : Rng} (h : rightR r = true) : hasR r r.lo = true := by
  unfold hasR; rw [h, ltB_irrefl, rightR_first h]; rfl
theorem hasR_ge {r : Rng} {s : List UInt8} (h : hasR r s = true) : ltB s r.lo = false := by
  unfold hasR at h; simp only [Bool.and_eq_true, Bool.not_eq_true'] at h; exact h.1.2
theorem hasR_right {r : Rng} {s : List UInt8} (h : hasR r s = true) : rightR r = true := by
  unfold hasR at h; simp only [Bool.and_eq_true] at h; exact h.1.1
theorem hasR_ahead {r : Rng} {s : List UInt8} (h : hasR r s = true) : aheadR r s = true := by
  unfold hasR at h; simp only [Bool.and_eq_true] at h; exact h.2
/-- What a right list has stands not ahead of its first text. -/
theorem hasL_ge : ∀ {l : List Rng} {r : Rng} {s : List UInt8}, rightL (r :: l) = true → hasL (r :: l) s = true → ltB s r.lo = false
  | [], r, s, _, hs => by
    rw [hasL_cons] at hs
    simp only [hasL, List.any_nil, Bool.or_false] at hs
    exact hasR_ge hs
  | t :: l, r, s, h, hs => by
    rw [hasL_cons] at hs
    cases hr : hasR r s with
    | true => exact hasR_ge hr
    | false =>
      rw [hr, Bool.false_or] at hs
      have h1 := hasL_ge (rightL_tail h) hs
      have h2 := rightL_gap h
      have h3 := rightR_lt (rightL_head h) h2.1
      cases hc : ltB s r.lo with
      | false => rfl
      | true => rw [ltB_trans hc (ltB_trans h3 h2.2)] at h1; cases h1
/-- What the rest has, the first one hasn't; and the rest hasn't the first one's end. -/
theorem hasL_apart {r : Rng} {l : List Rng} {s : List UInt8} (h : rightL (r :: l) = true) (hs : hasL l s = true) : hasR r s = false ∧ r.op = false ∧ ltB r.hi s = true := by
  cases l with
  | nil => simp [hasL] at hs
  | cons t l =>
    have h1 := hasL_ge (rightL_tail h) hs
    have h2 := rightL_gap h
    have h3 : ltB r.hi s = true := ltB_of_lt_of_le h2.2 h1
    refine ⟨?_, h2.1, h3⟩
    cases hr : hasR r s with
    | false => rfl
    | true =>
      have := hasR_ahead hr
      unfold aheadR at this
      rw [h2.1, Bool.false_or, ltB_asymm h3] at this
      cases this
theorem rng_ext {r t : Rng} (h1 : r.lo = t.lo) (h2 : r.hi = t.hi) (h3 : r.op = t.op) : r = t := by cases r; cases t; simp_all
/-- The text at which the one ends, and the other doesn't. -/
theorem end_split {r t : Rng} {l m : List Rng} (hl : rightL (r :: l) = true) (hm : rightL (t :: m) = true) (he : r.lo = t.lo) (h : endLt r t = true) (hs : ∀ s, hasL (r :: l) s = hasL (t :: m) s) : False := by
  unfold endLt at h
  simp only [Bool.and_eq_true, Bool.not_eq_true'] at h
  obtain ⟨ho, h⟩ := h
  have h1 := hs r.hi
  have h2 : hasR t r.hi = true := by
    unfold hasR aheadR
    rw [rightL_head hm, h, ← he, ltB_asymm (rightR_lt (rightL_head hl) ho)]; rfl
  rw [hasL_cons t, h2, Bool.true_or, hasL_cons] at h1
  have h3 : hasR r r.hi = false := by
    unfold hasR aheadR; rw [ho, ltB_irrefl, Bool.false_or, Bool.and_false]
  rw [h3, Bool.false_or] at h1
  have := (hasL_apart hl h1).2.2
  rw [ltB_irrefl] at this
  cases this
/-- P8.4: two right lists that have the same texts are the same. -/
theorem rightL_unique : ∀ {l m : List Rng}, rightL l = true → rightL m = true → (∀ s, hasL l s = hasL m s) → l = m
  | [], [], _, _, _ => rfl
  | [], t :: m, _, hm, h => by
    have := h t.lo
    rw [hasL_cons, hasR_lo (rightL_head hm)] at this
    simp [hasL] at this
  | r :: l, [], hl, _, h => by
    have := h r.lo
    rw [hasL_cons, hasR_lo (rightL_head hl)] at this
    simp [hasL] at this
  | r :: l, t :: m, hl, hm, h => by
    have e1 : r.lo = t.lo := by
      have h1 : hasL (t :: m) r.lo = true := by rw [← h, hasL_cons, hasR_lo (rightL_head hl)]; rfl
      have h2 : hasL (r :: l) t.lo = true := by rw [h, hasL_cons, hasR_lo (rightL_head hm)]; rfl
      exact ltB_total (hasL_ge hm h1) (hasL_ge hl h2)
    have e2 : endLt r t = false := by
      cases hc : endLt r t with
      | false => rfl
      | true => exact (end_split hl hm e1 hc h).elim
    have e3 : endLt t r = false := by
      cases hc : endLt t r with
      | false => rfl
      | true => exact (end_split hm hl e1.symm hc (fun s => (h s).symm)).elim
    obtain ⟨e4, e5⟩ := end_same (rightL_head hl) (rightL_head hm) e2 e3
    obtain rfl := rng_ext e1 e4 e5
    have key : ∀ s, hasL l s = hasL m s := fun s => by
      have hs := h s
      rw [hasL_cons, hasL_cons] at hs
      cases h1 : hasL l s with
      | true => rw [(hasL_apart hl h1).1, h1, Bool.false_or, Bool.false_or] at hs; exact hs
      | false => cases h2 : hasL m s with
        | false => rfl
        | true => rw [(hasL_apart hm h2).1, h1, h2] at hs; cases hs
    rw [rightL_unique (rightL_tail hl) (rightL_tail hm) key]

/-! The right list of what is meant, edge by edge. -/
/-- The ranges that begin at an edge that is in, and end at the next one that isn't; lo: the one that has begun. -/
def mkR (f : List UInt8 → Bool) : List (List UInt8) → Option (List UInt8) → List Rng
  | [], none => []
  | [], some lo => [⟨lo, [], true⟩]
  | e :: es, none => match f e with | true => mkR f es (some e) | false => mkR f es none
  | e :: es, some lo => match f e with | true => mkR f es (some lo) | false => ⟨lo, e, false⟩ :: mkR f es none
/-- Rising texts, all behind e. -/
def risingB : List UInt8 → List (List UInt8) → Bool
  | _, [] => true
  | e, x :: l => ltB e x && risingB x l
theorem rising_head {c x : List UInt8} {l : List (List UInt8)} (h : risingB c (x :: l) = true) : ltB c x = true ∧ risingB x l = true := by
  unfold risingB at h; simpa using h
theorem rising_all : ∀ {l : List (List UInt8)} {c : List UInt8}, risingB c l = true → ∀ x ∈ l, ltB c x = true
  | [], _, _, x, hx => by cases hx
  | y :: l, c, h, x, hx => by
    obtain ⟨h1, h2⟩ := rising_head h
    rcases List.mem_cons.1 hx with rfl | hx
    · exact h1
    · exact ltB_trans h1 (rising_all h2 x hx)
/-- What holds at a text, told by what holds at the edges. -/
def floorV (f : List UInt8 → Bool) : Bool → List (List UInt8) → List UInt8 → Bool
  | v, [], _ => v
  | v, x :: l, s => match ltB s x with | true => v | false => floorV f (f x) l s
theorem floorV_low {f : List UInt8 → Bool} {v : Bool} {l : List (List UInt8)} {s : List UInt8} (h : ∀ x ∈ l, ltB s x = true) : floorV f v l s = v := by
  cases l with
  | nil => rfl
  | cons x l => unfold floorV; rw [h x (List.mem_cons_self ..)]
theorem hasR_open {lo s : List UInt8} (h : lo.length ≤ 17) : hasR ⟨lo, [], true⟩ s = !ltB s lo := by
  have h1 : rightR ⟨lo, [], true⟩ = true := rightR_iff.2 ⟨h, by simp, fun _ => rfl, (fun h => by cases h)⟩
  unfold hasR aheadR; rw [h1]; simp
theorem right_shut {lo e : List UInt8} (h : lo.length ≤ 17) (he : e.length ≤ 17) (hl : ltB lo e = true) : rightR ⟨lo, e, false⟩ = true :=
  rightR_iff.2 ⟨h, he, (fun h => by cases h), fun _ => hl⟩
theorem hasR_shut {lo e s : List UInt8} (h : lo.length ≤ 17) (he : e.length ≤ 17) (hl : ltB lo e = true) : hasR ⟨lo, e, false⟩ s = (!ltB s lo && ltB s e) := by
  unfold hasR aheadR; rw [right_shut h he hl]; simp
theorem mkR_low (f : List UInt8 → Bool) : ∀ (es : List (List UInt8)) (o : Option (List UInt8)) (c s : List UInt8), risingB c es = true → (∀ lo, o = some lo → ltB s lo = true) → (o = none → ltB c s = false) → (∀ lo, o = some lo → ltB c lo = false) → hasL (mkR f es o) s = false
  | [], none, _, _, _, _, _, _ => rfl
  | [], some lo, c, s, _, h, _, _ => by
    unfold mkR; rw [hasL_cons]
    have : hasR ⟨lo, [], true⟩ s = false := by unfold hasR; rw [h lo rfl]; simp
    rw [this]; rfl
  | e :: es, none, c, s, hr, _, h2, _ => by
    obtain ⟨h3, h4⟩ := rising_head hr
    have hse : ltB s e = true := ltB_of_le_of_lt (h2 rfl) h3
    unfold mkR
    cases f e with
    | true => exact mkR_low f es (some e) e s h4 (fun lo h => by injection h with h; subst h; exact hse) (fun h => by cases h) (fun lo h => by injection h with h; subst h; exact ltB_irrefl _)
    | false => exact mkR_low f es none e s h4 (fun lo h => by cases h) (fun _ => ltB_asymm hse) (fun lo h => by cases h)
  | e :: es, some lo, c, s, hr, h, _, hc => by
    obtain ⟨h3, h4⟩ := rising_head hr
    have h5 : ltB lo e = true := ltB_of_le_of_lt (hc lo rfl) h3
    have hse : ltB s e = true := ltB_trans (h lo rfl) h5
    unfold mkR
    cases f e with
    | true => exact mkR_low f es (some lo) e s h4 (fun lo' h' => by injection h' with h'; subst h'; exact h lo rfl) (fun h => by cases h) (fun lo' h' => by injection h' with h'; subst h'; exact ltB_asymm h5)
    | false =>
      show hasL (⟨lo, e, false⟩ :: mkR f es none) s = false
      rw [hasL_cons]
      have : hasR ⟨lo, e, false⟩ s = false := by unfold hasR; rw [h lo rfl]; simp
      rw [this, Bool.false_or]
      exact mkR_low f es none e s h4 (fun lo h => by cases h) (fun _ => ltB_asymm hse) (fun lo h => by cases h)
/-- What the list has. -/
theorem mkR_has (f : List UInt8 → Bool) : ∀ (es : List (List UInt8)) (o : Option (List UInt8)) (c s : List UInt8), risingB c es = true → (∀ x ∈ es, x.length ≤ 17) → (∀ lo, o = some lo → lo.length ≤ 17 ∧ ltB c lo = false ∧ ltB s lo = false) → hasL (mkR f es o) s = floorV f o.isSome es s
  | [], none, _, _, _, _, _ => rfl
  | [], some lo, c, s, _, _, h => by
    obtain ⟨h1, _, h3⟩ := h lo rfl
    unfold mkR; rw [hasL_cons, hasR_open h1, h3]; rfl
  | e :: es, none, c, s, hr, hl, _ => by
    obtain ⟨h3, h4⟩ := rising_head hr
    have hl' : ∀ x ∈ es, x.length ≤ 17 := fun x hx => hl x (List.mem_cons_of_mem _ hx)
    have he := hl e (List.mem_cons_self ..)
    unfold mkR floorV
    cases hse : ltB s e with
    | true =>
      cases f e with
      | true => exact mkR_low f es (some e) e s h4 (fun lo h => by injection h with h; subst h; exact hse) (fun h => by cases h) (fun lo h => by injection h with h; subst h; exact ltB_irrefl _)
      | false => exact mkR_low f es none e s h4 (fun lo h => by cases h) (fun _ => ltB_asymm hse) (fun lo h => by cases h)
    | false =>
      cases f e with
      | true => exact mkR_has f es (some e) e s h4 hl' (fun lo h => by injection h with h; subst h; exact ⟨he, ltB_irrefl _, hse⟩)
      | false => exact mkR_has f es none e s h4 hl' (fun lo h => by cases h)
  | e :: es, some lo, c, s, hr, hl, h => by
    obtain ⟨h3, h4⟩ := rising_head hr
    obtain ⟨k1, k2, k3⟩ := h lo rfl
    have hl' : ∀ x ∈ es, x.length ≤ 17 := fun x hx => hl x (List.mem_cons_of_mem _ hx)
    have he := hl e (List.mem_cons_self ..)
    have h5 : ltB lo e = true := ltB_of_le_of_lt k2 h3
    unfold mkR floorV
    cases hf : f e with
    | true =>
      have := mkR_has f es (some lo) e s h4 hl' (fun lo' h' => by injection h' with h'; subst h'; exact ⟨k1, ltB_asymm h5, k3⟩)
      show hasL (mkR f es (some lo)) s = _
      rw [this]
      cases hse : ltB s e with
      | true => exact floorV_low fun x hx => ltB_trans hse (rising_all h4 x hx)
      | false => rfl
    | false =>
      show hasL (⟨lo, e, false⟩ :: mkR f es none) s = _
      rw [hasL_cons, hasR_shut k1 he h5, k3]
      cases hse : ltB s e with
      | true => rfl
      | false => exact mkR_has f es none e s h4 hl' (fun lo h => by cases h)
theorem mkR_first (f : List UInt8 → Bool) : ∀ (es : List (List UInt8)) (o : Option (List UInt8)) (c : List UInt8) (t : Rng) (m : List Rng), risingB c es = true → mkR f es o = t :: m → (∀ lo, o = some lo → t.lo = lo) ∧ (o = none → ltB c t.lo = true)
  | [], none, _, _, _, _, h => by cases h
  | [], some lo, _, t, m, _, h => by
    unfold mkR at h; injection h with h h'; subst h
    exact ⟨(fun lo' e => by injection e), (fun e => by cases e)⟩
  | e :: es, none, c, t, m, hr, h => by
    obtain ⟨h3, h4⟩ := rising_head hr
    refine ⟨(fun lo e => by cases e), fun _ => ?_⟩
    unfold mkR at h
    cases hf : f e with
    | true => rw [hf] at h; rw [(mkR_first f es (some e) e t m h4 h).1 e rfl]; exact h3
    | false => rw [hf] at h; exact ltB_trans h3 ((mkR_first f es none e t m h4 h).2 rfl)
  | e :: es, some lo, c, t, m, hr, h => by
    obtain ⟨h3, h4⟩ := rising_head hr
    refine ⟨fun lo' e' => ?_, (fun e => by cases e)⟩
    injection e' with e'; subst e'
    unfold mkR at h
    cases hf : f e with
    | true => rw [hf] at h; exact (mkR_first f es (some lo) e t m h4 h).1 lo rfl
    | false => rw [hf] at h; injection h with h h'; subst h; rfl
/-- The list is right. -/
theorem mkR_right (f : List UInt8 → Bool) : ∀ (es : List (List UInt8)) (o : Option (List UInt8)) (c : List UInt8), risingB c es = true → (∀ x ∈ es, x.length ≤ 17) → (∀ lo, o = some lo → lo.length ≤ 17 ∧ ltB c lo = false) → rightL (mkR f es o) = true
  | [], none, _, _, _, _ => rfl
  | [], some lo, _, _, _, h => rightR_iff.2 ⟨(h lo rfl).1, by simp, fun _ => rfl, (fun h => by cases h)⟩
  | e :: es, none, c, hr, hl, _ => by
    obtain ⟨h3, h4⟩ := rising_head hr
    have hl' : ∀ x ∈ es, x.length ≤ 17 := fun x hx => hl x (List.mem_cons_of_mem _ hx)
    have he := hl e (List.mem_cons_self ..)
    unfold mkR
    cases f e with
    | true => exact mkR_right f es (some e) e h4 hl' (fun lo h => by injection h with h; subst h; exact ⟨he, ltB_irrefl _⟩)
    | false => exact mkR_right f es none e h4 hl' (fun lo h => by cases h)
  | e :: es, some lo, c, hr, hl, h => by
    obtain ⟨h3, h4⟩ := rising_head hr
    obtain ⟨k1, k2⟩ := h lo rfl
    have hl' : ∀ x ∈ es, x.length ≤ 17 := fun x hx => hl x (List.mem_cons_of_mem _ hx)
    have he := hl e (List.mem_cons_self ..)
    have h5 : ltB lo e = true := ltB_of_le_of_lt k2 h3
    unfold mkR
    cases f e with
    | true => exact mkR_right f es (some lo) e h4 hl' (fun lo' h' => by injection h' with h'; subst h'; exact ⟨k1, ltB_asymm h5⟩)
    | false =>
      have h6 := mkR_right f es none e h4 hl' (fun lo h => by cases h)
      show rightL (⟨lo, e, false⟩ :: mkR f es none) = true
      cases hm : mkR f es none with
      | nil => exact right_shut k1 he h5
      | cons t m =>
        rw [hm] at h6
        have h7 := (mkR_first f es none e t m h4 hm).2 rfl
        unfold rightL gapR
        rw [right_shut k1 he h5, h6, h7]; rfl
/-- Is it told by these edges whether a text is in? -/
def Det (f : List UInt8 → Bool) (E : List (List UInt8)) : Prop := ∀ s c, (∀ x ∈ E, ltB s x = ltB c x) → f s = f c
theorem floorV_det (f : List UInt8 → Bool) (s : List UInt8) : ∀ (es D : List (List UInt8)) (c : List UInt8), risingB c es = true → (∀ x ∈ D, ltB c x = false) → ltB s c = false → Det f (D ++ es) → floorV f (f c) es s = f s
  | [], D, c, _, hD, hs, h => by
    refine (h s c fun x hx => ?_).symm
    rw [List.append_nil] at hx
    rw [hD x hx]
    exact leB_trans (hD x hx) hs
  | x :: l, D, c, hr, hD, hs, h => by
    obtain ⟨h3, h4⟩ := rising_head hr
    unfold floorV
    cases hx : ltB s x with
    | true =>
      refine (h s c fun y hy => ?_).symm
      rcases List.mem_append.1 hy with hy | hy
      · rw [hD y hy]; exact leB_trans (hD y hy) hs
      · have h5 := rising_all hr y hy
        rw [h5]
        rcases List.mem_cons.1 hy with rfl | hy
        · exact hx
        · exact ltB_trans hx (rising_all h4 y hy)
    | false =>
      refine floorV_det f s l (D ++ [x]) x h4 (fun y hy => ?_) hx (by rw [List.append_assoc]; exact h)
      rcases List.mem_append.1 hy with hy | hy
      · exact ltB_asymm (ltB_of_le_of_lt (hD y hy) h3)
      · rw [List.mem_singleton.1 hy]; exact ltB_irrefl _
/-- Of the empty text and rising edges, by which it is told what is in: the right list of it. -/
theorem mkR_all {f : List UInt8 → Bool} {es : List (List UInt8)} (hr : risingB [] es = true) (hl : ∀ x ∈ es, x.length ≤ 17) (hd : Det f ([] :: es)) :
    rightL (mkR f ([] :: es) none) = true ∧ ∀ s, hasL (mkR f ([] :: es) none) s = f s := by
  have hn : ∀ s, ltB s [] = false := ltB_nil
  constructor
  · unfold mkR
    cases f [] with
    | true => exact mkR_right f es (some []) [] hr hl (fun lo h => by injection h with h; subst h; exact ⟨by simp, ltB_nil _⟩)
    | false => exact mkR_right f es none [] hr hl (fun lo h => by cases h)
  · intro s
    have h1 : hasL (mkR f ([] :: es) none) s = floorV f (f []) es s := by
      unfold mkR
      cases hf : f [] with
      | true => exact mkR_has f es (some []) [] s hr hl (fun lo h => by injection h with h; subst h; exact ⟨by simp, ltB_nil _, ltB_nil _⟩)
      | false => exact mkR_has f es none [] s hr hl (fun lo h => by cases h)
    rw [h1]
    exact floorV_det f s es [[]] [] hr (fun x hx => by rw [List.mem_singleton.1 hx]; exact ltB_nil _) (ltB_nil _) hd

/-! The edges. -/
/-- A text put among rising ones, once. -/
def putL : List (List UInt8) → List UInt8 → List (List UInt8)
  | [], s => [s]
  | x :: l, s => match ltB x s with | true => x :: putL l s | false => match decide (x = s) with | true => x :: l | false => s :: x :: l
theorem putL_behind {x : List UInt8} {l : List (List UInt8)} {s : List UInt8} (h : ltB x s = true) : putL (x :: l) s = x :: putL l s := by rw [putL, h]
theorem putL_there {x : List UInt8} {l : List (List UInt8)} : putL (x :: l) x = x :: l := by rw [putL, ltB_irrefl, decide_eq_true rfl]
theorem putL_here {x : List UInt8} {l : List (List UInt8)} {s : List UInt8} (h : ltB x s = false) (h' : x ≠ s) : putL (x :: l) s = s :: x :: l := by rw [putL, h, decide_eq_false h']
theorem putL_mem : ∀ {l : List (List UInt8)} {s x : List UInt8}, x ∈ putL l s ↔ x = s ∨ x ∈ l
  | [], s, x => by simp [putL]
  | y :: l, s, x => by
    cases h : ltB y s with
    | true => rw [putL_behind h, List.mem_cons, List.mem_cons, putL_mem]; constructor <;> (rintro (h | h | h) <;> simp [h])
    | false =>
      by_cases h' : y = s
      · subst h'; rw [putL_there]; constructor
        · exact .inr
        · rintro (rfl | h)
          · exact List.mem_cons_self ..
          · exact h
      · rw [putL_here h h', List.mem_cons]
theorem putL_rising : ∀ {l : List (List UInt8)} {c s : List UInt8}, risingB c l = true → ltB c s = true → risingB c (putL l s) = true
  | [], c, s, _, h => by simp [putL, risingB, h]
  | x :: l, c, s, hr, hs => by
    obtain ⟨h1, h2⟩ := rising_head hr
    cases h : ltB x s with
    | true => rw [putL_behind h]; unfold risingB; rw [h1, putL_rising h2 h]; rfl
    | false =>
      by_cases h' : x = s
      · subst h'; rw [putL_there]; exact hr
      · have h3 : ltB s x = true := by
          cases hc : ltB s x with
          | true => rfl
          | false => exact absurd (ltB_total h hc) h'
        rw [putL_here h h']; unfold risingB risingB; rw [hs, h3, h2]; rfl
/-- The empty text stands first. -/
theorem putL_first {l : List (List UInt8)} {s : List UInt8} (h : risingB [] l = true) : ∃ m, putL ([] :: l) s = [] :: m ∧ risingB [] m = true := by
  cases s with
  | nil => exact ⟨l, putL_there, h⟩
  | cons x s => exact ⟨putL l (x :: s), putL_behind (ltB_nil_cons x s), putL_rising h (ltB_nil_cons x s)⟩
def addE (E : List (List UInt8)) (r : Rng) : List (List UInt8) := match rightR r with
  | true => (match r.op with | true => putL E r.lo | false => putL (putL E r.lo) r.hi)
  | false => E
def edgesL (l : List Rng) : List (List UInt8) := l.foldl addE [[]]
theorem edgesL_snoc (l : List Rng) (r : Rng) : edgesL (l ++ [r]) = addE (edgesL l) r := by simp [edgesL]
/-- Texts that begin with the empty one, rise, and are edges. -/
def EdgesOk (E : List (List UInt8)) : Prop := ∃ m, E = [] :: m ∧ risingB [] m = true ∧ ∀ x ∈ m, x.length ≤ 17
theorem EdgesOk.put {E : List (List UInt8)} (h : EdgesOk E) {s : List UInt8} (hs : s.length ≤ 17) : EdgesOk (putL E s) := by
  obtain ⟨m, rfl, h1, h2⟩ := h
  obtain ⟨m', h3, h4⟩ := putL_first (s := s) h1
  refine ⟨m', h3, h4, fun x hx => ?_⟩
  have h5 : x ∈ putL ([] :: m) s := by rw [h3]; exact List.mem_cons_of_mem _ hx
  rcases putL_mem.1 h5 with rfl | h5
  · exact hs
  · rcases List.mem_cons.1 h5 with rfl | h5
    · simp
    · exact h2 x h5
theorem EdgesOk.add {E : List (List UInt8)} (h : EdgesOk E) (r : Rng) : EdgesOk (addE E r) := by
  unfold addE
  cases hr : rightR r with
  | false => exact h
  | true => cases r.op with
    | true => exact h.put (rightR_lo hr)
    | false => exact (h.put (rightR_lo hr)).put (rightR_hi hr)
theorem edges_ok : ∀ (l : List Rng) (E : List (List UInt8)), EdgesOk E → EdgesOk (l.foldl addE E)
  | [], _, h => h
  | r :: l, E, h => edges_ok l (addE E r) (h.add r)
theorem addE_keep {E : List (List UInt8)} {r : Rng} {x : List UInt8} (h : x ∈ E) : x ∈ addE E r := by
  unfold addE
  cases rightR r with
  | false => exact h
  | true => cases r.op with
    | true => exact putL_mem.2 (.inr h)
    | false => exact putL_mem.2 (.inr (putL_mem.2 (.inr h)))
theorem edges_keep : ∀ (l : List Rng) (E : List (List UInt8)) {x : List UInt8}, x ∈ E → x ∈ l.foldl addE E
  | [], _, _, h => h
  | r :: l, E, _, h => edges_keep l (addE E r) (addE_keep h)
theorem edges_mem : ∀ (l : List Rng) (E : List (List UInt8)) {r : Rng}, r ∈ l → rightR r = true → r.lo ∈ l.foldl addE E ∧ (r.op = false → r.hi ∈ l.foldl addE E)
  | [], _, _, h, _ => by cases h
  | t :: l, E, r, h, hr => by
    rcases List.mem_cons.1 h with rfl | h
    · constructor
      · refine edges_keep l _ ?_
        unfold addE; rw [hr]
        cases r.op with
        | true => exact putL_mem.2 (.inl rfl)
        | false => exact putL_mem.2 (.inr (putL_mem.2 (.inl rfl)))
      · intro ho
        refine edges_keep l _ ?_
        unfold addE; rw [hr, ho]
        exact putL_mem.2 (.inl rfl)
    · exact edges_mem l (addE E t) h hr
theorem edgesL_ok (l : List Rng) : EdgesOk (edgesL l) := edges_ok l [[]] ⟨[], rfl, rfl, by simp⟩
theorem hasR_det {r : Rng} {E : List (List UInt8)} (h : rightR r = true → r.lo ∈ E ∧ (r.op = false → r.hi ∈ E)) : Det (hasR r) E := fun s c hs => by
  cases hr : rightR r with
  | false => unfold hasR; rw [hr]; rfl
  | true =>
    obtain ⟨h1, h2⟩ := h hr
    unfold hasR aheadR
    rw [hs _ h1]
    cases ho : r.op with
    | true => rfl
    | false => rw [hs _ (h2 ho)]
theorem hasL_det : ∀ {l : List Rng} {E : List (List UInt8)}, (∀ r ∈ l, rightR r = true → r.lo ∈ E ∧ (r.op = false → r.hi ∈ E)) → Det (hasL l) E
  | [], _, _ => fun _ _ _ => rfl
  | r :: l, E, h => fun s c hs => by
    rw [hasL_cons, hasL_cons, hasR_det (h r (List.mem_cons_self ..)) s c hs, hasL_det (fun t ht => h t (List.mem_cons_of_mem _ ht)) s c hs]
/-- The right list of what is told by what two lists have. -/
theorem make_ok (a b : List Rng) (g : Bool → Bool → Bool) : rightL (mkR (fun s => g (hasL a s) (hasL b s)) (edgesL (a ++ b)) none) = true ∧ ∀ s, hasL (mkR (fun s => g (hasL a s) (hasL b s)) (edgesL (a ++ b)) none) s = g (hasL a s) (hasL b s) := by
  obtain ⟨m, hm, h1, h2⟩ := edgesL_ok (a ++ b)
  have ha : Det (hasL a) (edgesL (a ++ b)) := hasL_det fun r hr hR => edges_mem (a ++ b) [[]] (List.mem_append.2 (.inl hr)) hR
  have hb : Det (hasL b) (edgesL (a ++ b)) := hasL_det fun r hr hR => edges_mem (a ++ b) [[]] (List.mem_append.2 (.inr hr)) hR
  rw [hm] at ha hb ⊢
  exact mkR_all h1 h2 fun s c hs => by simp only [ha s c hs, hb s c hs]
end Go.Proofs.Ytfklochgciijkaa

/-
  Plain facts on lists of ranges as sets of texts (layer 8): union, meet, what is left, what a list hasn't. No program in this text.
-/
namespace Go.Proofs.Ytfklochgciijkaa

/-- What is meant by a number: 1 of one of both, 2 of both, 3 of a and not b, else of none of both. -/
def gV (op : Int) (x y : Bool) : Bool :=
  match decide (op = 1) with
  | true => x || y
  | false => match decide (op = 2) with
    | true => x && y
    | false => match decide (op = 3) with
      | true => x && !y
      | false => !x && !y
def inV (op : Int) (a b : List Rng) (s : List UInt8) : Bool := gV op (hasL a s) (hasL b s)
/-- The right list of what is meant. -/
def makeV (op : Int) (a b : List Rng) : List Rng := mkR (inV op a b) (edgesL (a ++ b)) none
theorem makeV_right (op : Int) (a b : List Rng) : rightL (makeV op a b) = true := (make_ok a b (gV op)).1
theorem makeV_has (op : Int) (a b : List Rng) (s : List UInt8) : hasL (makeV op a b) s = gV op (hasL a s) (hasL b s) := (make_ok a b (gV op)).2 s
theorem makeV_unique {op : Int} {a b u : List Rng} (h : rightL u = true) (hs : ∀ s, hasL u s = gV op (hasL a s) (hasL b s)) : u = makeV op a b :=
  rightL_unique h (makeV_right op a b) fun s => by rw [hs, makeV_has]
theorem gV1 (x y : Bool) : gV 1 x y = (x || y) := rfl
theorem gV2 (x y : Bool) : gV 2 x y = (x && y) := rfl
theorem gV3 (x y : Bool) : gV 3 x y = (x && !y) := rfl
theorem gV4 (x y : Bool) : gV 4 x y = (!x && !y) := rfl
theorem hasL_nil (s : List UInt8) : hasL [] s = false := rfl
/-- The right list of a list's texts. -/
def normV (a : List Rng) : List Rng := makeV 1 a []
def notV (a : List Rng) : List Rng := makeV 4 a []
theorem normV_has (a : List Rng) (s : List UInt8) : hasL (normV a) s = hasL a s := by rw [normV, makeV_has, gV1, hasL_nil, Bool.or_false]
theorem notV_has (a : List Rng) (s : List UInt8) : hasL (notV a) s = !hasL a s := by rw [notV, makeV_has, gV4, hasL_nil, Bool.not_false, Bool.and_true]
theorem normV_right {a : List Rng} (h : rightL a = true) : normV a = a := (makeV_unique h fun s => by rw [gV1, hasL_nil, Bool.or_false]).symm
instance : DecidableEq Rng := fun r t => match decEq r.lo t.lo, decEq r.hi t.hi, decEq r.op t.op with
  | .isTrue h1, .isTrue h2, .isTrue h3 => .isTrue (rng_ext h1 h2 h3)
  | .isFalse h, _, _ => .isFalse fun e => h (by rw [e])
  | _, .isFalse h, _ => .isFalse fun e => h (by rw [e])
  | _, _, .isFalse h => .isFalse fun e => h (by rw [e])
def sameV (a b : List Rng) : Bool := decide (normV a = normV b)
def withinV (a b : List Rng) : Bool := (makeV 3 a b).isEmpty
theorem rightL_empty {u : List Rng} (h : rightL u = true) (hs : ∀ s, hasL u s = false) : u = [] := rightL_unique h rfl fun s => by rw [hs]; rfl
theorem sameV_iff {a b : List Rng} : sameV a b = true ↔ ∀ s, hasL a s = hasL b s := by
  unfold sameV
  rw [decide_eq_true_eq]
  constructor
  · intro h s; rw [← normV_has a, h, normV_has]
  · intro h; exact rightL_unique (makeV_right _ _ _) (makeV_right _ _ _) fun s => by rw [normV_has, normV_has, h]
theorem withinV_iff {a b : List Rng} : withinV a b = true ↔ ∀ s, hasL a s = true → hasL b s = true := by
  unfold withinV
  rw [List.isEmpty_iff]
  constructor
  · intro h s hs
    have := makeV_has 3 a b s
    rw [h, hasL_nil, gV3, hs, Bool.true_and] at this
    cases hb : hasL b s with
    | true => rfl
    | false => rw [hb] at this; cases this
  · intro h
    refine rightL_empty (makeV_right _ _ _) fun s => ?_
    rw [makeV_has, gV3]
    cases ha : hasL a s with
    | false => rfl
    | true => rw [h s ha]; rfl
theorem sameV_within (a b : List Rng) : sameV a b = (withinV a b && withinV b a) := by
  rw [Bool.eq_iff_iff, Bool.and_eq_true, sameV_iff, withinV_iff, withinV_iff]
  constructor
  · intro h; exact ⟨fun s e => by rw [← h]; exact e, fun s e => by rw [h]; exact e⟩
  · intro ⟨h1, h2⟩ s
    cases ha : hasL a s with
    | true => exact (h1 s ha).symm
    | false => cases hb : hasL b s with
      | false => rfl
      | true => rw [h2 s hb] at ha; cases ha
theorem notV_notV (a : List Rng) : sameV (notV (notV a)) a = true := sameV_iff.2 fun s => by rw [notV_has, notV_has, Bool.not_not]
theorem not_union (a b : List Rng) : sameV (notV (makeV 1 a b)) (makeV 2 (notV a) (notV b)) = true := sameV_iff.2 fun s => by
  rw [notV_has, makeV_has, makeV_has, notV_has, notV_has, gV1, gV2, Bool.not_or]
theorem less_meet (a b : List Rng) : sameV (makeV 1 (makeV 3 a b) (makeV 2 a b)) a = true := sameV_iff.2 fun s => by
  rw [makeV_has, makeV_has, makeV_has, gV1, gV2, gV3]; cases hasL a s <;> cases hasL b s <;> rfl
theorem meet_union (a b c : List Rng) : makeV 2 a (makeV 1 b c) = makeV 1 (makeV 2 a b) (makeV 2 a c) := makeV_unique (makeV_right _ _ _) fun s => by
  rw [makeV_has, makeV_has, makeV_has, makeV_has, gV1, gV1, gV2, gV2, gV2]; cases hasL a s <;> cases hasL b s <;> cases hasL c s <;> rfl
theorem union_meet (a b c : List Rng) : makeV 1 a (makeV 2 b c) = makeV 2 (makeV 1 a b) (makeV 1 a c) := makeV_unique (makeV_right _ _ _) fun s => by
  rw [makeV_has, makeV_has, makeV_has, makeV_has, gV1, gV1, gV1, gV2, gV2]; cases hasL a s <;> cases hasL b s <;> cases hasL c s <;> rfl
theorem less_union (a b c : List Rng) : makeV 3 (makeV 1 a b) c = makeV 1 (makeV 3 a c) (makeV 3 b c) := makeV_unique (makeV_right _ _ _) fun s => by
  rw [makeV_has, makeV_has, makeV_has, makeV_has, gV1, gV1, gV3, gV3, gV3]; cases hasL a s <;> cases hasL b s <;> cases hasL c s <;> rfl
theorem union_comm (a b : List Rng) : makeV 1 a b = makeV 1 b a := makeV_unique (makeV_right _ _ _) fun s => by rw [makeV_has, gV1, gV1, Bool.or_comm]
theorem norm_append (a b : List Rng) : normV (a ++ b) = makeV 1 a b := makeV_unique (makeV_right _ _ _) fun s => by rw [normV_has, hasL_append, gV1]
/-- How many ranges, and how long their texts. -/
def SmallL (n : Nat) (l : List Rng) : Prop := l.length ≤ n ∧ ∀ r ∈ l, r.lo.length ≤ 1000 ∧ r.hi.length ≤ 1000
theorem rightL_all : ∀ {l : List Rng}, rightL l = true → ∀ r ∈ l, rightR r = true
  | [], _, _, h => by cases h
  | t :: l, h, r, hr => by
    rcases List.mem_cons.1 hr with rfl | hr
    · exact rightL_head h
    · exact rightL_all (rightL_tail h) r hr
theorem mkR_len (f : List UInt8 → Bool) : ∀ (es : List (List UInt8)) (o : Option (List UInt8)), (mkR f es o).length ≤ es.length + 1
  | [], none => by simp [mkR]
  | [], some lo => by simp [mkR]
  | e :: es, none => by
    rw [mkR]
    cases f e
    · have := mkR_len f es none; simp; omega
    · have := mkR_len f es (some e); simp; omega
  | e :: es, some lo => by
    rw [mkR]
    cases f e
    · have := mkR_len f es none; simp; omega
    · have := mkR_len f es (some lo); simp; omega
theorem putL_len : ∀ (l : List (List UInt8)) (s : List UInt8), (putL l s).length ≤ l.length + 1
  | [], s => by simp [putL]
  | x :: l, s => by
    have := putL_len l s
    rw [putL]
    cases ltB x s with
    | true => simp; omega
    | false => cases decide (x = s) <;> simp
theorem addE_len (E : List (List UInt8)) (r : Rng) : (addE E r).length ≤ E.length + 2 := by
  unfold addE
  have h1 := putL_len E r.lo
  have h2 := putL_len (putL E r.lo) r.hi
  cases rightR r with
  | false => simp
  | true => cases r.op <;> simp <;> omega
theorem edges_len : ∀ (l : List Rng) (E : List (List UInt8)), (l.foldl addE E).length ≤ E.length + 2 * l.length
  | [], E => by simp
  | r :: l, E => by
    have h1 := edges_len l (addE E r)
    have h2 := addE_len E r
    simp only [List.foldl_cons, List.length_cons]
    omega
theorem edgesL_len (l : List Rng) : (edgesL l).length ≤ 1 + 2 * l.length := edges_len l [[]]
theorem makeV_small (op : Int) {a b : List Rng} {n m : Nat} (ha : SmallL n a) (hb : SmallL m b) : SmallL (2 * (n + m) + 2) (makeV op a b) := by
  refine ⟨?_, fun r hr => ?_⟩
  · have h1 := mkR_len (inV op a b) (edgesL (a ++ b)) none
    have h2 := edgesL_len (a ++ b)
    rw [List.length_append] at h2
    have h3 := ha.1
    have h4 := hb.1
    unfold makeV
    omega
  · have := rightL_all (makeV_right op a b) r hr
    have h1 := rightR_lo this
    have h2 := rightR_hi this
    omega
theorem smallL_nil (n : Nat) : SmallL n [] := ⟨by simp, by simp⟩
theorem SmallL.mono {n m : Nat} {l : List Rng} (h : SmallL n l) (hm : n ≤ m) : SmallL m l := ⟨Nat.le_trans h.1 hm, h.2⟩
end Go.Proofs.Ytfklochgciijkaa

/-
  Plain facts on filters (layer 9): which are right, which texts they have, which list of ranges. No program in this text.
-/
namespace Go.Proofs.Ytfklochgciijkaa

/-- A node of a filter. -/
structure Nd where
  op : Int
  kids : Int
  lo : List UInt8
  hi : List UInt8
/-- May a node be, but for what it finds? -/
def nodeV (n : Nd) : Bool :=
  if n.op = 1 ∨ n.op = 2 then decide (n.kids = 0) && (n.lo.isEmpty && n.hi.isEmpty)
  else if n.op = 3 then decide (n.kids = 0) && (decide (n.lo.length ≤ 16) && n.hi.isEmpty)
  else if n.op = 4 then decide (n.kids = 0) && rightR ⟨n.lo, n.hi, false⟩
  else if n.op = 5 then decide (n.kids = 0) && (decide (n.lo.length ≤ 17) && n.hi.isEmpty)
  else n.lo.isEmpty && n.hi.isEmpty && (decide (n.op = 6 ∧ n.kids = 1) || decide ((n.op = 7 ∨ n.op = 8) ∧ 1 ≤ n.kids ∧ n.kids ≤ 32))
def kidsN (n : Nd) : Nat := n.kids.toNat
theorem nodeV_kids {n : Nd} (h : nodeV n = true) : 0 ≤ n.kids ∧ n.kids ≤ 32 := by
  unfold nodeV at h
  split at h
  · simp only [Bool.and_eq_true, decide_eq_true_eq] at h; omega
  · split at h
    · simp only [Bool.and_eq_true, decide_eq_true_eq] at h; omega
    · split at h
      · simp only [Bool.and_eq_true, decide_eq_true_eq] at h; omega
      · split at h
        · simp only [Bool.and_eq_true, decide_eq_true_eq] at h; omega
        · simp only [Bool.and_eq_true, Bool.or_eq_true, decide_eq_true_eq] at h
          rcases h.2 with h | h <;> omega
theorem nodeV_op {n : Nd} (h : nodeV n = true) : 1 ≤ n.op ∧ n.op ≤ 8 := by
  unfold nodeV at h
  split at h
  · omega
  · split at h
    · omega
    · split at h
      · omega
      · split at h
        · omega
        · simp only [Bool.and_eq_true, Bool.or_eq_true, decide_eq_true_eq] at h
          rcases h.2 with h | h <;> omega
/-- From the last node down: so many filters taken off. -/
def cntV : Nat → List Nd → Option (List Nd)
  | 0, R => some R
  | _ + 1, [] => none
  | k + 1, n :: R => match nodeV n with
    | true => cntV (k + kidsN n) R
    | false => none
/-- From the first node on: how many filters stand open. -/
def depV : List Nd → Nat → Option Nat
  | [], d => some d
  | n :: l, d => match nodeV n && decide (kidsN n ≤ d) with
    | true => depV l (d - kidsN n + 1)
    | false => none
theorem cntV_zero (R : List Nd) : cntV 0 R = some R := by cases R <;> rfl
theorem cntV_node {k : Nat} {n : Nd} {R : List Nd} (h : nodeV n = true) : cntV (k + 1) (n :: R) = cntV (k + kidsN n) R := by rw [cntV, h]
theorem cntV_wrong {k : Nat} {n : Nd} {R : List Nd} (h : nodeV n = false) : cntV (k + 1) (n :: R) = none := by rw [cntV, h]
theorem cntV_add : ∀ (R : List Nd) (j k : Nat), cntV (j + k) R = (cntV j R).bind (cntV k)
  | R, 0, k => by rw [Nat.zero_add, cntV_zero]; rfl
  | [], j + 1, k => by rw [show j + 1 + k = (j + k) + 1 by omega]; rfl
  | n :: R, j + 1, k => by
    rw [show j + 1 + k = (j + k) + 1 by omega]
    cases h : nodeV n with
    | true => rw [cntV_node h, cntV_node h, show j + k + kidsN n = (j + kidsN n) + k by omega, cntV_add R (j + kidsN n) k]
    | false => rw [cntV_wrong h, cntV_wrong h]; rfl
theorem cntV_suffix : ∀ (R : List Nd) (k : Nat) {R' : List Nd}, cntV k R = some R' → R' <:+ R
  | R, 0, R', h => by rw [cntV_zero] at h; injection h with h; subst h; exact List.suffix_refl _
  | [], k + 1, R', h => by cases h
  | n :: R, k + 1, R', h => by
    cases hn : nodeV n with
    | true => rw [cntV_node hn] at h; exact (cntV_suffix R _ h).trans (List.suffix_cons n R)
    | false => rw [cntV_wrong hn] at h; cases h
theorem depV_node {n : Nd} {l : List Nd} {d : Nat} (h : nodeV n = true) (hk : kidsN n ≤ d) : depV (n :: l) d = depV l (d - kidsN n + 1) := by rw [depV, h, decide_eq_true hk]; rfl
theorem depV_wrong {n : Nd} {l : List Nd} {d : Nat} (h : nodeV n = false ∨ ¬ kidsN n ≤ d) : depV (n :: l) d = none := by
  rw [depV]
  rcases h with h | h
  · rw [h]; rfl
  · rw [decide_eq_false h, Bool.and_false]
theorem depV_append : ∀ (a b : List Nd) (d : Nat), depV (a ++ b) d = (depV a d).bind (depV b)
  | [], b, d => rfl
  | n :: a, b, d => by
    rw [List.cons_append]
    by_cases h : nodeV n = true ∧ kidsN n ≤ d
    · rw [depV_node h.1 h.2, depV_node h.1 h.2, depV_append a b]
    · have h' : nodeV n = false ∨ ¬ kidsN n ≤ d := by
        cases hn : nodeV n with
        | false => exact .inl rfl
        | true => exact .inr fun hk => h ⟨hn, hk⟩
      rw [depV_wrong h', depV_wrong h']; rfl
theorem depV_up : ∀ (a : List Nd) (d e k : Nat), depV a d = some e → depV a (d + k) = some (e + k)
  | [], d, e, k, h => by injection h with h; subst h; rfl
  | n :: a, d, e, k, h => by
    by_cases hn : nodeV n = true ∧ kidsN n ≤ d
    · rw [depV_node hn.1 hn.2] at h
      rw [depV_node hn.1 (by omega), show d + k - kidsN n + 1 = (d - kidsN n + 1) + k by omega]
      exact depV_up a _ e k h
    · have h' : nodeV n = false ∨ ¬ kidsN n ≤ d := by
        cases hm : nodeV n with
        | false => exact .inl rfl
        | true => exact .inr fun hk => hn ⟨hm, hk⟩
      rw [depV_wrong h'] at h; cases h
theorem depV_one {n : Nd} {d e : Nat} : depV [n] d = some e ↔ nodeV n = true ∧ kidsN n ≤ d ∧ e = d - kidsN n + 1 := by
  by_cases h : nodeV n = true ∧ kidsN n ≤ d
  · rw [depV_node h.1 h.2]
    show some (d - kidsN n + 1) = some e ↔ _
    constructor
    · intro h1; injection h1 with h1; exact ⟨h.1, h.2, h1.symm⟩
    · rintro ⟨_, _, h1⟩; rw [h1]
  · have h' : nodeV n = false ∨ ¬ kidsN n ≤ d := by
      cases hm : nodeV n with
      | false => exact .inl rfl
      | true => exact .inr fun hk => h ⟨hm, hk⟩
    rw [depV_wrong h']
    constructor
    · intro h1; cases h1
    · rintro ⟨h1, h2, _⟩; exact absurd ⟨h1, h2⟩ h
/-- Both ways tell the same filters. -/
theorem cnt_dep : ∀ (R : List Nd) (k : Nat), cntV k R = some [] ↔ depV R.reverse 0 = some k
  | [], 0 => by simp [cntV, depV]
  | [], k + 1 => by simp [cntV, depV]
  | n :: R, k => by
    rw [List.reverse_cons, depV_append]
    cases k with
    | zero =>
      rw [cntV_zero]
      constructor
      · intro h; cases h
      · intro h
        cases hd : depV R.reverse 0 with
        | none => rw [hd] at h; cases h
        | some d =>
          rw [hd] at h
          have := (depV_one (n := n) (d := d) (e := 0)).1 h
          omega
    | succ k =>
      cases hn : nodeV n with
      | false =>
        rw [cntV_wrong hn]
        constructor
        · intro h; cases h
        · intro h
          cases hd : depV R.reverse 0 with
          | none => rw [hd] at h; cases h
          | some d =>
            rw [hd] at h
            have := ((depV_one (n := n) (d := d) (e := k + 1)).1 h).1
            rw [hn] at this; cases this
      | true =>
        rw [cntV_node hn, cnt_dep R (k + kidsN n)]
        constructor
        · intro h
          rw [h]
          exact (depV_one (n := n)).2 ⟨hn, by omega, by omega⟩
        · intro h
          cases hd : depV R.reverse 0 with
          | none => rw [hd] at h; cases h
          | some d =>
            rw [hd] at h
            obtain ⟨_, h2, h3⟩ := (depV_one (n := n) (d := d) (e := k + 1)).1 h
            rw [show d = k + kidsN n by omega]
/-- A right filter. -/
def rightN (l : List Nd) : Bool := decide (1 ≤ l.length) && decide (l.length ≤ 32) && decide (depV l 0 = some 1)
theorem rightN_iff {l : List Nd} : rightN l = true ↔ 1 ≤ l.length ∧ l.length ≤ 32 ∧ depV l 0 = some 1 := by
  unfold rightN
  simp only [Bool.and_eq_true, decide_eq_true_eq, and_assoc]
/-- Where the filter begins whose last node stands ahead of a place; -1: it is none. -/
def begV (l : List Nd) (p : Nat) : Int := match cntV 1 (l.take p).reverse with
  | some R => (R.length : Nat)
  | none => -1
theorem rightN_beg {l : List Nd} : rightN l = (decide (1 ≤ l.length) && (decide (l.length ≤ 32) && decide (begV l l.length = 0))) := by
  have key : begV l l.length = 0 ↔ depV l 0 = some 1 := by
    have h := cnt_dep l.reverse 1
    rw [List.reverse_reverse] at h
    rw [← h]
    unfold begV
    rw [List.take_length]
    cases hc : cntV 1 l.reverse with
    | none => simp
    | some R => simp
  rw [Bool.eq_iff_iff, rightN_iff]
  simp only [Bool.and_eq_true, decide_eq_true_eq]
  rw [key]

/-! What it has. -/
abbrev TxtP := List UInt8 → Bool
def valN (n : Nd) (ks : List TxtP) : TxtP := fun s =>
  if n.op = 1 then true
  else if n.op = 3 then n.lo.isPrefixOf s
  else if n.op = 4 then hasR ⟨n.lo, n.hi, false⟩ s
  else if n.op = 5 then !ltB s n.lo
  else if n.op = 6 then !(ks.any fun k => k s)
  else if n.op = 7 then ks.all fun k => k s
  else if n.op = 8 then ks.any fun k => k s
  else false
/-- What stands open, the last one first. -/
def evV : List Nd → List TxtP → List TxtP
  | [], st => st
  | n :: l, st => evV l (valN n (st.take (kidsN n)) :: st.drop (kidsN n))
theorem evV_append : ∀ (a b : List Nd) (st : List TxtP), evV (a ++ b) st = evV b (evV a st)
  | [], _, _ => rfl
  | n :: a, b, st => by rw [List.cons_append, evV, evV, evV_append a b]
theorem evV_len : ∀ (a : List Nd) (st : List TxtP) (e : Nat), depV a st.length = some e → (evV a st).length = e
  | [], st, e, h => by injection h
  | n :: a, st, e, h => by
    by_cases hn : nodeV n = true ∧ kidsN n ≤ st.length
    · rw [depV_node hn.1 hn.2] at h
      rw [evV]
      refine evV_len a _ e ?_
      rw [List.length_cons, List.length_drop]; exact h
    · have h' : nodeV n = false ∨ ¬ kidsN n ≤ st.length := by
        cases hm : nodeV n with
        | false => exact .inl rfl
        | true => exact .inr fun hk => hn ⟨hm, hk⟩
      rw [depV_wrong h'] at h; cases h
theorem evV_up : ∀ (a : List Nd) (st tt : List TxtP) (e : Nat), depV a st.length = some e → evV a (st ++ tt) = evV a st ++ tt
  | [], _, _, _, _ => rfl
  | n :: a, st, tt, e, h => by
    by_cases hn : nodeV n = true ∧ kidsN n ≤ st.length
    · rw [depV_node hn.1 hn.2] at h
      rw [evV, evV, List.take_append_of_le_length hn.2, List.drop_append_of_le_length hn.2, ← List.cons_append]
      refine evV_up a _ tt e ?_
      rw [List.length_cons, List.length_drop]; exact h
    · have h' : nodeV n = false ∨ ¬ kidsN n ≤ st.length := by
        cases hm : nodeV n with
        | false => exact .inl rfl
        | true => exact .inr fun hk => hn ⟨hm, hk⟩
      rw [depV_wrong h'] at h; cases h
/-- What stands open behind a list's first nodes. -/
def stkV (l : List Nd) : List TxtP := evV l []
def topV (l : List Nd) : TxtP := (stkV l).headD fun _ => false
theorem stkV_snoc (l : List Nd) (n : Nd) : stkV (l ++ [n]) = valN n ((stkV l).take (kidsN n)) :: (stkV l).drop (kidsN n) := by
  unfold stkV; rw [evV_append]; rfl
theorem topV_snoc (l : List Nd) (n : Nd) : topV (l ++ [n]) = valN n ((stkV l).take (kidsN n)) := by unfold topV; rw [stkV_snoc]; rfl
/-- Filters taken off: what stood open below them. -/
theorem cnt_stk : ∀ (R : List Nd) (k d : Nat), depV R.reverse 0 = some d → k ≤ d → ∃ R', cntV k R = some R' ∧ depV R'.reverse 0 = some (d - k) ∧ stkV R'.reverse = (stkV R.reverse).drop k
  | R, 0, d, h, _ => ⟨R, cntV_zero R, h, rfl⟩
  | [], k + 1, d, h, hk => by
    have : some 0 = some d := h
    injection this with this
    omega
  | n :: R, k + 1, d, h, hk => by
    rw [List.reverse_cons, depV_append] at h
    cases hd : depV R.reverse 0 with
    | none => rw [hd] at h; cases h
    | some e =>
      rw [hd] at h
      obtain ⟨h1, h2, h3⟩ := (depV_one (n := n) (d := e) (e := d)).1 h
      obtain ⟨R', h4, h5, h6⟩ := cnt_stk R (k + kidsN n) e hd (by omega)
      refine ⟨R', by rw [cntV_node h1]; exact h4, by rw [h5]; congr 1; omega, ?_⟩
      rw [h6, List.reverse_cons, stkV_snoc, List.drop_succ_cons, List.drop_drop]
      congr 1
      omega
def matchN (l : List Nd) (s : List UInt8) : Bool := rightN l && topV l s

/-! What is built of filters. -/
def joinV (op : Int) (ls : List (List Nd)) : List Nd := ls.flatten ++ [⟨op, (ls.length : Nat), [], []⟩]
def andV (ls : List (List Nd)) : List Nd := match ls with
  | [] => [⟨1, 0, [], []⟩]
  | a :: r => joinV 7 (a :: r)
def orV (ls : List (List Nd)) : List Nd := match ls with
  | [] => [⟨2, 0, [], []⟩]
  | a :: r => joinV 8 (a :: r)
def notN (a : List Nd) : List Nd := a ++ [⟨6, 1, [], []⟩]
theorem not_right {a : List Nd} (h : rightN a = true) (hl : a.length ≤ 31) : rightN (notN a) = true ∧ ∀ s, topV (notN a) s = !topV a s := by
  obtain ⟨h1, h2, h3⟩ := rightN_iff.1 h
  have hz := evV_len a [] 1 h3
  constructor
  · rw [rightN_iff]
    unfold notN
    rw [List.length_append, depV_append, h3]
    exact ⟨by simp, by simp; omega, rfl⟩
  · intro s
    unfold notN
    rw [topV_snoc]
    unfold topV
    have hz : (stkV a).length = 1 := hz
    match hs : stkV a, hz with
    | [f], _ => simp [valN, kidsN]
theorem two_right {a b : List Nd} (ha : rightN a = true) (hb : rightN b = true) (hl : a.length + b.length ≤ 31) (op : Int) (ho : op = 7 ∨ op = 8) :
    rightN (joinV op [a, b]) = true ∧ ∀ s, topV (joinV op [a, b]) s = match decide (op = 7) with | true => topV a s && topV b s | false => topV a s || topV b s := by
  obtain ⟨h1, h2, h3⟩ := rightN_iff.1 ha
  obtain ⟨k1, k2, k3⟩ := rightN_iff.1 hb
  have hza : (stkV a).length = 1 := evV_len a [] 1 h3
  have hzb : (stkV b).length = 1 := evV_len b [] 1 k3
  have hd : depV (a ++ b) 0 = some 2 := by
    rw [depV_append, h3]
    exact depV_up b 0 1 1 k3
  have he : stkV (a ++ b) = stkV b ++ stkV a := by
    unfold stkV
    rw [evV_append]
    exact evV_up b [] (evV a []) 1 k3
  have hj : joinV op [a, b] = (a ++ b) ++ [⟨op, 2, [], []⟩] := by simp [joinV]
  have hn : nodeV ⟨op, 2, [], []⟩ = true := by rcases ho with rfl | rfl <;> rfl
  constructor
  · rw [rightN_iff, hj, List.length_append, List.length_append, depV_append, hd]
    refine ⟨by simp, by simp; omega, ?_⟩
    exact (depV_one).2 ⟨hn, Nat.le_refl _, rfl⟩
  · intro s
    rw [hj, topV_snoc, he]
    unfold topV
    match hs : stkV a, hza with
    | [f], _ => match ht : stkV b, hzb with
      | [g], _ =>
        rcases ho with rfl | rfl
        · simp [valN, kidsN, Bool.and_comm]
        · simp [valN, kidsN, Bool.or_comm]

/-! Its list of ranges. -/
def leafR (n : Nd) : Option Rng :=
  if n.op = 3 then some (prefixR n.lo) else if n.op = 4 then some ⟨n.lo, n.hi, false⟩ else if n.op = 5 then some ⟨n.lo, [], true⟩ else none
def leavesL (l : List Nd) : List Rng := l.filterMap leafR
theorem det_has {r : Rng} {E : List (List UInt8)} (h1 : r.lo ∈ E) (h2 : r.op = false → r.hi ∈ E) : Det (hasR r) E := fun s c h => by
  unfold hasR aheadR
  rw [h _ h1]
  cases ho : r.op with
  | true => rfl
  | false => rw [h _ (h2 ho)]
theorem det_leaf {n : Nd} {r : Rng} (hn : nodeV n = true) (hr : leafR n = some r) : rightR r = true ∧ ∀ ks s, valN n ks s = hasR r s := by
  unfold leafR at hr
  unfold nodeV at hn
  by_cases h3 : n.op = 3
  · rw [if_pos h3] at hr
    injection hr with hr
    subst hr
    rw [if_neg (by omega), if_pos h3] at hn
    simp only [Bool.and_eq_true, decide_eq_true_eq] at hn
    exact ⟨prefixR_right hn.2.1, fun ks s => by unfold valN; rw [if_neg (by omega), if_pos h3, prefixR_has hn.2.1]⟩
  · rw [if_neg h3] at hr
    by_cases h4 : n.op = 4
    · rw [if_pos h4] at hr
      injection hr with hr
      subst hr
      rw [if_neg (by omega), if_neg h3, if_pos h4] at hn
      simp only [Bool.and_eq_true, decide_eq_true_eq] at hn
      exact ⟨hn.2, fun ks s => by unfold valN; rw [if_neg (by omega), if_neg h3, if_pos h4]⟩
    · rw [if_neg h4] at hr
      by_cases h5 : n.op = 5
      · rw [if_pos h5] at hr
        injection hr with hr
        subst hr
        rw [if_neg (by omega), if_neg h3, if_neg h4, if_pos h5] at hn
        simp only [Bool.and_eq_true, decide_eq_true_eq] at hn
        exact ⟨rightR_iff.2 ⟨hn.2.1, by simp, fun _ => rfl, fun h => by cases h⟩, fun ks s => by unfold valN; rw [if_neg (by omega), if_neg h3, if_neg h4, if_pos h5, hasR_open hn.2.1]⟩
      · rw [if_neg h5] at hr; cases hr
theorem det_val {n : Nd} {ks : List TxtP} {E : List (List UInt8)} (hn : nodeV n = true) (hE : ∀ r, leafR n = some r → Det (hasR r) E) (hk : ∀ k ∈ ks, Det k E) : Det (valN n ks) E := fun s c h => by
  cases hr : leafR n with
  | some r => rw [(det_leaf hn hr).2, (det_leaf hn hr).2]; exact hE r hr s c h
  | none =>
    have h3 : n.op ≠ 3 := fun e => by unfold leafR at hr; rw [if_pos e] at hr; cases hr
    have h4 : n.op ≠ 4 := fun e => by unfold leafR at hr; rw [if_neg h3, if_pos e] at hr; cases hr
    have h5 : n.op ≠ 5 := fun e => by unfold leafR at hr; rw [if_neg h3, if_neg h4, if_pos e] at hr; cases hr
    have e1 : ∀ k ∈ ks, k s = k c := fun k hk' => hk k hk' s c h
    have e2 : (ks.any fun k => k s) = ks.any fun k => k c := by
      rw [Bool.eq_iff_iff, List.any_eq_true, List.any_eq_true]
      constructor
      · rintro ⟨k, hk', hs⟩; exact ⟨k, hk', by rw [← e1 k hk']; exact hs⟩
      · rintro ⟨k, hk', hs⟩; exact ⟨k, hk', by rw [e1 k hk']; exact hs⟩
    have e3 : (ks.all fun k => k s) = ks.all fun k => k c := by
      rw [Bool.eq_iff_iff, List.all_eq_true, List.all_eq_true]
      constructor
      · intro h1 k hk'; rw [← e1 k hk']; exact h1 k hk'
      · intro h1 k hk'; rw [e1 k hk']; exact h1 k hk'
    unfold valN
    rw [if_neg h3, if_neg h4, if_neg h5, if_neg h3, if_neg h4, if_neg h5, e2, e3]
theorem det_ev : ∀ (l : List Nd) (st : List TxtP) (E : List (List UInt8)) (d : Nat), (∀ n ∈ l, nodeV n = true → ∀ r, leafR n = some r → Det (hasR r) E) → (∀ k ∈ st, Det k E) → depV l st.length = some d → ∀ k ∈ evV l st, Det k E
  | [], _, _, _, _, hs, _ => hs
  | n :: l, st, E, d, hl, hs, hd => by
    by_cases hn : nodeV n = true ∧ kidsN n ≤ st.length
    · rw [depV_node hn.1 hn.2] at hd
      rw [evV]
      refine det_ev l _ E d (fun m hm => hl m (List.mem_cons_of_mem _ hm)) (fun k hk => ?_) (by rw [List.length_cons, List.length_drop]; exact hd)
      rcases List.mem_cons.1 hk with rfl | hk
      · exact det_val hn.1 (hl n (List.mem_cons_self ..) hn.1) fun k hk => hs k (List.mem_of_mem_take hk)
      · exact hs k (List.mem_of_mem_drop hk)
    · have h' : nodeV n = false ∨ ¬ kidsN n ≤ st.length := by
        cases hm : nodeV n with
        | false => exact .inl rfl
        | true => exact .inr fun hk => hn ⟨hm, hk⟩
      rw [depV_wrong h'] at hd; cases hd
def rangesN (l : List Nd) : List Rng := match rightN l with
  | true => mkR (matchN l) (edgesL (leavesL l)) none
  | false => []
theorem rangesN_ok (l : List Nd) : rightL (rangesN l) = true ∧ ∀ s, hasL (rangesN l) s = matchN l s := by
  unfold rangesN
  cases hr : rightN l with
  | false => exact ⟨rfl, fun s => by unfold matchN; rw [hr]; rfl⟩
  | true =>
    obtain ⟨_, _, h3⟩ := rightN_iff.1 hr
    obtain ⟨m, h4, h5, h6⟩ := edgesL_ok (leavesL l)
    have hd : Det (matchN l) (edgesL (leavesL l)) := fun s c h => by
      unfold matchN
      have hz : (stkV l).length = 1 := evV_len l [] 1 h3
      have hk := det_ev l [] (edgesL (leavesL l)) 1 (fun n hn hv r hr => by
        have h7 : r ∈ leavesL l := List.mem_filterMap.2 ⟨n, hn, hr⟩
        obtain ⟨h8, h9⟩ := edges_mem (leavesL l) [[]] h7 (det_leaf hv hr).1
        exact det_has h8 h9) (by simp) h3
      unfold topV
      match hs : stkV l, hz with
      | [f], _ =>
        have := hk f (by show f ∈ stkV l; rw [hs]; simp)
        show (_ && f s) = (_ && f c)
        rw [this s c h]
    rw [h4] at hd ⊢
    exact mkR_all h5 h6 hd
end Go.Proofs.Ytfklochgciijkaa

/-
  Plain facts on lists of ranges and filters as bytes, there and back: no program is named here.
-/
namespace Go.Proofs.Ytfklochgciijkaa

/-- A text's bytes. -/
def txtB (s : List UInt8) : List UInt8 := putV s.length ++ s
def rngB (r : Rng) : List UInt8 := txtB r.lo ++ (match r.op with | true => [1] | false => 0 :: txtB r.hi)
def rngsB (l : List Rng) : List UInt8 := putV l.length ++ l.flatMap rngB
/-- One range, from where a reader stands: what it reads, what is left, the error. -/
def rngR (l : List UInt8) (e : Int) : Rng × List UInt8 × Int :=
  let a := textR 17 l e
  let b := withinR 0 1 a.2.1 a.2.2
  if b.1 = 1 then (⟨a.1, [], true⟩, b.2)
  else
    let c := textR 17 b.2.1 b.2.2
    (⟨a.1, c.1, false⟩, c.2)
/-- Some things, one behind the other, while nothing is wrong. -/
def manyR {α : Type} (f : List UInt8 → Int → α × List UInt8 × Int) : Nat → List UInt8 → Int → List α × List UInt8 × Int
  | 0, l, e => ([], l, e)
  | n + 1, l, e => if e = 0 then ((f l e).1 :: (manyR f n (f l e).2.1 (f l e).2.2).1, (manyR f n (f l e).2.1 (f l e).2.2).2) else ([], l, e)
def allR2 {α : Type} (f : List UInt8 → Int → α × List UInt8 × Int) (most : Int) (right : List α → Bool) (b : List UInt8) : List α × Int :=
  let n := withinR 0 most b 0
  let y := manyR f n.1 n.2.1 n.2.2
  if endR y.2.1 y.2.2 ≠ 0 then ([], endR y.2.1 y.2.2)
  else match right y.1 with
    | true => (y.1, 0)
    | false => ([], 11)
def readRs (b : List UInt8) : List Rng × Int := allR2 rngR 4096 rightL b

theorem withinR_put {lo hi : Int} (n : Nat) (r : List UInt8) (h : n ≤ 281474976710656) (h1 : lo ≤ n) (h2 : (n : Int) ≤ hi) : withinR lo hi (putV n ++ r) 0 = (n, r, 0) := by
  unfold withinR
  rw [numR_put n r h, if_neg]
  show ¬ ((n : Int) < lo ∨ hi < (n : Int))
  omega
theorem textR_most {m : Int} (s r : List UInt8) (h : (s.length : Int) ≤ m) (h2 : m ≤ 281474976710656) : textR m (txtB s ++ r) 0 = (s, r, 0) := by
  have e : withinR 0 m (putV s.length ++ (s ++ r)) 0 = (s.length, s ++ r, 0) := withinR_put _ _ (by omega) (by omega) h
  unfold textR txtB
  rw [List.append_assoc, e]
  simp
theorem numR_of {l r : List UInt8} {e : Int} {n : Nat} (h : numR l e = (n, r, 0)) : e = 0 ∧ l = putV n ++ r := by
  unfold numR at h
  split at h
  · rename_i he
    refine ⟨he, ?_⟩
    split at h
    · rename_i hc
      obtain ⟨h1, h2, h3⟩ := cutV_back (l := l) (n := (cutV l).1) (k := (cutV l).2.1) (by rw [← hc])
      simp only [Prod.mk.injEq] at h
      obtain ⟨rfl, rfl, -⟩ := h
      rw [← h2, List.take_append_drop]
    · rename_i hc
      simp only [Prod.mk.injEq] at h
      omega
  · rename_i he
    simp only [Prod.mk.injEq] at h
    exact absurd h.2.2 he
theorem withinR_back {lo hi : Int} {l r : List UInt8} {e : Int} {n : Nat} (h : withinR lo hi l e = (n, r, 0)) : e = 0 ∧ l = putV n ++ r ∧ lo ≤ n ∧ (n : Int) ≤ hi := by
  unfold withinR at h
  split at h
  · rename_i hc
    simp only [Prod.mk.injEq] at h
    split at h <;> omega
  · rename_i hc
    obtain ⟨h1, h2⟩ := numR_of h
    rw [h] at hc
    exact ⟨h1, h2, by simp only at hc; omega, by simp only at hc; omega⟩
theorem textR_back {m : Int} {l s r : List UInt8} {e : Int} (h : textR m l e = (s, r, 0)) : e = 0 ∧ l = txtB s ++ r ∧ (s.length : Int) ≤ m := by
  unfold textR at h
  split at h
  · simp only [Prod.mk.injEq] at h
    split at h <;> omega
  · rename_i hc
    obtain ⟨n, l1, e1, hw⟩ : ∃ n l1 e1, withinR 0 m l e = (n, l1, e1) := ⟨_, _, _, rfl⟩
    rw [hw] at h hc
    simp only [Prod.mk.injEq] at h
    obtain ⟨rfl, rfl, rfl⟩ := h
    obtain ⟨h1, h2, -, h4⟩ := withinR_back hw
    simp only at hc
    have hl : (l1.take n).length = n := by rw [List.length_take]; omega
    refine ⟨h1, ?_, by rw [hl]; exact h4⟩
    unfold txtB
    rw [hl, h2, List.append_assoc, List.take_append_drop]
theorem putV_zero : putV 0 = [0] := putV_small (by omega)
theorem putV_one : putV 1 = [1] := putV_small (by omega)
theorem rngR_put (r : Rng) (l : List UInt8) (h : rightR r = true) : rngR (rngB r ++ l) 0 = (r, l, 0) := by
  obtain ⟨lo, hi, op⟩ := r
  unfold rightR at h
  rw [Bool.and_eq_true, decide_eq_true_eq] at h
  obtain ⟨h1, h2⟩ := h
  simp only at h1
  unfold rngR rngB
  cases op with
  | true =>
    simp only at h2 ⊢
    have hh : hi = [] := by simpa using h2
    subst hh
    rw [List.append_assoc, textR_most lo _ (by omega) (by omega)]
    simp only
    rw [show ([1] : List UInt8) ++ l = putV 1 ++ l by rw [putV_one], withinR_put 1 l (by omega) (by omega) (by omega)]
    simp
  | false =>
    simp only [Bool.and_eq_true, decide_eq_true_eq] at h2 ⊢
    rw [List.append_assoc, textR_most lo _ (by omega) (by omega)]
    simp only
    rw [show (0 :: txtB hi : List UInt8) ++ l = putV 0 ++ (txtB hi ++ l) by rw [putV_zero]; simp, withinR_put 0 _ (by omega) (by omega) (by omega)]
    simp only
    rw [if_neg (by omega), textR_most hi _ (by omega) (by omega)]
theorem rngR_back {r : Rng} {l b : List UInt8} {e : Int} (h : rngR b e = (r, l, 0)) : e = 0 ∧ b = rngB r ++ l := by
  unfold rngR at h
  obtain ⟨s, l1, e1, ha⟩ : ∃ s l1 e1, textR 17 b e = (s, l1, e1) := ⟨_, _, _, rfl⟩
  rw [ha] at h
  simp only at h
  obtain ⟨n, l2, e2, hb⟩ : ∃ n l2 e2, withinR 0 1 l1 e1 = (n, l2, e2) := ⟨_, _, _, rfl⟩
  rw [hb] at h
  simp only at h
  split at h
  · rename_i hn
    subst hn
    simp only [Prod.mk.injEq] at h
    obtain ⟨rfl, rfl, rfl⟩ := h
    obtain ⟨rfl, h2, -, -⟩ := withinR_back hb
    obtain ⟨h3, h4, -⟩ := textR_back ha
    refine ⟨h3, ?_⟩
    unfold rngB
    rw [h4, h2, putV_one, List.append_assoc]
  · rename_i hn
    obtain ⟨t, l3, e3, hc⟩ : ∃ t l3 e3, textR 17 l2 e2 = (t, l3, e3) := ⟨_, _, _, rfl⟩
    rw [hc] at h
    simp only [Prod.mk.injEq] at h
    obtain ⟨rfl, rfl, rfl⟩ := h
    obtain ⟨rfl, h5, -⟩ := textR_back hc
    obtain ⟨rfl, h2, -, hm⟩ := withinR_back hb
    obtain ⟨h3, h4, -⟩ := textR_back ha
    obtain rfl : n = 0 := by omega
    refine ⟨h3, ?_⟩
    unfold rngB
    simp only
    rw [h4, h2, h5, putV_zero]
    simp
theorem manyR_put {α : Type} {f : List UInt8 → Int → α × List UInt8 × Int} {g : α → List UInt8} : ∀ (l : List α) (r : List UInt8), (∀ x ∈ l, ∀ r, f (g x ++ r) 0 = (x, r, 0)) → manyR f l.length (l.flatMap g ++ r) 0 = (l, r, 0)
  | [], r, _ => by simp [manyR]
  | x :: l, r, h => by
    have h1 := h x (by simp) (l.flatMap g ++ r)
    have ih := manyR_put l r (fun y hy => h y (by simp [hy]))
    rw [List.flatMap_cons, List.length_cons, List.append_assoc, manyR, if_pos rfl, h1]
    simp only
    rw [ih]
theorem manyR_back {α : Type} {f : List UInt8 → Int → α × List UInt8 × Int} {g : α → List UInt8} (hf : ∀ b e x r, f b e = (x, r, 0) → e = 0 ∧ b = g x ++ r) : ∀ (n : Nat) (b : List UInt8) (e : Int) (l : List α) (r : List UInt8), manyR f n b e = (l, r, 0) → e = 0 ∧ b = l.flatMap g ++ r ∧ l.length = n
  | 0, b, e, l, r, h => by
    simp only [manyR, Prod.mk.injEq] at h
    obtain ⟨rfl, rfl, rfl⟩ := h
    exact ⟨rfl, by simp, rfl⟩
  | n + 1, b, e, l, r, h => by
    rw [manyR] at h
    split at h
    · rename_i he
      subst he
      obtain ⟨x, b1, e1, hx⟩ : ∃ x b1 e1, f b 0 = (x, b1, e1) := ⟨_, _, _, rfl⟩
      rw [hx] at h
      simp only at h
      obtain ⟨l1, b2, e2, hy⟩ : ∃ l1 b2 e2, manyR f n b1 e1 = (l1, b2, e2) := ⟨_, _, _, rfl⟩
      rw [hy] at h
      simp only [Prod.mk.injEq] at h
      obtain ⟨rfl, rfl, rfl⟩ := h
      obtain ⟨rfl, h2, h3⟩ := manyR_back hf n b1 e1 l1 b2 hy
      obtain ⟨-, h4⟩ := hf b 0 x b1 hx
      exact ⟨rfl, by rw [h4, h2, List.flatMap_cons, List.append_assoc], by rw [List.length_cons, h3]⟩
    · rename_i he
      simp only [Prod.mk.injEq] at h
      exact absurd h.2.2 he
theorem endR_zero {l : List UInt8} {e : Int} (h : endR l e = 0) : e = 0 ∧ l = [] := by
  unfold endR at h
  split at h
  · omega
  · rename_i hn
    subst h
    exact ⟨rfl, by simpa using hn⟩
theorem allR2_put {α : Type} {f : List UInt8 → Int → α × List UInt8 × Int} {g : α → List UInt8} {most : Int} {right : List α → Bool} (l : List α) (h : right l = true) (hm : (l.length : Int) ≤ most) (hm2 : most ≤ 281474976710656)
    (hf : ∀ x ∈ l, ∀ r, f (g x ++ r) 0 = (x, r, 0)) : allR2 f most right (putV l.length ++ l.flatMap g) = (l, 0) := by
  have h2 := manyR_put (f := f) (g := g) l [] hf
  rw [List.append_nil] at h2
  unfold allR2
  rw [withinR_put l.length _ (by omega) (by omega) hm]
  simp only
  rw [h2]
  simp only
  rw [if_neg (by simp [endR]), h]
theorem allR2_back {α : Type} {f : List UInt8 → Int → α × List UInt8 × Int} {g : α → List UInt8} {most : Int} {right : List α → Bool} {b : List UInt8} {l : List α} (hf : ∀ b e x r, f b e = (x, r, 0) → e = 0 ∧ b = g x ++ r)
    (h : allR2 f most right b = (l, 0)) : right l = true ∧ b = putV l.length ++ l.flatMap g ∧ (l.length : Int) ≤ most := by
  unfold allR2 at h
  obtain ⟨n, b1, e1, ha⟩ : ∃ n b1 e1, withinR 0 most b 0 = (n, b1, e1) := ⟨_, _, _, rfl⟩
  rw [ha] at h
  simp only at h
  obtain ⟨l1, b2, e2, hb⟩ : ∃ l1 b2 e2, manyR f n b1 e1 = (l1, b2, e2) := ⟨_, _, _, rfl⟩
  rw [hb] at h
  simp only at h
  split at h
  · rename_i hn
    simp only [Prod.mk.injEq] at h
    exact absurd h.2 hn
  · rename_i hn
    obtain ⟨rfl, rfl⟩ := endR_zero (Classical.not_not.1 hn)
    cases hr : right l1 with
    | false => rw [hr] at h; simp at h
    | true =>
      rw [hr] at h
      simp only [Prod.mk.injEq] at h
      obtain ⟨rfl, -⟩ := h
      obtain ⟨rfl, h2, h3⟩ := manyR_back hf n b1 e1 l1 [] hb
      obtain ⟨-, h5, -, h6⟩ := withinR_back ha
      refine ⟨hr, ?_, by rw [h3]; exact h6⟩
      rw [h3, h5, h2, List.append_nil]
theorem readRs_put (l : List Rng) (h : rightL l = true) (hm : l.length ≤ 4096) : readRs (rngsB l) = (l, 0) :=
  allR2_put l h (by omega) (by omega) fun x hx r => rngR_put x r (rightL_all h x hx)
theorem readRs_back {b : List UInt8} {l : List Rng} (h : readRs b = (l, 0)) : rngsB l = b ∧ rightL l = true :=
  have ⟨h1, h2, _⟩ := allR2_back (g := rngB) (fun _ _ _ _ hx => rngR_back hx) h
  ⟨h2.symm, h1⟩
end Go.Proofs.Ytfklochgciijkaa

/-
  Plain facts on knowledge (layer 15): which is right, what it has of a text; each knowledge has one right list; the right list of what is meant, edge by edge. No program in this text.
-/
namespace Go.Proofs.Ytfklochgciijkaa

instance : DecidableEq Rn := fun r t => match decEq r.fr t.fr, decEq r.to t.to with
  | .isTrue h1, .isTrue h2 => .isTrue (rn_ext h1 h2)
  | .isFalse h, _ => .isFalse fun e => h (by rw [e])
  | _, .isFalse h => .isFalse fun e => h (by rw [e])
instance : DecidableEq Kn := fun r t => match decEq r.rep t.rep, decEq r.runs t.runs with
  | .isTrue h1, .isTrue h2 => .isTrue (kn_ext h1 h2)
  | .isFalse h, _ => .isFalse fun e => h (by rw [e])
  | _, .isFalse h => .isFalse fun e => h (by rw [e])
/-- A piece: a range, and a set. -/
structure Pc where
  rng : Rng
  set : List Kn
theorem pc_ext {a b : Pc} (h1 : a.rng = b.rng) (h2 : a.set = b.set) : a = b := by cases a; cases b; simp_all
theorem hasK_append (a b : List Kn) (r n : Int) : hasK (a ++ b) r n = (hasK a r n || hasK b r n) := by
  unfold hasK
  rw [runsV_append, hasC_append]
  cases decide (1 ≤ r) <;> cases decide (r ≤ 16) <;> rfl
theorem hasS_append (a b : List Kn) (v : Vr) : hasS (a ++ b) v = (hasS a v || hasS b v) := by rw [hasS_hasK, hasS_hasK, hasS_hasK, hasK_append]
theorem hasS_nil (v : Vr) : hasS [] v = false := by rw [hasS_hasK, hasK_nil]
/-- What a piece has of a text. -/
def setP (p : Pc) (s : List UInt8) : List Kn := match hasR p.rng s with
  | true => p.set
  | false => []
theorem setP_yes {p : Pc} {s : List UInt8} (h : hasR p.rng s = true) : setP p s = p.set := by unfold setP; rw [h]
theorem setP_no {p : Pc} {s : List UInt8} (h : hasR p.rng s = false) : setP p s = [] := by unfold setP; rw [h]
/-- All Known of the pieces that have a text. -/
def catK : List Pc → List UInt8 → List Kn
  | [], _ => []
  | p :: k, s => setP p s ++ catK k s
theorem catK_append : ∀ (a b : List Pc) (s : List UInt8), catK (a ++ b) s = catK a s ++ catK b s
  | [], _, _ => rfl
  | p :: a, b, s => by rw [List.cons_append, catK, catK, catK_append a b, List.append_assoc]
def atK (k : List Pc) (s : List UInt8) : List Kn := ofS (catK k s)
def hasP (k : List Pc) (s : List UInt8) (v : Vr) : Bool := k.any fun p => hasR p.rng s && hasS p.set v
theorem hasP_cat : ∀ (k : List Pc) (s : List UInt8) (v : Vr), hasP k s v = hasS (catK k s) v
  | [], s, v => (hasS_nil v).symm
  | p :: k, s, v => by
    rw [catK, hasS_append, ← hasP_cat k s v]
    show ((hasR p.rng s && hasS p.set v) || hasP k s v) = _
    cases h : hasR p.rng s with
    | true => rw [setP_yes h]; rfl
    | false => rw [setP_no h, hasS_nil]; rfl
theorem hasP_at (k : List Pc) (s : List UInt8) (v : Vr) : hasP k s v = hasS (atK k s) v := by
  rw [hasP_cat, hasS_hasK, hasS_hasK, atK, ofS_has]
theorem ofS_self {s : List Kn} (h : rightS s = true) : ofS s = s := (ofS_unique h fun _ _ => rfl).symm
theorem ofS_nil : ofS [] = [] := ofS_self rfl

/-! Which are right. -/
def fullK (s : List Kn) : Bool := (match s with | [] => false | _ :: _ => true) && rightS s
theorem fullK_iff {s : List Kn} : fullK s = true ↔ s ≠ [] ∧ rightS s = true := by
  unfold fullK
  cases s <;> simp
def onePc (p : Pc) : Bool := rightR p.rng && fullK p.set
theorem onePc_iff {p : Pc} : onePc p = true ↔ rightR p.rng = true ∧ p.set ≠ [] ∧ rightS p.set = true := by
  unfold onePc; rw [Bool.and_eq_true, fullK_iff]
def gapP (p q : Pc) : Bool := !p.rng.op && (!ltB q.rng.lo p.rng.hi && !(decide (p.rng.hi = q.rng.lo) && decide (p.set = q.set)))
theorem gapP_iff {p q : Pc} : gapP p q = true ↔ p.rng.op = false ∧ ltB q.rng.lo p.rng.hi = false ∧ (p.rng.hi = q.rng.lo → p.set ≠ q.set) := by
  unfold gapP
  simp only [Bool.and_eq_true, Bool.not_eq_true', Bool.and_eq_false_iff, decide_eq_false_iff_not]
  constructor
  · rintro ⟨h1, h2, h3 | h3⟩
    · exact ⟨h1, h2, fun e => absurd e h3⟩
    · exact ⟨h1, h2, fun _ => h3⟩
  · rintro ⟨h1, h2, h3⟩
    refine ⟨h1, h2, ?_⟩
    by_cases e : p.rng.hi = q.rng.lo
    · exact .inr (h3 e)
    · exact .inl e
def rightP : List Pc → Bool
  | [] => true
  | [p] => onePc p
  | p :: q :: k => onePc p && gapP p q && rightP (q :: k)
theorem rightP_head {p : Pc} {k : List Pc} (h : rightP (p :: k) = true) : onePc p = true := by
  cases k with
  | nil => exact h
  | cons q k => unfold rightP at h; simp only [Bool.and_eq_true] at h; exact h.1.1
theorem rightP_tail {p : Pc} {k : List Pc} (h : rightP (p :: k) = true) : rightP k = true := by
  cases k with
  | nil => rfl
  | cons q k => unfold rightP at h; simp only [Bool.and_eq_true] at h; exact h.2
theorem rightP_gap {p q : Pc} {k : List Pc} (h : rightP (p :: q :: k) = true) : p.rng.op = false ∧ ltB q.rng.lo p.rng.hi = false ∧ (p.rng.hi = q.rng.lo → p.set ≠ q.set) := by
  unfold rightP at h; simp only [Bool.and_eq_true] at h; exact gapP_iff.1 h.1.2
theorem rightP_all : ∀ {k : List Pc}, rightP k = true → ∀ p ∈ k, onePc p = true
  | [], _, _, h => by cases h
  | q :: k, h, p, hp => by
    rcases List.mem_cons.1 hp with rfl | hp
    · exact rightP_head h
    · exact rightP_all (rightP_tail h) p hp
/-- What a right list has stands not ahead of its first text. -/
theorem catK_ge : ∀ {k : List Pc} {p : Pc} {s : List UInt8}, rightP (p :: k) = true → catK (p :: k) s ≠ [] → ltB s p.rng.lo = false
  | [], p, s, _, hs => by
    cases hr : hasR p.rng s with
    | true => exact hasR_ge hr
    | false => rw [catK, setP_no hr] at hs; exact absurd rfl hs
  | q :: k, p, s, h, hs => by
    cases hr : hasR p.rng s with
    | true => exact hasR_ge hr
    | false =>
      rw [catK, setP_no hr, List.nil_append] at hs
      have h1 := catK_ge (rightP_tail h) hs
      obtain ⟨h2, h3, -⟩ := rightP_gap h
      have h4 := rightR_lt (onePc_iff.1 (rightP_head h)).1 h2
      cases hc : ltB s p.rng.lo with
      | false => rfl
      | true => rw [ltB_of_lt_of_le (ltB_trans hc h4) h3] at h1; cases h1
/-- What the rest has stands not ahead of the first one's end: the first one hasn't it. -/
theorem catK_apart {p : Pc} {k : List Pc} {s : List UInt8} (h : rightP (p :: k) = true) (hs : catK k s ≠ []) : hasR p.rng s = false ∧ p.rng.op = false ∧ ltB s p.rng.hi = false := by
  cases k with
  | nil => exact absurd rfl hs
  | cons q k =>
    have h1 := catK_ge (rightP_tail h) hs
    obtain ⟨h2, h3, -⟩ := rightP_gap h
    have h4 : ltB s p.rng.hi = false := leB_trans h3 h1
    refine ⟨?_, h2, h4⟩
    cases hr : hasR p.rng s with
    | false => rfl
    | true =>
      have := hasR_ahead hr
      unfold aheadR at this
      rw [h2, Bool.false_or, h4] at this
      cases this
theorem catK_head {p : Pc} {k : List Pc} {s : List UInt8} (h : rightP (p :: k) = true) (hr : hasR p.rng s = true) : catK (p :: k) s = p.set := by
  rw [catK, setP_yes hr]
  cases hk : catK k s with
  | nil => exact List.append_nil _
  | cons x y =>
    have := (catK_apart h (by rw [hk]; exact List.cons_ne_nil _ _)).1
    rw [hr] at this; cases this
theorem catK_rest {p : Pc} {k : List Pc} {s : List UInt8} (hr : hasR p.rng s = false) : catK (p :: k) s = catK k s := by rw [catK, setP_no hr]; rfl
/-- Of right knowledge it is one piece's set, or none. -/
theorem catK_right : ∀ {k : List Pc}, rightP k = true → ∀ s, rightS (catK k s) = true
  | [], _, _ => rfl
  | p :: k, h, s => by
    cases hr : hasR p.rng s with
    | true => rw [catK_head h hr]; exact (onePc_iff.1 (rightP_head h)).2.2
    | false => rw [catK_rest hr]; exact catK_right (rightP_tail h) s
theorem atK_right {k : List Pc} (h : rightP k = true) (s : List UInt8) : atK k s = catK k s := ofS_self (catK_right h s)
theorem onePc_lo {p : Pc} (h : onePc p = true) : hasR p.rng p.rng.lo = true := hasR_lo (onePc_iff.1 h).1
theorem catK_lo {p : Pc} {k : List Pc} (h : rightP (p :: k) = true) : catK (p :: k) p.rng.lo = p.set := catK_head h (onePc_lo (rightP_head h))
theorem end_splitP {p q : Pc} {k m : List Pc} (hk : rightP (p :: k) = true) (hm : rightP (q :: m) = true) (he : p.rng.lo = q.rng.lo) (hset : p.set = q.set) (h : endLt p.rng q.rng = true) (hs : ∀ s, catK (p :: k) s = catK (q :: m) s) : False := by
  unfold endLt at h
  simp only [Bool.and_eq_true, Bool.not_eq_true'] at h
  obtain ⟨ho, h⟩ := h
  have p1 := (onePc_iff.1 (rightP_head hk)).1
  have q1 := onePc_iff.1 (rightP_head hm)
  have h1 := hs p.rng.hi
  have h2 : hasR q.rng p.rng.hi = true := by
    unfold hasR aheadR
    rw [q1.1, h, ← he, ltB_asymm (rightR_lt p1 ho)]; rfl
  rw [catK_head hm h2] at h1
  have h3 : hasR p.rng p.rng.hi = false := by
    unfold hasR aheadR; rw [ho, ltB_irrefl, Bool.false_or, Bool.and_false]
  rw [catK_rest h3] at h1
  cases k with
  | nil => exact q1.2.1 h1.symm
  | cons t k =>
    have h4 := catK_ge (rightP_tail hk) (by rw [h1]; exact q1.2.1)
    obtain ⟨-, h5, h6⟩ := rightP_gap hk
    have h7 : p.rng.hi = t.rng.lo := ltB_total h4 h5
    refine h6 h7 ?_
    rw [hset, ← h1, h7]
    exact catK_lo (rightP_tail hk)
/-- P15.4: two right lists that have the same of all texts are the same. -/
theorem rightP_unique : ∀ {k m : List Pc}, rightP k = true → rightP m = true → (∀ s, catK k s = catK m s) → k = m
  | [], [], _, _, _ => rfl
  | [], q :: m, _, hm, h => by
    have := h q.rng.lo
    rw [catK_lo hm] at this
    exact absurd this.symm (onePc_iff.1 (rightP_head hm)).2.1
  | p :: k, [], hk, _, h => by
    have := h p.rng.lo
    rw [catK_lo hk] at this
    exact absurd this (onePc_iff.1 (rightP_head hk)).2.1
  | p :: k, q :: m, hk, hm, h => by
    have p1 := onePc_iff.1 (rightP_head hk)
    have q1 := onePc_iff.1 (rightP_head hm)
    have e1 : p.rng.lo = q.rng.lo := by
      have h1 : catK (q :: m) p.rng.lo ≠ [] := by rw [← h, catK_lo hk]; exact p1.2.1
      have h2 : catK (p :: k) q.rng.lo ≠ [] := by rw [h, catK_lo hm]; exact q1.2.1
      exact ltB_total (catK_ge hm h1) (catK_ge hk h2)
    have e0 : p.set = q.set := by
      have h1 := h p.rng.lo
      rwa [catK_lo hk, e1, catK_lo hm] at h1
    have e2 : endLt p.rng q.rng = false := by
      cases hc : endLt p.rng q.rng with
      | false => rfl
      | true => exact (end_splitP hk hm e1 e0 hc h).elim
    have e3 : endLt q.rng p.rng = false := by
      cases hc : endLt q.rng p.rng with
      | false => rfl
      | true => exact (end_splitP hm hk e1.symm e0.symm hc (fun s => (h s).symm)).elim
    obtain ⟨e4, e5⟩ := end_same p1.1 q1.1 e2 e3
    obtain rfl := pc_ext (rng_ext e1 e4 e5) e0
    have key : ∀ s, catK k s = catK m s := fun s => by
      cases hr : hasR p.rng s with
      | false => have := h s; rwa [catK_rest hr, catK_rest hr] at this
      | true =>
        have h1 : catK k s = [] := by
          cases hc : catK k s with
          | nil => rfl
          | cons x y =>
            have := (catK_apart hk (by rw [hc]; exact List.cons_ne_nil _ _)).1
            rw [hr] at this; cases this
        have h2 : catK m s = [] := by
          cases hc : catK m s with
          | nil => rfl
          | cons x y =>
            have := (catK_apart hm (by rw [hc]; exact List.cons_ne_nil _ _)).1
            rw [hr] at this; cases this
        rw [h1, h2]
    rw [rightP_unique (rightP_tail hk) (rightP_tail hm) key]

/-! The right list of what is meant, edge by edge. -/
/-- The pieces that begin at an edge where something is had, and end where another thing is; o: the one that has begun. -/
def mkP (f : List UInt8 → List Kn) : List (List UInt8) → Option (List UInt8 × List Kn) → List Pc
  | [], none => []
  | [], some (lo, S) => [⟨⟨lo, [], true⟩, S⟩]
  | e :: es, none => match f e with
    | [] => mkP f es none
    | x :: y => mkP f es (some (e, x :: y))
  | e :: es, some (lo, S) => match decide (f e = S) with
    | true => mkP f es (some (lo, S))
    | false => ⟨⟨lo, e, false⟩, S⟩ :: (match f e with
      | [] => mkP f es none
      | x :: y => mkP f es (some (e, x :: y)))
theorem mkP_none_no {f : List UInt8 → List Kn} {e : List UInt8} {es : List (List UInt8)} (h : f e = []) : mkP f (e :: es) none = mkP f es none := by rw [mkP, h]
theorem mkP_none_yes {f : List UInt8 → List Kn} {e : List UInt8} {es : List (List UInt8)} (h : f e ≠ []) : mkP f (e :: es) none = mkP f es (some (e, f e)) := by
  rw [mkP]
  cases hf : f e with
  | nil => exact absurd hf h
  | cons x y => rfl
theorem mkP_on {f : List UInt8 → List Kn} {e lo : List UInt8} {S : List Kn} {es : List (List UInt8)} (h : f e = S) : mkP f (e :: es) (some (lo, S)) = mkP f es (some (lo, S)) := by rw [mkP, decide_eq_true h]
theorem mkP_end {f : List UInt8 → List Kn} {e lo : List UInt8} {S : List Kn} {es : List (List UInt8)} (h : f e ≠ S) : mkP f (e :: es) (some (lo, S)) = ⟨⟨lo, e, false⟩, S⟩ :: mkP f (e :: es) none := by simp only [mkP, decide_eq_false h]
/-- What is had of a text, told by what is had at the edges. -/
def floorP (f : List UInt8 → List Kn) : List Kn → List (List UInt8) → List UInt8 → List Kn
  | v, [], _ => v
  | v, x :: l, s => match ltB s x with | true => v | false => floorP f (f x) l s
theorem floorP_low {f : List UInt8 → List Kn} {v : List Kn} {l : List (List UInt8)} {s : List UInt8} (h : ∀ x ∈ l, ltB s x = true) : floorP f v l s = v := by
  cases l with
  | nil => rfl
  | cons x l => unfold floorP; rw [h x (List.mem_cons_self ..)]
def curP : Option (List UInt8 × List Kn) → List Kn
  | none => []
  | some x => x.2
theorem mkP_low (f : List UInt8 → List Kn) : ∀ (es : List (List UInt8)) (o : Option (List UInt8 × List Kn)) (c s : List UInt8), risingB c es = true → (∀ x, o = some x → ltB s x.1 = true) → (o = none → ltB c s = false) → (∀ x, o = some x → ltB c x.1 = false) → catK (mkP f es o) s = []
  | [], none, _, _, _, _, _, _ => rfl
  | [], some (lo, S), c, s, _, h, _, _ => by
    unfold mkP; rw [catK]
    have : hasR ⟨lo, [], true⟩ s = false := by unfold hasR; rw [h _ rfl]; simp
    rw [setP_no this]; rfl
  | e :: es, none, c, s, hr, _, h2, _ => by
    obtain ⟨h3, h4⟩ := rising_head hr
    have hse : ltB s e = true := ltB_of_le_of_lt (h2 rfl) h3
    by_cases hf : f e = []
    · rw [mkP_none_no hf]; exact mkP_low f es none e s h4 (fun x h => by cases h) (fun _ => ltB_asymm hse) (fun x h => by cases h)
    · rw [mkP_none_yes hf]; exact mkP_low f es _ e s h4 (fun x h => by injection h with h; subst h; exact hse) (fun h => by cases h) (fun x h => by injection h with h; subst h; exact ltB_irrefl _)
  | e :: es, some (lo, S), c, s, hr, h, _, hc => by
    obtain ⟨h3, h4⟩ := rising_head hr
    have hsl : ltB s lo = true := h _ rfl
    have h5 : ltB lo e = true := ltB_of_le_of_lt (hc _ rfl) h3
    have hse : ltB s e = true := ltB_trans hsl h5
    by_cases hf : f e = S
    · rw [mkP_on hf]; exact mkP_low f es _ e s h4 (fun x h' => by injection h' with h'; subst h'; exact hsl) (fun h => by cases h) (fun x h' => by injection h' with h'; subst h'; exact ltB_asymm h5)
    · have : hasR ⟨lo, e, false⟩ s = false := by unfold hasR; rw [hsl]; simp
      rw [mkP_end hf, catK, setP_no this, List.nil_append]
      by_cases hf : f e = []
      · rw [mkP_none_no hf]; exact mkP_low f es none e s h4 (fun x h => by cases h) (fun _ => ltB_asymm hse) (fun x h => by cases h)
      · rw [mkP_none_yes hf]; exact mkP_low f es _ e s h4 (fun x h => by injection h with h; subst h; exact hse) (fun h => by cases h) (fun x h => by injection h with h; subst h; exact ltB_irrefl _)
/-- What the list has. -/
theorem mkP_has (f : List UInt8 → List Kn) : ∀ (es : List (List UInt8)) (o : Option (List UInt8 × List Kn)) (c s : List UInt8), risingB c es = true → (∀ x ∈ es, x.length ≤ 17) → (∀ x, o = some x → x.1.length ≤ 17 ∧ ltB c x.1 = false ∧ ltB s x.1 = false) → catK (mkP f es o) s = floorP f (curP o) es s
  | [], none, _, _, _, _, _ => rfl
  | [], some (lo, S), c, s, _, _, h => by
    obtain ⟨h1, _, h3⟩ := h _ rfl
    unfold mkP; rw [catK, setP_yes (by rw [hasR_open h1, h3]; rfl)]
    exact List.append_nil _
  | e :: es, none, c, s, hr, hl, _ => by
    obtain ⟨h3, h4⟩ := rising_head hr
    have hl' : ∀ x ∈ es, x.length ≤ 17 := fun x hx => hl x (List.mem_cons_of_mem _ hx)
    have he := hl e (List.mem_cons_self ..)
    unfold floorP
    cases hse : ltB s e with
    | true =>
      by_cases hf : f e = []
      · rw [mkP_none_no hf]; exact mkP_low f es none e s h4 (fun x h => by cases h) (fun _ => ltB_asymm hse) (fun x h => by cases h)
      · rw [mkP_none_yes hf]; exact mkP_low f es _ e s h4 (fun x h => by injection h with h; subst h; exact hse) (fun h => by cases h) (fun x h => by injection h with h; subst h; exact ltB_irrefl _)
    | false =>
      by_cases hf : f e = []
      · rw [mkP_none_no hf, hf]; exact mkP_has f es none e s h4 hl' (fun x h => by cases h)
      · rw [mkP_none_yes hf]; exact mkP_has f es (some (e, f e)) e s h4 hl' (fun x h => by injection h with h; subst h; exact ⟨he, ltB_irrefl _, hse⟩)
  | e :: es, some (lo, S), c, s, hr, hl, h => by
    obtain ⟨h3, h4⟩ := rising_head hr
    obtain ⟨k1, k2, k3⟩ := h _ rfl
    have hl' : ∀ x ∈ es, x.length ≤ 17 := fun x hx => hl x (List.mem_cons_of_mem _ hx)
    have he := hl e (List.mem_cons_self ..)
    have h5 : ltB lo e = true := ltB_of_le_of_lt k2 h3
    unfold floorP
    by_cases hf : f e = S
    · rw [mkP_on hf, mkP_has f es (some (lo, S)) e s h4 hl' (fun x h' => by injection h' with h'; subst h'; exact ⟨k1, ltB_asymm h5, k3⟩)]
      cases hse : ltB s e with
      | true => exact floorP_low fun x hx => ltB_trans hse (rising_all h4 x hx)
      | false => rw [hf]; rfl
    · rw [mkP_end hf, catK]
      have hh : hasR ⟨lo, e, false⟩ s = ltB s e := by rw [hasR_shut k1 he h5, k3]; rfl
      cases hse : ltB s e with
      | true =>
        rw [hse] at hh
        rw [setP_yes hh]
        have : catK (mkP f (e :: es) none) s = [] := by
          by_cases hf : f e = []
          · rw [mkP_none_no hf]; exact mkP_low f es none e s h4 (fun x h => by cases h) (fun _ => ltB_asymm hse) (fun x h => by cases h)
          · rw [mkP_none_yes hf]; exact mkP_low f es _ e s h4 (fun x h => by injection h with h; subst h; exact hse) (fun h => by cases h) (fun x h => by injection h with h; subst h; exact ltB_irrefl _)
        rw [this]
        exact List.append_nil _
      | false =>
        rw [hse] at hh
        rw [setP_no hh, List.nil_append]
        by_cases hf : f e = []
        · rw [mkP_none_no hf, hf]; exact mkP_has f es none e s h4 hl' (fun x h => by cases h)
        · rw [mkP_none_yes hf]; exact mkP_has f es (some (e, f e)) e s h4 hl' (fun x h => by injection h with h; subst h; exact ⟨he, ltB_irrefl _, hse⟩)
theorem mkP_first (f : List UInt8 → List Kn) : ∀ (es : List (List UInt8)) (o : Option (List UInt8 × List Kn)) (c : List UInt8) (t : Pc) (m : List Pc), risingB c es = true → mkP f es o = t :: m → (∀ x, o = some x → t.rng.lo = x.1 ∧ t.set = x.2) ∧ (o = none → ltB c t.rng.lo = true)
  | [], none, _, _, _, _, h => by cases h
  | [], some (lo, S), _, t, m, _, h => by
    unfold mkP at h; injection h with h h'; subst h
    exact ⟨(fun x e => by injection e with e; subst e; exact ⟨rfl, rfl⟩), (fun e => by cases e)⟩
  | e :: es, none, c, t, m, hr, h => by
    obtain ⟨h3, h4⟩ := rising_head hr
    refine ⟨(fun x e => by cases e), fun _ => ?_⟩
    by_cases hf : f e = []
    · rw [mkP_none_no hf] at h; exact ltB_trans h3 ((mkP_first f es none e t m h4 h).2 rfl)
    · rw [mkP_none_yes hf] at h; rw [((mkP_first f es _ e t m h4 h).1 _ rfl).1]; exact h3
  | e :: es, some (lo, S), c, t, m, hr, h => by
    obtain ⟨h3, h4⟩ := rising_head hr
    refine ⟨fun x e' => ?_, (fun e => by cases e)⟩
    injection e' with e'; subst e'
    by_cases hf : f e = S
    · rw [mkP_on hf] at h; exact (mkP_first f es _ e t m h4 h).1 _ rfl
    · rw [mkP_end hf] at h; injection h with h h'; subst h; exact ⟨rfl, rfl⟩
theorem onePc_of {r : Rng} {S : List Kn} (h1 : rightR r = true) (h2 : S ≠ []) (h3 : rightS S = true) : onePc ⟨r, S⟩ = true := onePc_iff.2 ⟨h1, h2, h3⟩
/-- The list is right. -/
theorem mkP_right (f : List UInt8 → List Kn) (hf9 : ∀ s, rightS (f s) = true) : ∀ (es : List (List UInt8)) (o : Option (List UInt8 × List Kn)) (c : List UInt8), risingB c es = true → (∀ x ∈ es, x.length ≤ 17) → (∀ x, o = some x → x.1.length ≤ 17 ∧ ltB c x.1 = false ∧ x.2 ≠ [] ∧ rightS x.2 = true) → rightP (mkP f es o) = true
  | [], none, _, _, _, _ => rfl
  | [], some (lo, S), _, _, _, h => by
    obtain ⟨h1, -, h2, h3⟩ := h _ rfl
    exact onePc_of (rightR_iff.2 ⟨h1, by simp, fun _ => rfl, (fun h => by cases h)⟩) h2 h3
  | e :: es, none, c, hr, hl, _ => by
    obtain ⟨h3, h4⟩ := rising_head hr
    have hl' : ∀ x ∈ es, x.length ≤ 17 := fun x hx => hl x (List.mem_cons_of_mem _ hx)
    have he := hl e (List.mem_cons_self ..)
    by_cases hf : f e = []
    · rw [mkP_none_no hf]; exact mkP_right f hf9 es none e h4 hl' (fun x h => by cases h)
    · rw [mkP_none_yes hf]; exact mkP_right f hf9 es _ e h4 hl' (fun x h => by injection h with h; subst h; exact ⟨he, ltB_irrefl _, hf, hf9 e⟩)
  | e :: es, some (lo, S), c, hr, hl, h => by
    obtain ⟨h3, h4⟩ := rising_head hr
    obtain ⟨k1, k2, k3, k4⟩ := h _ rfl
    have hl' : ∀ x ∈ es, x.length ≤ 17 := fun x hx => hl x (List.mem_cons_of_mem _ hx)
    have he := hl e (List.mem_cons_self ..)
    have h5 : ltB lo e = true := ltB_of_le_of_lt k2 h3
    by_cases hf : f e = S
    · rw [mkP_on hf]; exact mkP_right f hf9 es _ e h4 hl' (fun x h' => by injection h' with h'; subst h'; exact ⟨k1, ltB_asymm h5, k3, k4⟩)
    · have hp : onePc ⟨⟨lo, e, false⟩, S⟩ = true := onePc_of (right_shut k1 he h5) k3 k4
      rw [mkP_end hf]
      by_cases hn : f e = []
      · rw [mkP_none_no hn]
        have h6 := mkP_right f hf9 es none e h4 hl' (fun x h => by cases h)
        cases hm : mkP f es none with
        | nil => exact hp
        | cons t m =>
          rw [hm] at h6
          have h7 := (mkP_first f es none e t m h4 hm).2 rfl
          have h8 : gapP ⟨⟨lo, e, false⟩, S⟩ t = true := gapP_iff.2 ⟨rfl, ltB_asymm h7, fun (e1 : e = t.rng.lo) => by rw [← e1, ltB_irrefl] at h7; cases h7⟩
          unfold rightP; rw [hp, h8, h6]; rfl
      · rw [mkP_none_yes hn]
        have h6 := mkP_right f hf9 es (some (e, f e)) e h4 hl' (fun x h => by injection h with h; subst h; exact ⟨he, ltB_irrefl _, hn, hf9 e⟩)
        cases hm : mkP f es (some (e, f e)) with
        | nil => exact hp
        | cons t m =>
          rw [hm] at h6
          obtain ⟨h7, h7'⟩ := (mkP_first f es _ e t m h4 hm).1 _ rfl
          simp only at h7 h7'
          have h8 : gapP ⟨⟨lo, e, false⟩, S⟩ t = true := gapP_iff.2 ⟨rfl, by rw [h7]; exact ltB_irrefl _, fun _ => by rw [h7']; exact fun e => hf e.symm⟩
          unfold rightP; rw [hp, h8, h6]; rfl
/-- Is it told by these edges what is had of a text? -/
def DetP (f : List UInt8 → List Kn) (E : List (List UInt8)) : Prop := ∀ s c, (∀ x ∈ E, ltB s x = ltB c x) → f s = f c
theorem floorP_det (f : List UInt8 → List Kn) (s : List UInt8) : ∀ (es D : List (List UInt8)) (c : List UInt8), risingB c es = true → (∀ x ∈ D, ltB c x = false) → ltB s c = false → DetP f (D ++ es) → floorP f (f c) es s = f s
  | [], D, c, _, hD, hs, h => by
    refine (h s c fun x hx => ?_).symm
    rw [List.append_nil] at hx
    rw [hD x hx]
    exact leB_trans (hD x hx) hs
  | x :: l, D, c, hr, hD, hs, h => by
    obtain ⟨h3, h4⟩ := rising_head hr
    unfold floorP
    cases hx : ltB s x with
    | true =>
      refine (h s c fun y hy => ?_).symm
      rcases List.mem_append.1 hy with hy | hy
      · rw [hD y hy]; exact leB_trans (hD y hy) hs
      · have h5 := rising_all hr y hy
        rw [h5]
        rcases List.mem_cons.1 hy with rfl | hy
        · exact hx
        · exact ltB_trans hx (rising_all h4 y hy)
    | false =>
      refine floorP_det f s l (D ++ [x]) x h4 (fun y hy => ?_) hx (by rw [List.append_assoc]; exact h)
      rcases List.mem_append.1 hy with hy | hy
      · exact ltB_asymm (ltB_of_le_of_lt (hD y hy) h3)
      · rw [List.mem_singleton.1 hy]; exact ltB_irrefl _
/-- Of the empty text and rising edges, by which it is told what is had: the right list of it. -/
theorem mkP_all {f : List UInt8 → List Kn} {E : List (List UInt8)} (hf9 : ∀ s, rightS (f s) = true) (hE : EdgesOk E) (hd : DetP f E) : rightP (mkP f E none) = true ∧ ∀ s, catK (mkP f E none) s = f s := by
  obtain ⟨es, rfl, hr, hl⟩ := hE
  by_cases hf : f [] = []
  · rw [mkP_none_no hf]
    refine ⟨mkP_right f hf9 es none [] hr hl (fun x h => by cases h), fun s => ?_⟩
    rw [mkP_has f es none [] s hr hl (fun x h => by cases h)]
    have := floorP_det f s es [[]] [] hr (fun x hx => by rw [List.mem_singleton.1 hx]; exact ltB_nil _) (ltB_nil _) hd
    rwa [hf] at this
  · rw [mkP_none_yes hf]
    refine ⟨mkP_right f hf9 es _ [] hr hl (fun x h => by injection h with h; subst h; exact ⟨Nat.zero_le _, ltB_nil _, hf, hf9 []⟩), fun s => ?_⟩
    rw [mkP_has f es (some ([], f [])) [] s hr hl (fun x h => by injection h with h; subst h; exact ⟨Nat.zero_le _, ltB_nil _, ltB_nil _⟩)]
    exact floorP_det f s es [[]] [] hr (fun x hx => by rw [List.mem_singleton.1 hx]; exact ltB_nil _) (ltB_nil _) hd
end Go.Proofs.Ytfklochgciijkaa

/-
  Plain facts on sets of versions and knowledge as bytes (layer 16): how they are put, how they are read. No program in this text.
-/
namespace Go.Proofs.Ytfklochgciijkaa

/-! How they are put. -/
def runsB : Int → List Rn → List UInt8
  | _, [] => []
  | was, r :: l => putV (r.fr - was).toNat ++ (putV (r.to - r.fr).toNat ++ runsB r.to l)
def knB (k : Kn) : List UInt8 := putV k.rep.toNat ++ (putV k.runs.length ++ runsB 0 k.runs)
def setB (s : List Kn) : List UInt8 := putV s.length ++ s.flatMap knB
def pieceB (p : Pc) : List UInt8 := rngB p.rng ++ setB p.set
def knowB (k : List Pc) : List UInt8 := putV k.length ++ k.flatMap pieceB
/-! How they are read. -/
def runRd (was : Int) (b : List UInt8) (e : Int) : Rn × List UInt8 × Int :=
  let x := numR b e
  let y := numR x.2.1 x.2.2
  (⟨was + x.1, was + x.1 + y.1⟩, y.2)
def runsRd : Nat → Int → List UInt8 → Int → List Rn × List UInt8 × Int
  | 0, _, b, e => ([], b, e)
  | n + 1, was, b, e => if e = 0 then ((runRd was b e).1 :: (runsRd n (runRd was b e).1.to (runRd was b e).2.1 (runRd was b e).2.2).1, (runsRd n (runRd was b e).1.to (runRd was b e).2.1 (runRd was b e).2.2).2) else ([], b, e)
def knRd (b : List UInt8) (e : Int) : Kn × List UInt8 × Int :=
  let x := withinR 1 16 b e
  let m := withinR 0 4096 x.2.1 x.2.2
  let l := runsRd m.1 0 m.2.1 m.2.2
  (⟨x.1, l.1⟩, l.2)
def setRd (b : List UInt8) (e : Int) : List Kn × List UInt8 × Int :=
  let n := withinR 0 16 b e
  manyR knRd n.1 n.2.1 n.2.2
def readS (b : List UInt8) : List Kn × Int := allR2 knRd 16 rightS b
def pieceRd (b : List UInt8) (e : Int) : Pc × List UInt8 × Int :=
  let r := rngR b e
  let s := setRd r.2.1 r.2.2
  (⟨r.1, s.1⟩, s.2)
def readK (b : List UInt8) : List Pc × Int := allR2 pieceRd 4096 rightP b
/-! What is put is read. -/
def okRn (was : Int) (r : Rn) : Prop := 0 ≤ r.fr - was ∧ r.fr - was ≤ 281474976710656 ∧ 0 ≤ r.to - r.fr ∧ r.to - r.fr ≤ 281474976710656
theorem runRd_put {was : Int} {r : Rn} (h : okRn was r) (b : List UInt8) : runRd was (putV (r.fr - was).toNat ++ (putV (r.to - r.fr).toNat ++ b)) 0 = (r, b, 0) := by
  obtain ⟨h1, h2, h3, h4⟩ := h
  unfold runRd
  rw [numR_put _ _ (by omega)]
  simp only
  rw [numR_put _ _ (by omega)]
  simp only
  rw [Int.toNat_of_nonneg h1, Int.toNat_of_nonneg h3]
  have e1 : was + (r.fr - was) = r.fr := by omega
  have e2 : r.fr + (r.to - r.fr) = r.to := by omega
  rw [e1, e2]
theorem runsRd_put : ∀ (l : List Rn) (was : Int) (b : List UInt8), 0 ≤ was → rightC l = true → (∀ r m, l = r :: m → was ≤ r.fr) → runsRd l.length was (runsB was l ++ b) 0 = (l, b, 0)
  | [], _, b, _, _, _ => rfl
  | r :: l, was, b, hw, h, h0 => by
    have h1 := oneC_iff.1 (rightC_head h)
    have h2 := h0 r l rfl
    have h3 := runRd_put (was := was) (r := r) ⟨by omega, by omega, by omega, by omega⟩ (runsB r.to l ++ b)
    have ih := runsRd_put l r.to b (by omega) (rightC_tail h) (fun t m e => by subst e; have := rightC_gap h; omega)
    rw [runsB, List.append_assoc, List.append_assoc, List.length_cons, runsRd, if_pos rfl, h3]
    simp only
    rw [ih]
/-- What is asked of a Known, so that its bytes are read. -/
def smallKn (k : Kn) : Prop := 1 ≤ k.rep ∧ k.rep ≤ 16 ∧ rightC k.runs = true ∧ k.runs.length ≤ 4096
theorem knRd_put {k : Kn} (h : smallKn k) (b : List UInt8) : knRd (knB k ++ b) 0 = (k, b, 0) := by
  obtain ⟨h1, h2, h3, h4⟩ := h
  unfold knRd knB
  rw [List.append_assoc, List.append_assoc, withinR_put _ _ (by omega) (by omega) (by omega)]
  simp only
  rw [withinR_put _ _ (by omega) (by omega) (by omega)]
  simp only
  rw [runsRd_put k.runs 0 b (Int.le_refl _) h3 fun r m e => by rw [e] at h3; have := oneC_iff.1 (rightC_head h3); omega, Int.toNat_of_nonneg (by omega)]
theorem smallKn_of {s : List Kn} (h : rightS s = true) (hm : ∀ k ∈ s, k.runs.length ≤ 4096) : ∀ k ∈ s, smallKn k := fun k hk => by
  obtain ⟨h1, h2, h3⟩ := upS_all h k hk
  exact ⟨by omega, h2, (oneK_iff.1 h3).2, hm k hk⟩
theorem upS_len : ∀ {s : List Kn} {c : Int}, upS c s = true → 0 ≤ c → c ≤ 16 → (s.length : Int) + c ≤ 16
  | [], c, _, h0, h1 => by simp; omega
  | k :: s, c, h, h0, h1 => by
    obtain ⟨a1, a2, a3, a4⟩ := upS_cons.1 h
    have := upS_len a4 (by omega) a2
    rw [List.length_cons]; omega
theorem rightS_len {s : List Kn} (h : rightS s = true) : s.length ≤ 16 := by have := upS_len h (Int.le_refl _) (by omega); omega
theorem setRd_put {s : List Kn} (h : rightS s = true) (hm : ∀ k ∈ s, k.runs.length ≤ 4096) (b : List UInt8) : setRd (setB s ++ b) 0 = (s, b, 0) := by
  have h1 := rightS_len h
  unfold setRd setB
  rw [List.append_assoc, withinR_put _ _ (by omega) (by omega) (by omega)]
  simp only
  exact manyR_put s b fun k hk r => knRd_put (smallKn_of h hm k hk) r
theorem readS_put {s : List Kn} (h : rightS s = true) (hm : ∀ k ∈ s, k.runs.length ≤ 4096) : readS (setB s) = (s, 0) :=
  allR2_put s h (by have := rightS_len h; omega) (by omega) fun k hk r => knRd_put (smallKn_of h hm k hk) r
theorem pieceRd_put {p : Pc} (h : onePc p = true) (hm : ∀ k ∈ p.set, k.runs.length ≤ 4096) (b : List UInt8) : pieceRd (pieceB p ++ b) 0 = (p, b, 0) := by
  obtain ⟨h1, -, h3⟩ := onePc_iff.1 h
  unfold pieceRd pieceB
  rw [List.append_assoc, rngR_put _ _ h1]
  simp only
  rw [setRd_put h3 hm]
theorem readK_put {k : List Pc} (h : rightP k = true) (hl : k.length ≤ 4096) (hm : ∀ p ∈ k, ∀ x ∈ p.set, x.runs.length ≤ 4096) : readK (knowB k) = (k, 0) :=
  allR2_put k h (by omega) (by omega) fun p hp r => pieceRd_put (rightP_all h p hp) (hm p hp) r
/-! What is read was put just so. -/
theorem runRd_back {was : Int} {b c : List UInt8} {e : Int} {r : Rn} (h : runRd was b e = (r, c, 0)) : e = 0 ∧ b = putV (r.fr - was).toNat ++ (putV (r.to - r.fr).toNat ++ c) ∧ was ≤ r.fr ∧ r.fr ≤ r.to := by
  unfold runRd at h
  obtain ⟨x, b1, e1, hx⟩ : ∃ x b1 e1, numR b e = (x, b1, e1) := ⟨_, _, _, rfl⟩
  rw [hx] at h
  simp only at h
  obtain ⟨y, b2, e2, hy⟩ : ∃ y b2 e2, numR b1 e1 = (y, b2, e2) := ⟨_, _, _, rfl⟩
  rw [hy] at h
  simp only [Prod.mk.injEq] at h
  obtain ⟨rfl, rfl, rfl⟩ := h
  obtain ⟨rfl, h2⟩ := numR_of hy
  obtain ⟨h3, h4⟩ := numR_of hx
  refine ⟨h3, ?_, by show was ≤ was + _; omega, by show was + _ ≤ was + _ + _; omega⟩
  have e1 : (was + (x : Int) - was).toNat = x := by omega
  have e2 : (was + (x : Int) + (y : Int) - (was + (x : Int))).toNat = y := by omega
  show b = putV (was + (x : Int) - was).toNat ++ (putV (was + (x : Int) + (y : Int) - (was + (x : Int))).toNat ++ b2)
  rw [e1, e2, h4, h2]
theorem runsRd_back : ∀ (n : Nat) (was : Int) (b : List UInt8) (e : Int) (l : List Rn) (c : List UInt8), runsRd n was b e = (l, c, 0) → e = 0 ∧ b = runsB was l ++ c ∧ l.length = n
  | 0, was, b, e, l, c, h => by
    simp only [runsRd, Prod.mk.injEq] at h
    obtain ⟨rfl, rfl, rfl⟩ := h
    exact ⟨rfl, rfl, rfl⟩
  | n + 1, was, b, e, l, c, h => by
    rw [runsRd] at h
    split at h
    · rename_i he
      subst he
      obtain ⟨x, b1, e1, hx⟩ : ∃ x b1 e1, runRd was b 0 = (x, b1, e1) := ⟨_, _, _, rfl⟩
      rw [hx] at h
      simp only at h
      obtain ⟨l1, b2, e2, hy⟩ : ∃ l1 b2 e2, runsRd n x.to b1 e1 = (l1, b2, e2) := ⟨_, _, _, rfl⟩
      rw [hy] at h
      simp only [Prod.mk.injEq] at h
      obtain ⟨rfl, rfl, rfl⟩ := h
      obtain ⟨rfl, h2, h3⟩ := runsRd_back n x.to b1 e1 l1 b2 hy
      obtain ⟨-, h4, -, -⟩ := runRd_back hx
      exact ⟨rfl, by rw [h4, h2, runsB, List.append_assoc, List.append_assoc], by rw [List.length_cons, h3]⟩
    · rename_i he
      simp only [Prod.mk.injEq] at h
      exact absurd h.2.2 he
theorem knRd_back {b c : List UInt8} {e : Int} {k : Kn} (h : knRd b e = (k, c, 0)) : e = 0 ∧ b = knB k ++ c := by
  unfold knRd at h
  obtain ⟨x, b1, e1, hx⟩ : ∃ x b1 e1, withinR 1 16 b e = (x, b1, e1) := ⟨_, _, _, rfl⟩
  rw [hx] at h
  simp only at h
  obtain ⟨m, b2, e2, hm⟩ : ∃ m b2 e2, withinR 0 4096 b1 e1 = (m, b2, e2) := ⟨_, _, _, rfl⟩
  rw [hm] at h
  simp only at h
  obtain ⟨l, b3, e3, hl⟩ : ∃ l b3 e3, runsRd m 0 b2 e2 = (l, b3, e3) := ⟨_, _, _, rfl⟩
  rw [hl] at h
  simp only [Prod.mk.injEq] at h
  obtain ⟨rfl, rfl, rfl⟩ := h
  obtain ⟨rfl, h2, h3⟩ := runsRd_back m 0 b2 e2 l b3 hl
  obtain ⟨rfl, h4, -⟩ := withinR_back hm
  obtain ⟨h5, h6, -⟩ := withinR_back hx
  refine ⟨h5, ?_⟩
  show b = (putV (x : Int).toNat ++ (putV l.length ++ runsB 0 l)) ++ b3
  rw [h6, h4, h2, h3, List.append_assoc, List.append_assoc, Int.toNat_natCast]
theorem setRd_back {b c : List UInt8} {e : Int} {s : List Kn} (h : setRd b e = (s, c, 0)) : e = 0 ∧ b = setB s ++ c := by
  unfold setRd at h
  obtain ⟨n, b1, e1, hn⟩ : ∃ n b1 e1, withinR 0 16 b e = (n, b1, e1) := ⟨_, _, _, rfl⟩
  rw [hn] at h
  simp only at h
  obtain ⟨rfl, h2, h3⟩ := manyR_back (g := knB) (fun _ _ _ _ hx => knRd_back hx) n b1 e1 s c h
  obtain ⟨h4, h5, -⟩ := withinR_back hn
  exact ⟨h4, by rw [h5, h2, setB, h3, List.append_assoc]⟩
theorem readS_back {b : List UInt8} {s : List Kn} (h : readS b = (s, 0)) : setB s = b ∧ rightS s = true :=
  have ⟨h1, h2, _⟩ := allR2_back (g := knB) (fun _ _ _ _ hx => knRd_back hx) h
  ⟨h2.symm, h1⟩
theorem pieceRd_back {b c : List UInt8} {e : Int} {p : Pc} (h : pieceRd b e = (p, c, 0)) : e = 0 ∧ b = pieceB p ++ c := by
  unfold pieceRd at h
  obtain ⟨r, b1, e1, hr⟩ : ∃ r b1 e1, rngR b e = (r, b1, e1) := ⟨_, _, _, rfl⟩
  rw [hr] at h
  simp only at h
  obtain ⟨s, b2, e2, hs⟩ : ∃ s b2 e2, setRd b1 e1 = (s, b2, e2) := ⟨_, _, _, rfl⟩
  rw [hs] at h
  simp only [Prod.mk.injEq] at h
  obtain ⟨rfl, rfl, rfl⟩ := h
  obtain ⟨rfl, h2⟩ := setRd_back hs
  obtain ⟨h3, h4⟩ := rngR_back hr
  exact ⟨h3, by rw [h4, h2, pieceB, List.append_assoc]⟩
theorem readK_back {b : List UInt8} {k : List Pc} (h : readK b = (k, 0)) : knowB k = b ∧ rightP k = true :=
  have ⟨h1, h2, _⟩ := allR2_back (g := pieceB) (fun _ _ _ _ hx => pieceRd_back hx) h
  ⟨h2.symm, h1⟩
end Go.Proofs.Ytfklochgciijkaa

/-
  Plain facts on filters as bytes, there and back: no program is named here.
-/
namespace Go.Proofs.Ytfklochgciijkaa

def opB (x : Int) : UInt8 := UInt8.ofNat x.toNat
def nodeB (n : Nd) : List UInt8 := opB n.op :: ((if 3 ≤ n.op ∧ n.op ≤ 5 then txtB n.lo else []) ++ ((if n.op = 4 then txtB n.hi else []) ++ (if 7 ≤ n.op then [opB n.kids] else [])))
def filterB (l : List Nd) : List UInt8 := putV l.length ++ l.flatMap nodeB
/-- One node, from where a reader stands: what it reads, what is left, the error. -/
def nodeRd (l : List UInt8) (e : Int) : Nd × List UInt8 × Int :=
  let a := withinR 1 8 l e
  let s := if 3 ≤ a.1 ∧ a.1 ≤ 5 then textR 17 a.2.1 a.2.2 else ([], a.2)
  let t := if a.1 = 4 then textR 17 s.2.1 s.2.2 else ([], s.2)
  let k := if a.1 = 6 then (1, t.2) else if 7 ≤ a.1 then withinR 0 32 t.2.1 t.2.2 else (0, t.2)
  (⟨a.1, k.1, s.1, t.1⟩, k.2)
def readF (b : List UInt8) : List Nd × Int := allR2 nodeRd 32 rightN b

theorem opB_put {x : Int} {n : Nat} (h : x = n) (hn : n < 128) : [opB x] = putV n := by
  subst h
  rw [putV_small hn]; rfl
theorem nodeRd_put (n : Nd) (l : List UInt8) (h : nodeV n = true) : nodeRd (nodeB n ++ l) 0 = (n, l, 0) := by
  obtain ⟨op, kids, lo, hi⟩ := n
  have h8 := nodeV_op h
  simp only at h8
  have ho : ∃ o : Nat, op = o := ⟨op.toNat, by omega⟩
  obtain ⟨o, rfl⟩ := ho
  have hb : opB (o : Int) :: ((if 3 ≤ (o : Int) ∧ (o : Int) ≤ 5 then txtB lo else []) ++ ((if (o : Int) = 4 then txtB hi else []) ++ (if 7 ≤ (o : Int) then [opB kids] else []))) ++ l
      = putV o ++ ((if 3 ≤ (o : Int) ∧ (o : Int) ≤ 5 then txtB lo else []) ++ ((if (o : Int) = 4 then txtB hi else []) ++ ((if 7 ≤ (o : Int) then [opB kids] else []) ++ l))) := by
    rw [← opB_put (x := (o : Int)) rfl (by omega)]
    simp
  show nodeRd (opB (o : Int) :: ((if 3 ≤ (o : Int) ∧ (o : Int) ≤ 5 then txtB lo else []) ++ ((if (o : Int) = 4 then txtB hi else []) ++ (if 7 ≤ (o : Int) then [opB kids] else []))) ++ l) 0 = _
  rw [hb]
  unfold nodeRd
  simp only
  rw [withinR_put o _ (by omega) (by omega) (by omega)]
  simp only
  unfold nodeV rightR at h
  simp only at h
  have hc : o = 1 ∨ o = 2 ∨ o = 3 ∨ o = 4 ∨ o = 5 ∨ o = 6 ∨ o = 7 ∨ o = 8 := by omega
  rcases hc with rfl | rfl | rfl | rfl | rfl | rfl | rfl | rfl
  · simp at h
    obtain ⟨rfl, rfl, rfl⟩ := h
    simp
  · simp at h
    obtain ⟨rfl, rfl, rfl⟩ := h
    simp
  · simp at h
    obtain ⟨rfl, h1, rfl⟩ := h
    simp [textR_most lo _ (show (lo.length : Int) ≤ 17 by omega) (by omega)]
  · simp at h
    obtain ⟨rfl, h1, h2, -⟩ := h
    simp [textR_most lo _ (show (lo.length : Int) ≤ 17 by omega) (by omega), textR_most hi _ (show (hi.length : Int) ≤ 17 by omega) (by omega)]
  · simp at h
    obtain ⟨rfl, h1, rfl⟩ := h
    simp [textR_most lo _ (show (lo.length : Int) ≤ 17 by omega) (by omega)]
  · simp at h
    obtain ⟨⟨rfl, rfl⟩, rfl⟩ := h
    simp
  · simp at h
    obtain ⟨⟨rfl, rfl⟩, h1, h2⟩ := h
    obtain ⟨k, rfl⟩ : ∃ k : Nat, kids = k := ⟨kids.toNat, by omega⟩
    have e : opB (k : Int) :: l = putV k ++ l := by rw [← opB_put (x := (k : Int)) rfl (by omega)]; rfl
    simp [e, withinR_put (lo := 0) (hi := 32) k l (by omega) (by omega) (by omega)]
  · simp at h
    obtain ⟨⟨rfl, rfl⟩, h1, h2⟩ := h
    obtain ⟨k, rfl⟩ : ∃ k : Nat, kids = k := ⟨kids.toNat, by omega⟩
    have e : opB (k : Int) :: l = putV k ++ l := by rw [← opB_put (x := (k : Int)) rfl (by omega)]; rfl
    simp [e, withinR_put (lo := 0) (hi := 32) k l (by omega) (by omega) (by omega)]
theorem nodeRd_back {n : Nd} {l b : List UInt8} {e : Int} (h : nodeRd b e = (n, l, 0)) : e = 0 ∧ b = nodeB n ++ l := by
  unfold nodeRd at h
  obtain ⟨o, l1, e1, ha⟩ : ∃ o l1 e1, withinR 1 8 b e = (o, l1, e1) := ⟨_, _, _, rfl⟩
  rw [ha] at h
  simp only at h
  obtain ⟨s, l2, e2, hs⟩ : ∃ s l2 e2, (if 3 ≤ o ∧ o ≤ 5 then textR 17 l1 e1 else ([], l1, e1)) = (s, l2, e2) := ⟨_, _, _, rfl⟩
  rw [hs] at h
  simp only at h
  obtain ⟨t, l3, e3, ht⟩ : ∃ t l3 e3, (if o = 4 then textR 17 l2 e2 else ([], l2, e2)) = (t, l3, e3) := ⟨_, _, _, rfl⟩
  rw [ht] at h
  simp only at h
  obtain ⟨k, l4, e4, hk⟩ : ∃ k l4 e4, (if o = 6 then (1, l3, e3) else if 7 ≤ o then withinR 0 32 l3 e3 else (0, l3, e3)) = (k, l4, e4) := ⟨_, _, _, rfl⟩
  rw [hk] at h
  simp only [Prod.mk.injEq] at h
  obtain ⟨rfl, rfl, rfl⟩ := h
  have K : e3 = 0 ∧ l3 = (if 7 ≤ (o : Int) then [opB (k : Int)] else []) ++ l4 := by
    split at hk
    · rename_i h6
      simp only [Prod.mk.injEq] at hk
      exact ⟨hk.2.2, by rw [if_neg (by omega), hk.2.1]; rfl⟩
    · split at hk
      · rename_i h7
        obtain ⟨g1, g2, g3, g4⟩ := withinR_back hk
        exact ⟨g1, by rw [if_pos (by omega), opB_put (x := (k : Int)) rfl (by omega), g2]⟩
      · rename_i h7
        simp only [Prod.mk.injEq] at hk
        exact ⟨hk.2.2, by rw [if_neg (by omega), hk.2.1]; rfl⟩
  have T : e2 = 0 ∧ l2 = (if (o : Int) = 4 then txtB t else []) ++ l3 := by
    obtain ⟨rfl, -⟩ := K
    split at ht
    · rename_i h4
      obtain ⟨g1, g2, -⟩ := textR_back ht
      exact ⟨g1, by rw [if_pos (by omega), g2]⟩
    · rename_i h4
      simp only [Prod.mk.injEq] at ht
      exact ⟨ht.2.2, by rw [if_neg (by omega), ht.2.1]; rfl⟩
  have S : e1 = 0 ∧ l1 = (if 3 ≤ (o : Int) ∧ (o : Int) ≤ 5 then txtB s else []) ++ l2 := by
    obtain ⟨rfl, -⟩ := T
    split at hs
    · rename_i h4
      obtain ⟨g1, g2, -⟩ := textR_back hs
      exact ⟨g1, by rw [if_pos (by omega), g2]⟩
    · rename_i h4
      simp only [Prod.mk.injEq] at hs
      exact ⟨hs.2.2, by rw [if_neg (by omega), hs.2.1]; rfl⟩
  obtain ⟨rfl, hS⟩ := S
  obtain ⟨g1, g2, g3, g4⟩ := withinR_back ha
  refine ⟨g1, ?_⟩
  rw [g2, ← opB_put (x := (o : Int)) rfl (by omega), hS, T.2, K.2]
  simp [nodeB]
theorem depV_all : ∀ {l : List Nd} {d k : Nat}, depV l d = some k → ∀ x ∈ l, nodeV x = true
  | [], _, _, _, x, hx => by cases hx
  | n :: l, d, k, h, x, hx => by
    rw [depV] at h
    cases hc : nodeV n && decide (kidsN n ≤ d) with
    | false => rw [hc] at h; simp at h
    | true =>
      rw [hc] at h
      rcases List.mem_cons.1 hx with rfl | hx
      · exact (Bool.and_eq_true_iff.1 hc).1
      · exact depV_all h x hx
theorem rightN_all {l : List Nd} (h : rightN l = true) : ∀ x ∈ l, nodeV x = true := depV_all (rightN_iff.1 h).2.2
theorem readF_put (l : List Nd) (h : rightN l = true) : readF (filterB l) = (l, 0) :=
  allR2_put l h (by have := (rightN_iff.1 h).2.1; omega) (by omega) fun x hx r => nodeRd_put x r (rightN_all h x hx)
theorem readF_back {b : List UInt8} {l : List Nd} (h : readF b = (l, 0)) : filterB l = b ∧ rightN l = true :=
  have ⟨h1, h2, _⟩ := allR2_back (g := nodeB) (fun _ _ _ _ hx => nodeRd_back hx) h
  ⟨h2.symm, h1⟩
end Go.Proofs.Ytfklochgciijkaa
