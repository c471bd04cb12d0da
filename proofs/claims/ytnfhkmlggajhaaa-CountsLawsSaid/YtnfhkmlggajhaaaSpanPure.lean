/-
  Plain facts on ranges (layer 7): which are right, which texts they have, what two have together, which ends ahead. No program in this text.
-/
import Derived.Test.YtnfhkmlggajhaaaKeyPure
namespace Go.Proofs.Ytnfhkmlggajhaaa

/-- A range: from lo on, ahead of hi, or Open. -/
structure Rng where
  lo : List UInt8
  hi : List UInt8
  op : Bool
def zeroR : Rng := ⟨[], [], false⟩
def allR : Rng := ⟨[], [], true⟩
def rightR (r : Rng) : Bool := decide (r.lo.length ≤ 17) && (match r.op with | true => r.hi.isEmpty | false => decide (r.hi.length ≤ 17) && ltB r.lo r.hi)
/-- Is a text ahead of a range's end? -/
def aheadR (r : Rng) (s : List UInt8) : Bool := r.op || ltB s r.hi
def hasR (r : Rng) (s : List UInt8) : Bool := rightR r && !ltB s r.lo && aheadR r s
def ofR (k : List UInt8) : Rng := match decide (k.length ≤ 16) with | true => ⟨k, k ++ [0], false⟩ | false => zeroR
def prefixR (p : List UInt8) : Rng := match decide (p.length ≤ 16) with
  | true => (match endV p with | some e => ⟨p, e, false⟩ | none => ⟨p, [], true⟩)
  | false => zeroR

theorem rightR_open {r : Rng} (h : r.op = true) : rightR r = (decide (r.lo.length ≤ 17) && r.hi.isEmpty) := by unfold rightR; rw [h]
theorem rightR_shut {r : Rng} (h : r.op = false) : rightR r = (decide (r.lo.length ≤ 17) && (decide (r.hi.length ≤ 17) && ltB r.lo r.hi)) := by unfold rightR; rw [h]
theorem rightR_lo {r : Rng} (h : rightR r = true) : r.lo.length ≤ 17 := by
  unfold rightR at h; simp only [Bool.and_eq_true, decide_eq_true_eq] at h; exact h.1
theorem rightR_hi {r : Rng} (h : rightR r = true) : r.hi.length ≤ 17 := by
  cases ho : r.op with
  | true => rw [rightR_open ho] at h; simp only [Bool.and_eq_true, List.isEmpty_iff] at h; rw [h.2]; simp
  | false => rw [rightR_shut ho] at h; simp only [Bool.and_eq_true, decide_eq_true_eq] at h; exact h.2.1
theorem rightR_op {r : Rng} (h : rightR r = true) (ho : r.op = true) : r.hi = [] := by
  rw [rightR_open ho] at h; simp only [Bool.and_eq_true, List.isEmpty_iff] at h; exact h.2
theorem rightR_lt {r : Rng} (h : rightR r = true) (ho : r.op = false) : ltB r.lo r.hi = true := by
  rw [rightR_shut ho] at h; simp only [Bool.and_eq_true, decide_eq_true_eq] at h; exact h.2.2
theorem rightR_iff {r : Rng} : rightR r = true ↔ r.lo.length ≤ 17 ∧ r.hi.length ≤ 17 ∧ (r.op = true → r.hi = []) ∧ (r.op = false → ltB r.lo r.hi = true) := by
  constructor
  · intro h; exact ⟨rightR_lo h, rightR_hi h, rightR_op h, rightR_lt h⟩
  · rintro ⟨h1, h2, h3, h4⟩
    cases ho : r.op with
    | true => rw [rightR_open ho, decide_eq_true h1, h3 ho]; rfl
    | false => rw [rightR_shut ho, decide_eq_true h1, decide_eq_true h2, h4 ho]; rfl
theorem rightR_zero : rightR zeroR = false := rfl
theorem hasR_zero (s : List UInt8) : hasR zeroR s = false := rfl
theorem hasR_all (s : List UInt8) : hasR allR s = true := by
  unfold hasR allR aheadR; rw [ltB_nil]; rfl
theorem rightR_first {r : Rng} (h : rightR r = true) : aheadR r r.lo = true := by
  unfold aheadR
  cases ho : r.op with
  | true => rfl
  | false => rw [rightR_lt h ho]; rfl
theorem ofR_short {k : List UInt8} (h : k.length ≤ 16) : ofR k = ⟨k, k ++ [0], false⟩ := by unfold ofR; rw [decide_eq_true h]
theorem ofR_long {k : List UInt8} (h : 16 < k.length) : ofR k = zeroR := by unfold ofR; rw [decide_eq_false (by omega)]
theorem ofR_right {k : List UInt8} (h : k.length ≤ 16) : rightR (ofR k) = true := by
  rw [ofR_short h, rightR_iff]
  exact ⟨by simp only; omega, by simp only [List.length_append, List.length_singleton]; omega, (fun h => by cases h), fun _ => ltB_next k⟩
theorem ofR_has {k : List UInt8} (h : k.length ≤ 16) (s : List UInt8) : hasR (ofR k) s = decide (s = k) := by
  unfold hasR
  rw [ofR_right h, ofR_short h]
  simp only [aheadR, Bool.true_and, Bool.false_or]
  by_cases e : s = k
  · subst e; rw [ltB_irrefl, ltB_next, decide_eq_true rfl]; rfl
  · rw [decide_eq_false e]
    rcases ltB_three s k with ⟨h1, _, _⟩ | ⟨h1, h2, _⟩ | ⟨_, _, h3⟩
    · rw [h1]; rfl
    · rw [h1, next_none h2]; rfl
    · exact absurd h3 e
theorem prefixR_some {p e : List UInt8} (h : p.length ≤ 16) (he : endV p = some e) : prefixR p = ⟨p, e, false⟩ := by unfold prefixR; rw [decide_eq_true h, he]
theorem prefixR_none {p : List UInt8} (h : p.length ≤ 16) (he : endV p = none) : prefixR p = ⟨p, [], true⟩ := by unfold prefixR; rw [decide_eq_true h, he]
theorem prefixR_long {p : List UInt8} (h : 16 < p.length) : prefixR p = zeroR := by unfold prefixR; rw [decide_eq_false (by omega)]
theorem endV_gt : ∀ {p e : List UInt8}, endV p = some e → ltB p e = true := fun {p e} h => by
  have h1 := end_between p p
  rw [ltB_irrefl, h] at h1
  have h2 : p.isPrefixOf p = true := List.isPrefixOf_iff_prefix.2 List.prefix_rfl
  rw [h2] at h1
  simpa [aheadO] using h1
theorem prefixR_right {p : List UInt8} (h : p.length ≤ 16) : rightR (prefixR p) = true := by
  rw [rightR_iff]
  cases he : endV p with
  | some e =>
    rw [prefixR_some h he]
    have := endV_len he
    exact ⟨by simp only; omega, by simp only; omega, (fun h => by cases h), fun _ => endV_gt he⟩
  | none =>
    rw [prefixR_none h he]
    exact ⟨by simp only; omega, by simp, fun _ => rfl, (fun h => by cases h)⟩
theorem prefixR_has {p : List UInt8} (h : p.length ≤ 16) (s : List UInt8) : hasR (prefixR p) s = p.isPrefixOf s := by
  unfold hasR
  rw [prefixR_right h, ← end_between p s, Bool.true_and]
  cases he : endV p with
  | some e => rw [prefixR_some h he]; rfl
  | none => rw [prefixR_none h he]; rfl
theorem prefixR_has_long {p : List UInt8} (h : 16 < p.length) (s : List UInt8) : hasR (prefixR p) s = false := by rw [prefixR_long h]; rfl
theorem ofR_has_long {p : List UInt8} (h : 16 < p.length) (s : List UInt8) : hasR (ofR p) s = false := by rw [ofR_long h]; rfl

/-! Which ends ahead. -/
/-- Does r's end stand ahead of t's? -/
def endLt (r t : Rng) : Bool := !r.op && (t.op || ltB r.hi t.hi)
def endsR (r t : Rng) : Int := match rightR r && rightR t with
  | true => (match endLt r t with | true => -1 | false => (match endLt t r with | true => 1 | false => 0))
  | false => 0
theorem endLt_asymm {r t : Rng} (h : endLt r t = true) : endLt t r = false := by
  unfold endLt at h ⊢
  cases ho : r.op <;> cases hp : t.op <;> rw [ho, hp] at h <;> first | (cases h; done) | rfl | skip
  simp only [Bool.not_false, Bool.true_and, Bool.false_or] at h ⊢
  exact ltB_asymm h
theorem endsR_lt {r t : Rng} (hr : rightR r = true) (ht : rightR t = true) (h : endLt r t = true) : endsR r t = -1 := by unfold endsR; rw [hr, ht, h]; rfl
theorem endsR_gt {r t : Rng} (hr : rightR r = true) (ht : rightR t = true) (h : endLt t r = true) : endsR r t = 1 := by unfold endsR; rw [hr, ht, h, endLt_asymm h]; rfl
theorem endsR_eq {r t : Rng} (h : endLt r t = false) (h' : endLt t r = false) : endsR r t = 0 := by unfold endsR; rw [h, h']; cases rightR r && rightR t <;> rfl
theorem endsR_wrong {r t : Rng} (h : (rightR r && rightR t) = false) : endsR r t = 0 := by unfold endsR; rw [h]
theorem endsR_three (r t : Rng) : (endsR r t = -1 ∧ endsR t r = 1) ∨ (endsR r t = 1 ∧ endsR t r = -1) ∨ (endsR r t = 0 ∧ endsR t r = 0) := by
  cases hr : rightR r with
  | false => exact .inr (.inr ⟨endsR_wrong (by rw [hr]; rfl), endsR_wrong (by rw [hr, Bool.and_false])⟩)
  | true => cases ht : rightR t with
    | false => exact .inr (.inr ⟨endsR_wrong (by rw [ht, Bool.and_false]), endsR_wrong (by rw [ht]; rfl)⟩)
    | true => cases h : endLt r t with
      | true => exact .inl ⟨endsR_lt hr ht h, endsR_gt ht hr h⟩
      | false => cases h' : endLt t r with
        | true => exact .inr (.inl ⟨endsR_gt hr ht h', endsR_lt ht hr h'⟩)
        | false => exact .inr (.inr ⟨endsR_eq h h', endsR_eq h' h⟩)
/-- Ends of right ranges that stand at one place are one. -/
theorem end_same {r t : Rng} (hr : rightR r = true) (ht : rightR t = true) (h : endLt r t = false) (h' : endLt t r = false) : r.hi = t.hi ∧ r.op = t.op := by
  unfold endLt at h h'
  cases ho : r.op <;> cases hp : t.op <;> rw [ho, hp] at h h' <;> first | (cases h; done) | (cases h'; done) | skip
  · simp only [Bool.not_false, Bool.true_and, Bool.false_or] at h h'
    exact ⟨ltB_total h h', rfl⟩
  · exact ⟨by rw [rightR_op hr ho, rightR_op ht hp], rfl⟩
theorem ahead_end {r t : Rng} (h : endLt t r = false) {s : List UInt8} (ha : aheadR r s = true) : aheadR t s = true := by
  unfold endLt at h
  unfold aheadR at ha ⊢
  cases ho : r.op <;> cases hp : t.op <;> rw [ho, hp] at h <;> rw [ho] at ha <;> first | (cases h; done) | rfl | skip
  simp only [Bool.not_false, Bool.true_and, Bool.false_or] at h ha ⊢
  exact ltB_of_lt_of_le ha h

/-! What two have together. -/
/-- The one whose end stands ahead, from the other's lo on. -/
def joinR (a b : Rng) : Rng :=
  let lo := match ltB a.lo b.lo with | true => b.lo | false => a.lo
  match endLt b a with | true => ⟨lo, b.hi, b.op⟩ | false => ⟨lo, a.hi, a.op⟩
def meetR (a b : Rng) : Option Rng := match rightR a && rightR b && rightR (joinR a b) with | true => some (joinR a b) | false => none
theorem joinR_lo (a b : Rng) : (joinR a b).lo = match ltB a.lo b.lo with | true => b.lo | false => a.lo := by
  unfold joinR; cases endLt b a <;> rfl
theorem joinR_lo_or (a b : Rng) : (joinR a b).lo = a.lo ∨ (joinR a b).lo = b.lo := by
  rw [joinR_lo]; cases ltB a.lo b.lo
  · exact .inl rfl
  · exact .inr rfl
theorem joinR_notlt (a b : Rng) (s : List UInt8) : (!ltB s (joinR a b).lo) = (!ltB s a.lo && !ltB s b.lo) := by
  rw [joinR_lo]
  cases h : ltB a.lo b.lo with
  | true =>
    show (!ltB s b.lo) = _
    cases hb : ltB s b.lo with
    | true => simp
    | false =>
      have : ltB s a.lo = false := by
        cases ha : ltB s a.lo with
        | false => rfl
        | true => rw [ltB_trans ha h] at hb; cases hb
      rw [this]; rfl
  | false =>
    show (!ltB s a.lo) = _
    cases ha : ltB s a.lo with
    | true => simp
    | false => rw [leB_trans h ha]; rfl
theorem joinR_ahead (a b : Rng) (s : List UInt8) : aheadR (joinR a b) s = (aheadR a s && aheadR b s) := by
  cases h : endLt b a with
  | true =>
    have e : aheadR (joinR a b) s = aheadR b s := by unfold joinR aheadR; rw [h]
    rw [e]
    cases hb : aheadR b s with
    | false => simp
    | true => rw [ahead_end (endLt_asymm h) hb]; rfl
  | false =>
    have e : aheadR (joinR a b) s = aheadR a s := by unfold joinR aheadR; rw [h]
    rw [e]
    cases ha : aheadR a s with
    | false => simp
    | true => rw [ahead_end h ha]; rfl
theorem joinR_right {a b : Rng} (ha : rightR a = true) (hb : rightR b = true) : rightR (joinR a b) = aheadR (joinR a b) (joinR a b).lo := by
  have hl : (joinR a b).lo.length ≤ 17 := by rcases joinR_lo_or a b with e | e <;> rw [e]; exact rightR_lo ha; exact rightR_lo hb
  have hh : (joinR a b).hi.length ≤ 17 := by
    unfold joinR; cases endLt b a
    · exact rightR_hi (r := a) ha
    · exact rightR_hi (r := b) hb
  have ho : (joinR a b).op = true → (joinR a b).hi = [] := by
    unfold joinR; cases endLt b a
    · exact rightR_op (r := a) ha
    · exact rightR_op (r := b) hb
  generalize joinR a b = m at *
  unfold aheadR
  cases hm : m.op with
  | true => rw [rightR_open hm, decide_eq_true hl, ho hm]; rfl
  | false => rw [rightR_shut hm, decide_eq_true hl, decide_eq_true hh]; rfl
theorem meetR_some {a b m : Rng} (h : meetR a b = some m) : rightR a = true ∧ rightR b = true ∧ rightR m = true ∧ m = joinR a b := by
  unfold meetR at h
  cases h3 : rightR a && rightR b && rightR (joinR a b) with
  | false => rw [h3] at h; cases h
  | true =>
    rw [h3] at h
    simp only [Bool.and_eq_true] at h3
    injection h with h
    subst h
    exact ⟨h3.1.1, h3.1.2, h3.2, rfl⟩
theorem meetR_of {a b : Rng} (ha : rightR a = true) (hb : rightR b = true) (hm : rightR (joinR a b) = true) : meetR a b = some (joinR a b) := by unfold meetR; rw [ha, hb, hm]; rfl
theorem meetR_wrong {a b : Rng} (h : (rightR a && rightR b) = false) : meetR a b = none := by unfold meetR; rw [h]; rfl
theorem meetR_none {a b : Rng} (h : rightR (joinR a b) = false) : meetR a b = none := by unfold meetR; rw [h, Bool.and_false]
theorem meetR_has {a b m : Rng} (h : meetR a b = some m) (s : List UInt8) : hasR m s = (hasR a s && hasR b s) := by
  obtain ⟨ha, hb, hm, rfl⟩ := meetR_some h
  unfold hasR
  rw [ha, hb, hm, joinR_notlt, joinR_ahead]
  cases ltB s a.lo <;> cases ltB s b.lo <;> cases aheadR a s <;> cases aheadR b s <;> rfl
theorem meetR_lo {a b m : Rng} (h : meetR a b = some m) : m.lo = a.lo ∨ m.lo = b.lo := by
  obtain ⟨_, _, _, rfl⟩ := meetR_some h
  exact joinR_lo_or a b
theorem joinR_comm {a b : Rng} (ha : rightR a = true) (hb : rightR b = true) : joinR b a = joinR a b := by
  have e1 : (match ltB b.lo a.lo with | true => a.lo | false => b.lo) = (match ltB a.lo b.lo with | true => b.lo | false => a.lo) := by
    rcases ltB_three a.lo b.lo with ⟨h1, h2, _⟩ | ⟨h1, h2, _⟩ | ⟨h1, h2, h3⟩ <;> rw [h1, h2]
    exact h3.symm
  unfold joinR
  rw [e1]
  cases h : endLt a b with
  | true => rw [endLt_asymm h]
  | false => cases h' : endLt b a with
    | true => rfl
    | false =>
      obtain ⟨e2, e3⟩ := end_same ha hb h h'
      simp only [e2, e3]
theorem meetR_comm (a b : Rng) : meetR b a = meetR a b := by
  cases ha : rightR a with
  | false => rw [meetR_wrong (by rw [ha, Bool.and_false]), meetR_wrong (by rw [ha]; rfl)]
  | true => cases hb : rightR b with
    | false => rw [meetR_wrong (by rw [hb]; rfl), meetR_wrong (by rw [hb, Bool.and_false])]
    | true => unfold meetR; rw [joinR_comm ha hb, ha, hb]
/-- Where two have nothing, the one's first text isn't in both. -/
theorem meetR_no {a b : Rng} (h : meetR a b = none) : (hasR a b.lo && hasR b b.lo) = false := by
  cases h1 : hasR a b.lo with
  | false => rfl
  | true => cases h2 : hasR b b.lo with
    | false => rfl
    | true =>
      unfold hasR at h1 h2
      simp only [Bool.and_eq_true, Bool.not_eq_true'] at h1 h2
      obtain ⟨⟨ha, h3⟩, h4⟩ := h1
      obtain ⟨⟨hb, h5⟩, h6⟩ := h2
      have e : (joinR a b).lo = b.lo := by
        rw [joinR_lo]
        cases h7 : ltB a.lo b.lo with
        | true => rfl
        | false => exact ltB_total h7 h3
      have hm : rightR (joinR a b) = true := by rw [joinR_right ha hb, e, joinR_ahead, h4, h6]; rfl
      rw [meetR_of ha hb hm] at h
      cases h
theorem meetR_no' {a b : Rng} (h : meetR a b = none) : (hasR b a.lo && hasR a a.lo) = false := meetR_no ((meetR_comm a b).trans h)
end Go.Proofs.Ytnfhkmlggajhaaa
