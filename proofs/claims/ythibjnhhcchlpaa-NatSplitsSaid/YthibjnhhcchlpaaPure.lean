/-
  Plain facts on integers and lists for the layer of small numbers: no program is named here.
-/
import Derived.Lib.BitFns
namespace Go.Proofs.Ythibjnhhcchlpaa

/-- How often a number is halved, rounded up, till it is 1. -/
def logV (n : Int) : Int := if n ≤ 1 then 0 else (Lib.bitLen (n - 1).toNat : Nat)

theorem bitLen_between (k : Nat) : ∀ x : Nat, k ≤ 64 → x < 2 ^ k → (k = 0 ∨ 2 ^ (k - 1) ≤ x) → Lib.bitLen x = k := by
  induction k with
  | zero => intro x _ hx _; have : x = 0 := by simpa using hx
            subst this; rfl
  | succ k ih =>
    intro x hk hx hlo
    have hlo' : 2 ^ k ≤ x := by rcases hlo with h | h
                                · omega
                                · simpa using h
    have hpos : 0 < 2 ^ k := Nat.two_pow_pos k
    have h64 : x < 2 ^ 64 := Nat.lt_of_lt_of_le hx (Nat.pow_le_pow_right (by decide) hk)
    have e2 : 2 ^ (k + 1) = 2 * 2 ^ k := by rw [Nat.pow_succ, Nat.mul_comm]
    rw [Lib.bitLen_half x (by omega) h64, ih (x / 2) (by omega) (by omega) ?_]
    · omega
    · rcases Nat.eq_zero_or_pos k with h0 | h0
      · exact .inl h0
      · right
        have e3 : 2 ^ k = 2 * 2 ^ (k - 1) := by
          have : k = (k - 1) + 1 := by omega
          rw [this, Nat.pow_succ, Nat.mul_comm]; rfl
        omega

/-- What the loop by doubling keeps: m is the k-th power of two, and the one before lies below n. -/
def LogInv (n : Int) (k : Nat) (m : Int) : Prop := m = ((2 ^ k : Nat) : Int) ∧ (k = 0 ∨ ((2 ^ (k - 1) : Nat) : Int) < n)

theorem LogInv.start (n : Int) : LogInv n 0 1 := ⟨rfl, .inl rfl⟩
theorem LogInv.pos {n m : Int} {k : Nat} (h : LogInv n k m) : 1 ≤ m := by
  rw [h.1]; have := Nat.two_pow_pos k; omega
theorem LogInv.next {n m : Int} {k : Nat} (h : LogInv n k m) (hm : m < n) : LogInv n (k + 1) (2 * m) := by
  refine ⟨?_, .inr ?_⟩
  · rw [h.1, Nat.pow_succ]; omega
  · rw [Nat.add_sub_cancel, ← h.1]; exact hm
theorem LogInv.le {n m : Int} {k j : Nat} (h : LogInv n k m) (hk : k ≤ j) : m ≤ ((2 ^ j : Nat) : Int) := by
  rw [h.1]; have := Nat.pow_le_pow_right (n := 2) (by decide) hk; omega
theorem LogInv.done {n m : Int} {k : Nat} (h : LogInv n k m) (hk : k ≤ 62) (hm : n ≤ m) : logV n = k := by
  unfold logV
  obtain ⟨h1, h2⟩ := h
  rcases h2 with h0 | h2
  · subst h0
    have : n ≤ 1 := by rw [h1] at hm; simpa using hm
    rw [if_pos this]; rfl
  · have hp := Nat.two_pow_pos (k - 1)
    have hn : ¬ n ≤ 1 := by omega
    rw [if_neg hn, bitLen_between k _ (by omega) (by rw [h1] at hm; omega) (.inr (by omega))]
theorem LogInv.last {n m : Int} (h : LogInv n 62 m) (hm : m < n) (hn : n ≤ 9223372036854775807) : logV n = 63 := by
  unfold logV
  have e : (2 ^ 62 : Nat) = 4611686018427387904 := by decide
  have h1 : m = 4611686018427387904 := by rw [h.1, e]; rfl
  rw [if_neg (by omega), bitLen_between 63 _ (by omega) (by have : (2 ^ 63 : Nat) = 9223372036854775808 := by decide
                                                            omega) (.inr (by show 2 ^ 62 ≤ _; omega))]
  rfl
theorem logV_half (n : Int) (h1 : 1 < n) (h2 : n ≤ 9223372036854775807) : logV (n - n / 2) = logV n - 1 := by
  unfold logV
  rw [if_neg (by omega : ¬ n ≤ 1)]
  have e64 : (2 ^ 64 : Nat) = 18446744073709551616 := by decide
  rw [Lib.bitLen_half (n - 1).toNat (by omega) (by omega)]
  by_cases h : n - n / 2 ≤ 1
  · rw [if_pos h]
    have : (n - 1).toNat / 2 = 0 := by omega
    rw [this]; rfl
  · rw [if_neg h]
    have : (n - n / 2 - 1).toNat = (n - 1).toNat / 2 := by omega
    rw [this]; omega

/-- The middle of two numbers. -/
def midV (lo hi : Int) : Int := if hi ≤ lo then lo else lo + (hi - lo) / 2

/-- Held from lo to hi. -/
def holdV (n lo hi : Int) : Int := if hi < lo ∨ n < lo then lo else if hi < n then hi else n

/-- Numbers together, from the left, with what lies together already. -/
def sumGo (most : Int) : Int → List Int → Int × Int
  | s, [] => (s, 0)
  | s, x :: r => if x < 0 then (0, 2) else if most - s < x then (0, 20) else sumGo most (s + x) r
def sumV (most : Int) (l : List Int) : Int × Int := if most < 0 ∧ l = [] then (0, 20) else sumGo most 0 l

theorem sumGo_neg (most s x : Int) (r : List Int) (h : x < 0) : sumGo most s (x :: r) = (0, 2) := by rw [sumGo, if_pos h]
theorem sumGo_over (most s x : Int) (r : List Int) (h : 0 ≤ x) (h2 : most - s < x) : sumGo most s (x :: r) = (0, 20) := by rw [sumGo, if_neg (by omega), if_pos h2]
theorem sumGo_next (most s x : Int) (r : List Int) (h : 0 ≤ x) (h2 : x ≤ most - s) : sumGo most s (x :: r) = sumGo most (s + x) r := by rw [sumGo, if_neg (by omega), if_neg (by omega)]
theorem drop_cons_getD (l : List Int) (k : Nat) (h : k < l.length) : l.drop k = l.getD k 0 :: l.drop (k + 1) := by
  rw [List.drop_eq_getElem_cons h]; simp [List.getD, List.getElem?_eq_getElem h]

/-- Two goes: what the first leaves is what the second begins with. -/
theorem sumGo_append (most : Int) : ∀ (a : List Int) (s : Int) (b : List Int), sumGo most s (a ++ b) = if (sumGo most s a).2 = 0 then sumGo most (sumGo most s a).1 b else sumGo most s a
  | [], s, b => by simp [sumGo]
  | x :: r, s, b => by
    rw [List.cons_append, sumGo, sumGo]
    by_cases h : x < 0
    · simp [h]
    · by_cases h2 : most - s < x
      · simp [h, h2]
      · simp only [h, h2, if_false]
        exact sumGo_append most r (s + x) b
theorem sumGo_shift (most : Int) : ∀ (l : List Int) (s t : Int), sumGo (most - t) s l = if (sumGo most (s + t) l).2 = 0 then ((sumGo most (s + t) l).1 - t, 0) else sumGo most (s + t) l
  | [], s, t => by simp [sumGo]
  | x :: r, s, t => by
    rw [sumGo, sumGo]
    by_cases h : x < 0
    · simp [h]
    · have e : (most - t - s < x) ↔ (most - (s + t) < x) := by omega
      by_cases h2 : most - (s + t) < x
      · simp [h, h2, e.mpr h2]
      · simp only [h, h2, if_false, if_neg (fun q => h2 (e.mp q))]
        have := sumGo_shift most r (s + x) t
        rw [this, show s + x + t = s + t + x by omega]
theorem sumGo_ok (most : Int) : ∀ (l : List Int) (s : Int), 0 ≤ s → s ≤ most → 0 ≤ (sumGo most s l).1 ∧ (sumGo most s l).1 ≤ most ∧ ((sumGo most s l).2 ≠ 0 → (sumGo most s l).1 = 0)
  | [], s, h0, h1 => by simp [sumGo]; omega
  | x :: r, s, h0, h1 => by
    rw [sumGo]
    by_cases h : x < 0
    · simp [h]; omega
    · by_cases h2 : most - s < x
      · simp [h, h2]; omega
      · simp only [h, h2, if_false]
        exact sumGo_ok most r (s + x) (by omega) (by omega)
theorem sumGo_code (most : Int) : ∀ (l : List Int) (s : Int), (sumGo most s l).2 = 0 ∨ (sumGo most s l).2 = 2 ∨ (sumGo most s l).2 = 20
  | [], s => by simp [sumGo]
  | x :: r, s => by
    rw [sumGo]
    by_cases h : x < 0
    · simp [h]
    · by_cases h2 : most - s < x
      · simp [h, h2]
      · simp only [h, h2, if_false]
        exact sumGo_code most r (s + x)

/-- The least of some. -/
def leastGo : Int → List Int → Int
  | m, [] => m
  | m, x :: r => leastGo (min m x) r
def leastV : List Int → Int
  | [] => 0
  | x :: r => leastGo x r

theorem leastGo_le : ∀ (l : List Int) (m : Int), leastGo m l ≤ m ∧ ∀ x ∈ l, leastGo m l ≤ x
  | [], m => by simp [leastGo]
  | x :: r, m => by
    have ih := leastGo_le r (min m x)
    rw [leastGo]
    refine ⟨by omega, fun y hy => ?_⟩
    rcases List.mem_cons.mp hy with rfl | hy
    · omega
    · exact ih.2 y hy
theorem leastGo_mem : ∀ (l : List Int) (m : Int), leastGo m l = m ∨ leastGo m l ∈ l
  | [], m => .inl rfl
  | x :: r, m => by
    rw [leastGo]
    rcases leastGo_mem r (min m x) with h | h
    · rw [h]
      by_cases hm : m ≤ x
      · left; omega
      · right; rw [show min m x = x by omega]; exact List.mem_cons_self
    · exact .inr (List.mem_cons_of_mem _ h)
theorem leastV_le (l : List Int) (x : Int) (h : x ∈ l) : leastV l ≤ x := by
  cases l with
  | nil => cases h
  | cons y r =>
    have := leastGo_le r y
    rcases List.mem_cons.mp h with rfl | h
    · exact this.1
    · exact this.2 x h
theorem leastV_mem (l : List Int) (h : l ≠ []) : leastV l ∈ l := by
  cases l with
  | nil => exact absurd rfl h
  | cons y r =>
    rcases leastGo_mem r y with h | h
    · show leastGo y r ∈ _; rw [h]; exact List.mem_cons_self
    · exact List.mem_cons_of_mem _ h
end Go.Proofs.Ythibjnhhcchlpaa
