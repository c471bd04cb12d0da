/-
  Plain facts on numbers as bytes and on a reader of them: no program is named here.
-/
import Derived.Lib.BitFns
import Derived.Test.YtonghhnodpjkfaaMore
namespace Go.Proofs.Ytonghhnodpjkfaa

/-- The bytes of a number: seven bits a byte, the lowest first. -/
def putV (n : Nat) : List UInt8 := if n < 128 then [UInt8.ofNat n] else UInt8.ofNat (n % 128 + 128) :: putV (n / 128)
termination_by n
decreasing_by omega
theorem putV_small {n : Nat} (h : n < 128) : putV n = [UInt8.ofNat n] := by rw [putV, if_pos h]
theorem putV_big {n : Nat} (h : ¬ n < 128) : putV n = UInt8.ofNat (n % 128 + 128) :: putV (n / 128) := by rw [putV, if_neg h]
theorem putV_len (k : Nat) : ∀ n, n < 128 ^ (k + 1) → (putV n).length ≤ k + 1 := by
  induction k with
  | zero => intro n h; rw [putV_small (by simpa using h)]; simp
  | succ k ih =>
    intro n h
    by_cases hn : n < 128
    · rw [putV_small hn]; simp
    · rw [putV_big hn, List.length_cons]
      have := ih (n / 128) (by rw [Nat.pow_succ] at h; omega)
      omega
theorem putV_len10 (n : Nat) (h : n ≤ 9223372036854775807) : (putV n).length ≤ 9 := by
  have e : 128 ^ (8 + 1) = 9223372036854775808 := by decide
  exact putV_len 8 n (by omega)
theorem putV_pos (n : Nat) : 0 < (putV n).length := by
  by_cases h : n < 128
  · rw [putV_small h]; simp
  · rw [putV_big h]; simp

/-- The bytes of numbers, one behind the other. -/
def putsV (l : List Int) : List UInt8 := l.flatMap fun n => putV n.toNat
theorem putsV_nil : putsV [] = [] := rfl
theorem putsV_cons (n : Int) (l : List Int) : putsV (n :: l) = putV n.toNat ++ putsV l := by simp [putsV]
theorem putsV_snoc (l : List Int) (n : Int) : putsV (l ++ [n]) = putsV l ++ putV n.toNat := by simp [putsV]
theorem putsV_len (l : List Int) (h : ∀ n ∈ l, n ≤ 9223372036854775807) : (putsV l).length ≤ 9 * l.length := by
  induction l with
  | nil => simp [putsV]
  | cons x r ih =>
    rw [putsV_cons, List.length_append, List.length_cons]
    have h1 := putV_len10 x.toNat (by have := h x (by simp); omega)
    have h2 := ih fun n hn => h n (by simp [hn])
    omega

/-- What bytes are as a number. -/
def valV : List UInt8 → Nat
  | [] => 0
  | c :: r => c.toNat % 128 + 128 * valV r

/-- The number that begins some bytes, how many it has, and what is wrong: from byte i on. -/
def cutGo : Nat → Nat → List UInt8 → Nat × Nat × Nat
  | i, _, [] => if 8 ≤ i then (0, 0, 11) else (0, 0, 10)
  | i, a, c :: r =>
    if 8 ≤ i then (0, 0, 11)
    else if 128 ≤ c.toNat then cutGo (i + 1) (a + c.toNat % 128 * 128 ^ i) r
    else if (0 < i ∧ c.toNat = 0) ∨ 281474976710656 < a + c.toNat % 128 * 128 ^ i then (0, 0, 11)
    else (a + c.toNat % 128 * 128 ^ i, i + 1, 0)
def cutV (l : List UInt8) : Nat × Nat × Nat := cutGo 0 0 l

theorem cutGo_put : ∀ (n : Nat) (i a : Nat) (r : List UInt8), a + n * 128 ^ i ≤ 281474976710656 → (0 < i → 0 < n) → cutGo i a (putV n ++ r) = (a + n * 128 ^ i, i + (putV n).length, 0) := by
  intro n
  induction n using Nat.strongRecOn with
  | _ n ih =>
    intro i a r hm hi
    have hi8 : ¬ 8 ≤ i := by
      intro h8
      have hn : 0 < n := hi (by omega)
      have h1 : 128 ^ 8 ≤ 128 ^ i := Nat.pow_le_pow_right (by decide) h8
      have h2 : 128 ^ i ≤ n * 128 ^ i := Nat.le_mul_of_pos_left _ hn
      have h3 : 128 ^ 8 = 72057594037927936 := by decide
      omega
    by_cases h : n < 128
    · rw [putV_small h]
      have e : (UInt8.ofNat n).toNat = n := by simp; omega
      simp only [List.cons_append, List.nil_append, cutGo, if_neg hi8, e, List.length_cons, List.length_nil]
      rw [if_neg (by omega), Nat.mod_eq_of_lt h, if_neg ?_]
      rintro (⟨h1, h2⟩ | h1)
      · have := hi h1; omega
      · omega
    · rw [putV_big h]
      have e : (UInt8.ofNat (n % 128 + 128)).toNat = n % 128 + 128 := by simp; omega
      simp only [List.cons_append, cutGo, if_neg hi8, e, List.length_cons]
      have hm128 : (n % 128 + 128) % 128 = n % 128 := by omega
      have key : n % 128 * 128 ^ i + n / 128 * 128 ^ (i + 1) = n * 128 ^ i := by
        rw [Nat.pow_succ, Nat.mul_comm (128 ^ i) 128, ← Nat.mul_assoc, ← Nat.add_mul]
        congr 1; omega
      rw [if_pos (by omega), hm128, ih (n / 128) (by omega) (i + 1) _ r (by omega) (fun _ => by omega)]
      refine Prod.ext ?_ (Prod.ext ?_ rfl)
      · show a + n % 128 * 128 ^ i + n / 128 * 128 ^ (i + 1) = a + n * 128 ^ i
        omega
      · show i + 1 + (putV (n / 128)).length = i + ((putV (n / 128)).length + 1)
        omega
theorem cutV_put (n : Nat) (r : List UInt8) (h : n ≤ 281474976710656) : cutV (putV n ++ r) = (n, (putV n).length, 0) := by
  unfold cutV
  rw [cutGo_put n 0 0 r (by simpa using h) (by omega)]
  simp

theorem cutGo_back : ∀ (l : List UInt8) (i a n k : Nat), cutGo i a l = (n, k, 0) → ∃ m, n = a + m * 128 ^ i ∧ k = i + (putV m).length ∧ l.take (putV m).length = putV m ∧ (0 < i → 0 < m) := by
  intro l
  induction l with
  | nil => intro i a n k h; rw [cutGo] at h; split at h <;> simp at h
  | cons c r ih =>
    intro i a n k h
    rw [cutGo] at h
    by_cases h8 : 8 ≤ i
    · rw [if_pos h8] at h; simp at h
    · rw [if_neg h8] at h
      by_cases hc : 128 ≤ c.toNat
      · rw [if_pos hc] at h
        obtain ⟨m, h1, h2, h3, h4⟩ := ih (i + 1) _ n k h
        have hm := h4 (by omega)
        have hc256 := c.toNat_lt
        have hb : ¬ (c.toNat % 128 + 128 * m) < 128 := by omega
        have e1 : (c.toNat % 128 + 128 * m) / 128 = m := by omega
        have e2 : (c.toNat % 128 + 128 * m) % 128 + 128 = c.toNat := by omega
        have e3 : putV (c.toNat % 128 + 128 * m) = c :: putV m := by
          rw [putV_big hb, e1, e2]; simp
        refine ⟨c.toNat % 128 + 128 * m, ?_, ?_, ?_, fun _ => by omega⟩
        · rw [h1, Nat.pow_succ, Nat.add_mul, Nat.mul_comm (128 ^ i) 128, ← Nat.mul_assoc, Nat.mul_comm m 128]; omega
        · rw [e3, List.length_cons]; omega
        · rw [e3, List.length_cons, List.take_succ_cons, h3]
      · rw [if_neg hc] at h
        split at h
        · simp at h
        · rename_i hno
          simp only [Prod.mk.injEq] at h
          obtain ⟨h1, h2, -⟩ := h
          have e3 : putV c.toNat = [c] := by rw [putV_small (by omega)]; simp
          refine ⟨c.toNat, ?_, ?_, ?_, fun hi => ?_⟩
          · rw [← h1, Nat.mod_eq_of_lt (by omega)]
          · rw [e3]; simpa using h2.symm
          · rw [e3]; rfl
          · rcases Nat.eq_zero_or_pos c.toNat with h0 | h0
            · exact absurd (.inl ⟨hi, h0⟩) hno
            · exact h0
theorem cutV_back {l : List UInt8} {n k : Nat} (h : cutV l = (n, k, 0)) : k = (putV n).length ∧ l.take k = putV n ∧ k ≤ l.length := by
  obtain ⟨m, h1, h2, h3, -⟩ := cutGo_back l 0 0 n k h
  have e : m = n := by simpa using h1.symm
  subst e
  have hk : k = (putV m).length := by simpa using h2
  refine ⟨hk, hk ▸ h3, ?_⟩
  have := congrArg List.length h3
  rw [List.length_take] at this
  omega
theorem cutGo_max : ∀ (l : List UInt8) (i a : Nat), (cutGo i a l).1 ≤ 281474976710656 := by
  intro l
  induction l with
  | nil => intro i a; rw [cutGo]; split <;> simp
  | cons c r ih =>
    intro i a
    rw [cutGo]
    split
    · simp
    · split
      · exact ih _ _
      · split
        · simp
        · rename_i h; simp only; omega
theorem cutV_max (l : List UInt8) : (cutV l).1 ≤ 281474976710656 := cutGo_max l 0 0
theorem cutGo_err : ∀ (l : List UInt8) (i a : Nat), (cutGo i a l).2.2 ≠ 0 → (cutGo i a l).1 = 0 ∧ (cutGo i a l).2.1 = 0 := by
  intro l
  induction l with
  | nil => intro i a; rw [cutGo]; split <;> simp
  | cons c r ih =>
    intro i a
    rw [cutGo]
    split
    · simp
    · split
      · exact ih _ _
      · split <;> simp
theorem cutV_err {l : List UInt8} (h : (cutV l).2.2 ≠ 0) : (cutV l).1 = 0 ∧ (cutV l).2.1 = 0 := cutGo_err l 0 0 h
theorem cutGo_size : ∀ (l : List UInt8) (i a : Nat), i ≤ 8 → (cutGo i a l).2.1 ≤ 8 := by
  intro l
  induction l with
  | nil => intro i a _; rw [cutGo]; split <;> simp
  | cons c r ih =>
    intro i a hi
    rw [cutGo]
    split
    · simp
    · split
      · exact ih _ _ (by omega)
      · split <;> simp <;> omega
theorem cutV_size (l : List UInt8) : (cutV l).2.1 ≤ 8 := cutGo_size l 0 0 (by omega)
theorem cutV_le (l : List UInt8) : (cutV l).2.1 ≤ l.length := by
  by_cases h : (cutV l).2.2 = 0
  · exact (cutV_back (l := l) (n := (cutV l).1) (k := (cutV l).2.1) (by rw [← h])).2.2
  · rw [(cutV_err h).2]; omega

/-- The first k bytes all have 128 or more. -/
def Lead (l : List UInt8) (k : Nat) : Prop := k ≤ l.length ∧ ∀ j, j < k → 128 ≤ (l.getD j 0).toNat
theorem Lead.zero (l : List UInt8) : Lead l 0 := ⟨Nat.zero_le _, fun j h => by omega⟩
theorem Lead.next {l : List UInt8} {k : Nat} (h : Lead l k) (hk : k < l.length) (hc : 128 ≤ (l.getD k 0).toNat) : Lead l (k + 1) :=
  ⟨hk, fun j hj => by
    rcases Nat.lt_or_ge j k with h' | h'
    · exact h.2 j h'
    · obtain rfl : j = k := by omega
      exact hc⟩
theorem valV_snoc : ∀ (l : List UInt8) (c : UInt8), valV (l ++ [c]) = valV l + c.toNat % 128 * 128 ^ l.length
  | [], c => by simp [valV]
  | x :: l, c => by
    rw [List.cons_append, valV, valV, valV_snoc l c, List.length_cons, Nat.pow_succ, Nat.mul_add, Nat.mul_comm (128 ^ l.length) 128, ← Nat.mul_assoc, ← Nat.mul_assoc, Nat.mul_comm 128 (c.toNat % 128)]
    omega
theorem valV_take (l : List UInt8) (k : Nat) (h : k < l.length) : valV (l.take (k + 1)) = valV (l.take k) + (l.getD k 0).toNat % 128 * 128 ^ k := by
  rw [take_snoc_getD l k h, valV_snoc, List.length_take, Nat.min_eq_left (by omega)]
theorem valV_drop (l : List UInt8) (k : Nat) (h : k < l.length) : valV (l.drop k) = (l.getD k 0).toNat % 128 + 128 * valV (l.drop (k + 1)) := by
  rw [drop_cons_getD8 l k h, valV]
theorem valV_lt : ∀ (l : List UInt8), valV l < 128 ^ l.length
  | [] => by simp [valV]
  | c :: r => by
    have := valV_lt r
    rw [valV, List.length_cons, Nat.pow_succ]; omega
theorem valV_take_lt (l : List UInt8) (k : Nat) (h : k ≤ 8) : valV (l.take k) < 72057594037927936 := by
  have h1 := valV_lt (l.take k)
  have h2 : 128 ^ (l.take k).length ≤ 128 ^ 8 := Nat.pow_le_pow_right (by decide) (by rw [List.length_take]; omega)
  have h3 : 128 ^ 8 = 72057594037927936 := by decide
  omega
theorem cutV_lead {l : List UInt8} : ∀ {k : Nat}, Lead l k → k ≤ 8 → cutV l = cutGo k (valV (l.take k)) (l.drop k)
  | 0, _, _ => by simp [cutV, valV]
  | k + 1, h, h8 => by
    have hk : k < l.length := h.1
    rw [cutV_lead (k := k) ⟨by omega, fun j hj => h.2 j (by omega)⟩ (by omega), drop_cons_getD8 l k hk, cutGo, if_neg (by omega), if_pos (h.2 k (by omega)), ← valV_take l k hk]
theorem cut_eight {l : List UInt8} (h : Lead l 8) : cutV l = (0, 0, 11) := by
  rw [cutV_lead h (by omega)]
  cases l.drop 8 with
  | nil => rfl
  | cons c r => rfl
theorem cut_short {l : List UInt8} (h : Lead l l.length) (h8 : l.length < 8) : cutV l = (0, 0, 10) := by
  rw [cutV_lead h (by omega), List.drop_length, cutGo, if_neg (by omega)]
theorem cut_bad {l : List UInt8} {k : Nat} (h : Lead l k) (hk : k < l.length) (h8 : k < 8) (hc : (l.getD k 0).toNat < 128)
    (hb : (0 < k ∧ (l.getD k 0).toNat = 0) ∨ 281474976710656 < valV (l.take (k + 1))) : cutV l = (0, 0, 11) := by
  rw [cutV_lead h (by omega), drop_cons_getD8 l k hk, cutGo, if_neg (by omega), if_neg (by omega), ← valV_take l k hk, if_pos hb]
theorem cut_good {l : List UInt8} {k : Nat} (h : Lead l k) (hk : k < l.length) (h8 : k < 8) (hc : (l.getD k 0).toNat < 128)
    (hb : ¬ ((0 < k ∧ (l.getD k 0).toNat = 0) ∨ 281474976710656 < valV (l.take (k + 1)))) : cutV l = (valV (l.take (k + 1)), k + 1, 0) := by
  rw [cutV_lead h (by omega), drop_cons_getD8 l k hk, cutGo, if_neg (by omega), if_neg (by omega), ← valV_take l k hk, if_neg hb]

/-- What a reader of the bytes l, with the error e, reads as a number: the number, what is left, the error. -/
def numR (l : List UInt8) (e : Int) : Nat × List UInt8 × Int :=
  if e = 0 then (if (cutV l).2.2 = 0 then ((cutV l).1, l.drop (cutV l).2.1, 0) else (0, l, ((cutV l).2.2 : Int))) else (0, l, e)
def withinR (lo hi : Int) (l : List UInt8) (e : Int) : Nat × List UInt8 × Int :=
  if ((numR l e).1 : Int) < lo ∨ hi < ((numR l e).1 : Int) then (0, l, if (numR l e).2.2 = 0 then 11 else (numR l e).2.2) else numR l e
def textR (most : Int) (l : List UInt8) (e : Int) : List UInt8 × List UInt8 × Int :=
  if (withinR 0 most l e).2.1.length < (withinR 0 most l e).1 then ([], l, if (withinR 0 most l e).2.2 = 0 then 10 else (withinR 0 most l e).2.2)
  else ((withinR 0 most l e).2.1.take (withinR 0 most l e).1, (withinR 0 most l e).2.1.drop (withinR 0 most l e).1, (withinR 0 most l e).2.2)
def endR (l : List UInt8) (e : Int) : Int := if e = 0 ∧ l ≠ [] then 14 else e

theorem numR_err {l : List UInt8} {e : Int} (h : e ≠ 0) : numR l e = (0, l, e) := by unfold numR; rw [if_neg h]
theorem numR_max (l : List UInt8) (e : Int) : (numR l e).1 ≤ 281474976710656 := by
  unfold numR
  split
  · split
    · exact cutV_max l
    · simp
  · simp
/-- Behind an error nothing is read, and all is left. -/
theorem numR_same (l : List UInt8) (e : Int) (h : (numR l e).2.2 ≠ 0) : (numR l e).1 = 0 ∧ (numR l e).2.1 = l := by
  unfold numR at h ⊢
  split
  · split
    · rename_i h1 h2; rw [if_pos h1, if_pos h2] at h; simp at h
    · simp
  · simp
theorem withinR_same (lo hi : Int) (l : List UInt8) (e : Int) (h : (withinR lo hi l e).2.2 ≠ 0) : (withinR lo hi l e).1 = 0 ∧ (withinR lo hi l e).2.1 = l := by
  unfold withinR at h ⊢
  split
  · simp
  · rename_i h1; rw [if_neg h1] at h; exact numR_same l e h
theorem withinR_err {lo hi : Int} {l : List UInt8} {e : Int} (h : e ≠ 0) : withinR lo hi l e = (0, l, e) := by
  unfold withinR
  rw [numR_err h]
  simp [h]
theorem textR_err {most : Int} {l : List UInt8} {e : Int} (h : e ≠ 0) : textR most l e = ([], l, e) := by
  unfold textR
  rw [withinR_err h]
  simp
theorem withinR_num (l : List UInt8) (e : Int) : withinR 0 281474976710656 l e = numR l e := by
  unfold withinR
  rw [if_neg]
  have := numR_max l e
  omega
theorem numR_suffix (l : List UInt8) (e : Int) : ∃ k, k ≤ l.length ∧ (numR l e).2.1 = l.drop k := by
  unfold numR
  split
  · split
    · exact ⟨_, cutV_le l, rfl⟩
    · exact ⟨0, by omega, rfl⟩
  · exact ⟨0, by omega, rfl⟩
theorem numR_len (l : List UInt8) (e : Int) : (numR l e).2.1.length ≤ l.length := by
  obtain ⟨k, _, h⟩ := numR_suffix l e
  rw [h, List.length_drop]; omega
theorem withinR_len (lo hi : Int) (l : List UInt8) (e : Int) : (withinR lo hi l e).2.1.length ≤ l.length := by
  unfold withinR
  split
  · simp
  · exact numR_len l e
theorem textR_len (most : Int) (l : List UInt8) (e : Int) : (textR most l e).2.1.length ≤ l.length := by
  unfold textR
  split
  · simp
  · have := withinR_len 0 most l e
    simp only [List.length_drop]; omega
theorem withinR_cut {lo hi : Int} {l : List UInt8} {n k x : Nat} (h : cutV l = (n, k, x)) :
    k ≤ l.length ∧ k ≤ 8 ∧ n ≤ 281474976710656 ∧ (x ≠ 0 → withinR lo hi l 0 = (0, l, (x : Int))) ∧ (x = 0 → ((n : Int) < lo ∨ hi < (n : Int)) → withinR lo hi l 0 = (0, l, 11)) ∧
      (x = 0 → ¬ ((n : Int) < lo ∨ hi < (n : Int)) → withinR lo hi l 0 = (n, l.drop k, 0)) := by
  have h1 := cutV_le l
  have h2 := cutV_size l
  have h3 := cutV_max l
  rw [h] at h1 h2 h3
  refine ⟨h1, h2, h3, fun hx => ?_, fun hx hr => ?_, fun hx hr => ?_⟩
  · have e : numR l 0 = (0, l, (x : Int)) := by unfold numR; rw [if_pos rfl, h, if_neg hx]
    have hx' : ¬ (x : Int) = 0 := by omega
    unfold withinR
    rw [e]
    show (if _ then (0, l, if (x : Int) = 0 then 11 else (x : Int)) else _) = _
    rw [if_neg hx', ite_self]
  · subst hx
    have e : numR l 0 = (n, l.drop k, 0) := by unfold numR; rw [if_pos rfl, h, if_pos rfl]
    unfold withinR
    rw [e, if_pos hr]
    rfl
  · subst hx
    have e : numR l 0 = (n, l.drop k, 0) := by unfold numR; rw [if_pos rfl, h, if_pos rfl]
    unfold withinR
    rw [e, if_neg hr]
theorem numR_put (n : Nat) (r : List UInt8) (h : n ≤ 281474976710656) : numR (putV n ++ r) 0 = (n, r, 0) := by
  unfold numR
  rw [if_pos rfl, cutV_put n r h]
  simp
theorem textR_put (s r : List UInt8) (h : s.length ≤ 281474976710656) : textR (s.length : Int) (putV s.length ++ (s ++ r)) 0 = (s, r, 0) := by
  have e : withinR 0 (s.length : Int) (putV s.length ++ (s ++ r)) 0 = (s.length, s ++ r, 0) := by
    unfold withinR
    rw [numR_put s.length _ h, if_neg (by simp)]
  unfold textR
  rw [e]
  simp
end Go.Proofs.Ytonghhnodpjkfaa
