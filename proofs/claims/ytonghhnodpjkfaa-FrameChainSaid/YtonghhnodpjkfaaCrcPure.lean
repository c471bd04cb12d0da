/-
  Plain facts on the sum of 32 bits by which turned bits are told: no program is named here.
-/
import Derived.Test.YtonghhnodpjkfaaMore
namespace Go.Proofs.Ytonghhnodpjkfaa

/-- A state, one bit on. -/
def stepN (x : Nat) : Nat := x / 2 ^^^ x % 2 * 3988292384
/-- .. and n bits on. -/
def stepsN : Nat → Nat → Nat
  | 0, x => x
  | n + 1, x => stepsN n (stepN x)
/-- A state behind some bytes. -/
def foldC (s : Nat) (l : List UInt8) : Nat := l.foldl (fun s b => stepsN 8 (s ^^^ b.toNat)) s
/-- The sum of some bytes. -/
def sumC (l : List UInt8) : Nat := 4294967295 ^^^ foldC 4294967295 l
/-- Its four bytes. -/
def tailC (s : Nat) : List UInt8 := [UInt8.ofNat (s % 256), UInt8.ofNat (s / 256 % 256), UInt8.ofNat (s / 65536 % 256), UInt8.ofNat (s / 16777216 % 256)]
theorem tailC_len (s : Nat) : (tailC s).length = 4 := rfl

theorem xor_cancel (a b : Nat) : a ^^^ (a ^^^ b) = b := by rw [← Nat.xor_assoc, Nat.xor_self, Nat.zero_xor]
theorem xor_left {a b c : Nat} (h : a ^^^ b = a ^^^ c) : b = c := by
  have := congrArg (a ^^^ ·) h
  simpa only [xor_cancel] using this
theorem xor4 (a b c d : Nat) : (a ^^^ b) ^^^ (c ^^^ d) = (a ^^^ c) ^^^ (b ^^^ d) := by
  rw [Nat.xor_assoc, Nat.xor_assoc]
  congr 1
  rw [← Nat.xor_assoc, ← Nat.xor_assoc, Nat.xor_comm b c]
theorem xor_half (x y : Nat) : (x ^^^ y) / 2 = x / 2 ^^^ y / 2 := by
  have := Nat.shiftRight_xor_distrib (a := x) (b := y) (i := 1)
  simpa [Nat.shiftRight_eq_div_pow] using this
theorem xor_odd (x y : Nat) : (x ^^^ y) % 2 = x % 2 ^^^ y % 2 := by
  have := Nat.xor_mod_two_pow (a := x) (b := y) (n := 1)
  simpa using this
theorem stepN_xor (x y : Nat) : stepN (x ^^^ y) = stepN x ^^^ stepN y := by
  unfold stepN
  rw [xor_half, xor_odd, xor4]
  congr 1
  rcases Nat.mod_two_eq_zero_or_one x with h | h <;> rcases Nat.mod_two_eq_zero_or_one y with h' | h' <;> rw [h, h'] <;> decide
theorem stepsN_xor : ∀ n x y, stepsN n (x ^^^ y) = stepsN n x ^^^ stepsN n y
  | 0, _, _ => rfl
  | n + 1, x, y => by rw [stepsN, stepsN, stepsN, stepN_xor, stepsN_xor n]
theorem stepsN_add : ∀ m n x, stepsN (m + n) x = stepsN n (stepsN m x)
  | 0, n, x => by rw [Nat.zero_add]; rfl
  | m + 1, n, x => by rw [Nat.add_right_comm, stepsN, stepsN, stepsN_add m n]
theorem stepsN_succ (n x : Nat) : stepsN (n + 1) x = stepN (stepsN n x) := by rw [stepsN_add]; rfl
theorem stepN_even (m : Nat) : stepN (2 * m) = m := by
  unfold stepN
  rw [Nat.mul_div_cancel_left _ (by decide), Nat.mul_mod_right, Nat.zero_mul, Nat.xor_zero]
theorem stepsN_shift : ∀ k m, stepsN k (2 ^ k * m) = m
  | 0, m => by simp [stepsN]
  | k + 1, m => by rw [stepsN, Nat.pow_succ, Nat.mul_comm (2 ^ k) 2, Nat.mul_assoc, stepN_even, stepsN_shift k]
theorem stepN_lt {x : Nat} (h : x < 4294967296) : stepN x < 4294967296 := by
  have e : (4294967296 : Nat) = 2 ^ 32 := by decide
  unfold stepN
  rw [e]
  refine Nat.xor_lt_two_pow (by omega) ?_
  rcases Nat.mod_two_eq_zero_or_one x with h | h <;> rw [h] <;> decide
theorem stepsN_lt : ∀ (n : Nat) {x : Nat}, x < 4294967296 → stepsN n x < 4294967296
  | 0, _, h => h
  | n + 1, _, h => stepsN_lt n (stepN_lt h)
theorem stepN_pos {x : Nat} (h : x < 4294967296) (hp : 0 < x) : 0 < stepN x := by
  unfold stepN
  rcases Nat.mod_two_eq_zero_or_one x with h' | h'
  · rw [h', Nat.zero_mul, Nat.xor_zero]; omega
  · rw [h', Nat.one_mul]
    refine Nat.pos_of_ne_zero fun e => ?_
    have := xor_left (e.trans (Nat.xor_self (x / 2)).symm)
    omega
theorem stepsN_pos : ∀ (n : Nat) {x : Nat}, x < 4294967296 → 0 < x → 0 < stepsN n x
  | 0, _, _, h => h
  | n + 1, _, h, hp => stepsN_pos n (stepN_lt h) (stepN_pos h hp)
theorem byte_lt (b : UInt8) : b.toNat < 256 := b.toNat_lt
theorem xor_lt32 {a b : Nat} (ha : a < 4294967296) (hb : b < 4294967296) : a ^^^ b < 4294967296 := by
  have e : (4294967296 : Nat) = 2 ^ 32 := by decide
  rw [e] at *
  exact Nat.xor_lt_two_pow ha hb
theorem xor_byte_lt {s : Nat} (h : s < 4294967296) (b : UInt8) : s ^^^ b.toNat < 4294967296 := xor_lt32 h (by have := byte_lt b; omega)
theorem foldC_lt : ∀ (l : List UInt8) {s : Nat}, s < 4294967296 → foldC s l < 4294967296
  | [], _, h => h
  | b :: l, s, h => foldC_lt l (s := stepsN 8 (s ^^^ b.toNat)) (stepsN_lt 8 (xor_byte_lt h b))
theorem sumC_lt (l : List UInt8) : sumC l < 4294967296 := xor_lt32 (by decide) (foldC_lt l (by decide))
theorem foldC_nil (s : Nat) : foldC s [] = s := rfl
theorem foldC_append (s : Nat) (a b : List UInt8) : foldC s (a ++ b) = foldC (foldC s a) b := by simp [foldC]
theorem foldC_snoc (s : Nat) (a : List UInt8) (b : UInt8) : foldC s (a ++ [b]) = stepsN 8 (foldC s a ^^^ b.toNat) := by simp [foldC]

/-- Bytes as one number, the lowest first. -/
def numC : List UInt8 → Nat
  | [] => 0
  | b :: r => b.toNat ^^^ 256 * numC r
theorem foldC_num : ∀ (l : List UInt8) (s : Nat), foldC s l = stepsN (8 * l.length) (s ^^^ numC l)
  | [], s => by simp [foldC, numC, stepsN]
  | b :: r, s => by
    have ih := foldC_num r (stepsN 8 (s ^^^ b.toNat))
    have e : foldC s (b :: r) = foldC (stepsN 8 (s ^^^ b.toNat)) r := rfl
    rw [e, ih, List.length_cons, Nat.mul_succ, Nat.add_comm, stepsN_add, numC, ← Nat.xor_assoc, stepsN_xor 8 (s ^^^ b.toNat)]
    rw [show (256 : Nat) = 2 ^ 8 from rfl, stepsN_shift]
/-- Bits turned within 32 leave another sum, and none turned the same. -/
theorem sumC_turned {b c : List UInt8} {W f : Nat} (hl : c.length = b.length) (hW : W < 4294967296) (hf : f ≤ 8 * b.length) (hn : numC c = numC b ^^^ 2 ^ f * W) : sumC b = sumC c ↔ W = 0 := by
  constructor
  · intro h
    have h := xor_left h
    rw [foldC_num, foldC_num, hl, hn, ← Nat.xor_assoc, stepsN_xor _ _ (2 ^ f * W)] at h
    have h0 : stepsN (8 * b.length) (2 ^ f * W) = 0 := by
      refine (xor_left (a := stepsN (8 * b.length) (4294967295 ^^^ numC b)) ?_).symm
      rw [Nat.xor_zero]; exact h
    obtain ⟨m, hm⟩ := Nat.le.dest hf
    rw [← hm, stepsN_add, stepsN_shift] at h0
    rcases Nat.eq_zero_or_pos W with hz | hp
    · exact hz
    · have := stepsN_pos m hW hp
      omega
  · intro h
    subst h
    rw [Nat.mul_zero, Nat.xor_zero] at hn
    unfold sumC
    rw [foldC_num, foldC_num, hl, hn]

theorem numC_set : ∀ (l : List UInt8) (j : Nat) (x y : UInt8), j < l.length → l.getD j 0 = x → numC (l.set j y) = numC l ^^^ 256 ^ j * (x.toNat ^^^ y.toNat)
  | [], _, _, _, h, _ => by simp at h
  | c :: r, 0, x, y, _, hx => by
    have hx : c = x := by simpa using hx
    subst hx
    rw [List.set_cons_zero, numC, numC, Nat.pow_zero, Nat.one_mul, Nat.xor_assoc, Nat.xor_comm (256 * numC r), ← Nat.xor_assoc, xor_cancel]
  | c :: r, j + 1, x, y, h, hx => by
    have hx : r.getD j 0 = x := by simpa using hx
    rw [List.set_cons_succ, numC, numC, numC_set r j x y (by simpa using h) hx, Nat.pow_succ, Nat.mul_comm (256 ^ j) 256, Nat.mul_assoc, Nat.xor_assoc]
    congr 1
    have := fun a b : Nat => Nat.shiftLeft_xor_distrib (a := a) (b := b) (i := 8)
    simp only [Nat.shiftLeft_eq] at this
    rw [show (256 : Nat) = 2 ^ 8 from rfl, Nat.mul_comm, this, Nat.mul_comm _ (2 ^ 8), Nat.mul_comm _ (2 ^ 8)]
/-- One bit turned. -/
def flipB (x : UInt8) (k : Nat) : UInt8 := UInt8.ofNat (x.toNat ^^^ 2 ^ (k % 8))
theorem flipB_toNat (x : UInt8) (k : Nat) : (flipB x k).toNat = x.toNat ^^^ 2 ^ (k % 8) := by
  have h1 : 2 ^ (k % 8) < 2 ^ 8 := Nat.pow_lt_pow_right (by decide) (Nat.mod_lt _ (by decide))
  have h2 : x.toNat < 2 ^ 8 := byte_lt x
  have := Nat.xor_lt_two_pow h2 h1
  rw [flipB, UInt8.toNat_ofNat', Nat.mod_eq_of_lt this]
theorem numC_flip {l : List UInt8} {k : Nat} (h : k < 8 * l.length) : numC (l.set (k / 8) (flipB (l.getD (k / 8) 0) k)) = numC l ^^^ 2 ^ k := by
  rw [numC_set l (k / 8) (l.getD (k / 8) 0) _ (by omega) rfl, flipB_toNat, xor_cancel]
  congr 1
  rw [show (256 : Nat) = 2 ^ 8 from rfl, ← Nat.pow_mul, ← Nat.pow_add]
  congr 1
  omega
theorem low_next {t i : Nat} (h : t / 2 ^ i % 2 = 1) : t % 2 ^ (i + 1) = t % 2 ^ i ^^^ 2 ^ i := by
  rw [Nat.mod_pow_succ, h, Nat.mul_one]
  have hlt : t % 2 ^ i < 2 ^ i := Nat.mod_lt _ (Nat.two_pow_pos i)
  refine Nat.eq_of_testBit_eq fun j => ?_
  rw [Nat.add_comm, Nat.testBit_xor, Nat.testBit_two_pow]
  rcases Nat.lt_trichotomy j i with hj | hj | hj
  · rw [Nat.testBit_two_pow_add_gt hj]
    simp [Nat.ne_of_gt hj]
  · subst hj
    rw [Nat.testBit_two_pow_add_eq, Nat.testBit_lt_two_pow hlt]
    simp
  · have h1 : 2 ^ i + t % 2 ^ i < 2 ^ j := by
      have : 2 ^ (i + 1) ≤ 2 ^ j := Nat.pow_le_pow_right (by decide) hj
      rw [Nat.pow_succ] at this
      omega
    rw [Nat.testBit_lt_two_pow h1, Nat.testBit_lt_two_pow (Nat.lt_trans hlt (Nat.pow_lt_pow_right (by decide) hj))]
    simp [Nat.ne_of_lt hj]
theorem low_same {t i : Nat} (h : t / 2 ^ i % 2 = 0) : t % 2 ^ (i + 1) = t % 2 ^ i := by
  rw [Nat.mod_pow_succ, h, Nat.mul_zero, Nat.add_zero]
theorem low_some {t i : Nat} (h : t / 2 ^ i % 2 = 1) : t % 2 ^ (i + 1) ≠ 0 := by
  rw [Nat.mod_pow_succ, h]
  have := Nat.two_pow_pos i
  omega
/-- What the loop of turning keeps: the bytes c are b with the bits of t's lowest i, from f on, turned. -/
structure TurnInv (b : List UInt8) (f t i : Nat) (c : List UInt8) : Prop where
  len : c.length = b.length
  num : numC c = numC b ^^^ 2 ^ f * (t % 2 ^ i)
theorem TurnInv.start (b : List UInt8) (f t : Nat) : TurnInv b f t 0 b := ⟨rfl, by simp [Nat.mod_one]⟩
theorem TurnInv.skip {b c : List UInt8} {f t i : Nat} (h : TurnInv b f t i c) (h0 : t / 2 ^ i % 2 = 0) : TurnInv b f t (i + 1) c := ⟨h.len, by rw [low_same h0]; exact h.num⟩
theorem TurnInv.turn {b c : List UInt8} {f t i : Nat} (h : TurnInv b f t i c) (h1 : t / 2 ^ i % 2 = 1) (hk : f + i < 8 * b.length) : TurnInv b f t (i + 1) (c.set ((f + i) / 8) (flipB (c.getD ((f + i) / 8) 0) (f + i))) := by
  refine ⟨by rw [List.length_set]; exact h.len, ?_⟩
  rw [numC_flip (by rw [h.len]; exact hk), h.num, low_next h1, Nat.xor_assoc]
  congr 1
  have := Nat.shiftLeft_xor_distrib (a := t % 2 ^ i) (b := 2 ^ i) (i := f)
  simp only [Nat.shiftLeft_eq] at this
  rw [Nat.mul_comm (2 ^ f) (t % 2 ^ i ^^^ 2 ^ i), this, Nat.mul_comm (2 ^ f), Nat.pow_add, Nat.mul_comm (2 ^ f) (2 ^ i)]
theorem TurnInv.sums {b c : List UInt8} {f t i : Nat} (h : TurnInv b f t i c) (hi : i ≤ 32) (hf : f ≤ 8 * b.length) : sumC b = sumC c ↔ t % 2 ^ i = 0 := by
  refine sumC_turned h.len ?_ hf h.num
  have h1 : t % 2 ^ i < 2 ^ i := Nat.mod_lt _ (Nat.two_pow_pos i)
  have h2 : 2 ^ i ≤ 2 ^ 32 := Nat.pow_le_pow_right (by decide) hi
  have h3 : (2 : Nat) ^ 32 = 4294967296 := by decide
  omega

/-- The tail as four remainders, one behind the other. -/
theorem tailC_shift (s : Nat) : tailC s = (List.range 4).map fun k => UInt8.ofNat (s / 256 ^ k % 256) := by
  simp [tailC, List.range, List.range.loop]
/-- How many bytes stand ahead of their sum, if they end in it. -/
def endsC (l : List UInt8) : Bool := decide (4 ≤ l.length ∧ l.drop (l.length - 4) = tailC (sumC (l.take (l.length - 4))))
theorem endsC_summed (l : List UInt8) : endsC (l ++ tailC (sumC l)) = true := by
  simp [endsC, tailC_len]
end Go.Proofs.Ytonghhnodpjkfaa
