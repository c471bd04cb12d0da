/-
  Plain facts on frames (a length, a load, and the sum of both): no program is named here.
-/
import Derived.Test.YtonghhnodpjkfaaVarPure
import Derived.Test.YtonghhnodpjkfaaCrcPure
namespace Go.Proofs.Ytonghhnodpjkfaa

/-- The frame of a load. -/
def frameV (x : List UInt8) : List UInt8 := putV x.length ++ x ++ tailC (sumC (putV x.length ++ x))
theorem frameV_len (x : List UInt8) : (frameV x).length = (putV x.length).length + x.length + 4 := by
  rw [frameV, List.length_append, List.length_append, tailC_len]
theorem frameV_min (x : List UInt8) : x.length + 5 ≤ (frameV x).length := by
  have := putV_pos x.length
  rw [frameV_len]; omega
theorem frameV_max (x : List UInt8) (h : x.length ≤ 32768) : (frameV x).length ≤ x.length + 7 := by
  have := putV_len 2 x.length (by omega)
  rw [frameV_len]; omega

/-- A number's first bytes are all looked at within eight. -/
theorem cutGo_take : ∀ (l : List UInt8) (i a : Nat), i ≤ 8 → cutGo i a (l.take (8 - i)) = cutGo i a l
  | [], i, a, _ => by rw [List.take_nil]
  | c :: r, i, a, h => by
    rcases Nat.lt_or_ge i 8 with h8 | h8
    · obtain ⟨j, hj⟩ : ∃ j, 8 - i = j + 1 := ⟨8 - i - 1, by omega⟩
      have e : j = 8 - (i + 1) := by omega
      rw [hj, List.take_succ_cons, cutGo, cutGo]
      rw [e, cutGo_take r (i + 1) _ (by omega)]
    · obtain rfl : i = 8 := by omega
      rw [Nat.sub_self, List.take_zero, cutGo, cutGo]
      rfl
theorem cutV_take8 (l : List UInt8) : cutV (l.take 8) = cutV l := cutGo_take l 0 0 (by omega)
/-- A first part of a number's bytes is cut short. -/
theorem cutGo_part : ∀ (c n i a : Nat), c < (putV n).length → i + c < 8 → cutGo i a ((putV n).take c) = (0, 0, 10)
  | 0, n, i, a, _, h => by rw [List.take_zero, cutGo, if_neg (by omega)]
  | c + 1, n, i, a, h, h8 => by
    have hn : ¬ n < 128 := fun hn => by rw [putV_small hn] at h; simp at h
    rw [putV_big hn] at h ⊢
    have e : (UInt8.ofNat (n % 128 + 128)).toNat = n % 128 + 128 := by simp; omega
    rw [List.take_succ_cons, cutGo, if_neg (by omega), e, if_pos (by omega)]
    exact cutGo_part c (n / 128) (i + 1) _ (by simpa using h) (by omega)

/-- What the length that begins some bytes is, how many it has, and what is wrong. -/
def lenV (l : List UInt8) : Nat × Nat × Nat :=
  if (cutV l).2.2 ≠ 0 then (0, 0, (cutV l).2.2) else if 32768 < (cutV l).1 then (0, 0, 12) else ((cutV l).1, (cutV l).2.1, 0)
theorem len_num {l : List UInt8} {n k e : Nat} (h : cutV l = (n, k, e)) (he : e ≠ 0) : lenV l = (0, 0, e) := by rw [lenV, h, if_pos he]
theorem len_big {l : List UInt8} {n k : Nat} (h : cutV l = (n, k, 0)) (hn : 32768 < n) : lenV l = (0, 0, 12) := by rw [lenV, h, if_neg (by simp), if_pos hn]
theorem len_good {l : List UInt8} {n k : Nat} (h : cutV l = (n, k, 0)) (hn : ¬ 32768 < n) : lenV l = (n, k, 0) := by rw [lenV, h, if_neg (by simp), if_neg hn]
/-- The load of the frame that begins some bytes, how many it has, and what is wrong. -/
def nextV (l : List UInt8) : List UInt8 × Nat × Nat :=
  if (lenV l).2.2 ≠ 0 then ([], 0, (lenV l).2.2)
  else if l.length < (lenV l).2.1 + (lenV l).1 + 4 then ([], 0, 10)
  else if endsC (l.take ((lenV l).2.1 + (lenV l).1 + 4)) = false then ([], 0, 13)
  else ((l.drop (lenV l).2.1).take (lenV l).1, (lenV l).2.1 + (lenV l).1 + 4, 0)
theorem next_len {l : List UInt8} {n k e : Nat} (h : lenV l = (n, k, e)) (he : e ≠ 0) : nextV l = ([], 0, e) := by rw [nextV, h, if_pos he]
theorem next_short {l : List UInt8} {n k : Nat} (h : lenV l = (n, k, 0)) (hl : l.length < k + n + 4) : nextV l = ([], 0, 10) := by
  rw [nextV, h, if_neg (by simp), if_pos hl]
theorem next_sum {l : List UInt8} {n k : Nat} (h : lenV l = (n, k, 0)) (hl : ¬ l.length < k + n + 4) (he : endsC (l.take (k + n + 4)) = false) : nextV l = ([], 0, 13) := by
  rw [nextV, h, if_neg (by simp), if_neg hl, if_pos he]
theorem next_good {l : List UInt8} {n k : Nat} (h : lenV l = (n, k, 0)) (hl : ¬ l.length < k + n + 4) (he : endsC (l.take (k + n + 4)) = true) : nextV l = ((l.drop k).take n, k + n + 4, 0) := by
  rw [nextV, h, if_neg (by simp), if_neg hl, if_neg (by simp [he])]
/-- Likewise, and nothing stands behind it. -/
def openV (l : List UInt8) : List UInt8 × Nat := if (nextV l).2.2 = 0 ∧ (nextV l).2.1 < l.length then ([], 14) else ((nextV l).1, (nextV l).2.2)
theorem open_err {l x : List UInt8} {n e : Nat} (h : nextV l = (x, n, e)) (he : e ≠ 0) : openV l = (x, e) := by rw [openV, h, if_neg (by simp [he])]
theorem open_long {l x : List UInt8} {n : Nat} (h : nextV l = (x, n, 0)) (hn : n < l.length) : openV l = ([], 14) := by rw [openV, h, if_pos ⟨rfl, hn⟩]
theorem open_good {l x : List UInt8} {n : Nat} (h : nextV l = (x, n, 0)) (hn : ¬ n < l.length) : openV l = (x, 0) := by rw [openV, h, if_neg (by simp [hn])]
theorem lenV_le (l : List UInt8) : (lenV l).1 ≤ 32768 ∧ (lenV l).2.1 ≤ 8 ∧ (lenV l).2.1 ≤ l.length ∧ (lenV l).2.2 ≤ 1000 := by
  have h1 := cutV_size l
  have h2 := cutV_le l
  have h3 : (cutV l).2.2 ≤ 1000 := cutGo_code l 0 0
  unfold lenV
  split
  · simp only; omega
  · split
    · simp only; omega
    · rename_i h; simp only; omega
where
  cutGo_code : ∀ (l : List UInt8) (i a : Nat), (cutGo i a l).2.2 ≤ 1000 := by
    intro l
    induction l with
    | nil => intro i a; rw [cutGo]; split <;> simp
    | cons c r ih =>
      intro i a
      rw [cutGo]
      split
      · simp
      · split
        · exact ih _ _
        · split <;> simp
theorem nextV_err {l : List UInt8} (h : (nextV l).2.2 ≠ 0) : (nextV l).1 = [] ∧ (nextV l).2.1 = 0 := by
  unfold nextV at h ⊢
  split
  · simp
  · split
    · simp
    · split
      · simp
      · rename_i h1 h2 h3; rw [if_neg h1, if_neg h2, if_neg h3] at h; simp at h
theorem nextV_le (l : List UInt8) : (nextV l).2.1 ≤ l.length ∧ (nextV l).1.length ≤ l.length := by
  unfold nextV
  split
  · simp
  · split
    · simp
    · split
      · simp
      · rename_i h1 h2 h3
        simp only [List.length_take, List.length_drop]
        omega
theorem openV_le (l : List UInt8) : (openV l).1.length ≤ l.length := by
  unfold openV
  split
  · simp
  · exact (nextV_le l).2

theorem frame_cut (x r : List UInt8) (hx : x.length ≤ 32768) : lenV (frameV x ++ r) = (x.length, (putV x.length).length, 0) := by
  refine len_good ?_ (by omega)
  rw [frameV, List.append_assoc, List.append_assoc]
  exact cutV_put x.length _ (by omega)
theorem next_frame (x r : List UInt8) (hx : x.length ≤ 32768) : nextV (frameV x ++ r) = (x, (frameV x).length, 0) := by
  have hl := frameV_len x
  have e := next_good (frame_cut x r hx) (by rw [List.length_append, hl]; omega) (by
    rw [← hl, List.take_left']
    · exact endsC_summed _
    · rfl)
  rw [e, ← hl]
  refine Prod.ext ?_ rfl
  show ((frameV x ++ r).drop (putV x.length).length).take x.length = x
  rw [frameV, List.append_assoc, List.append_assoc, List.drop_left', List.take_left'] <;> rfl
theorem open_frame (x : List UInt8) (hx : x.length ≤ 32768) : openV (frameV x) = (x, 0) := by
  have h := next_frame x [] hx
  rw [List.append_nil] at h
  exact open_good h (by omega)
theorem next_nil : nextV [] = ([], 0, 10) := by
  refine next_len (n := 0) (k := 0) (len_num (n := 0) (k := 0) ?_ (by decide)) (by decide)
  rw [cutV, cutGo, if_neg (by omega)]
theorem next_part (x : List UInt8) (m : Nat) (hx : x.length ≤ 32768) (hm : m < (frameV x).length) : nextV ((frameV x).take m) = ([], 0, 10) := by
  rcases Nat.lt_or_ge m (putV x.length).length with h | h
  · have h3 := putV_len 2 x.length (by omega)
    refine next_len (n := 0) (k := 0) (len_num (n := 0) (k := 0) ?_ (by decide)) (by decide)
    rw [frameV, List.append_assoc, List.take_append_of_le_length (by omega)]
    exact cutGo_part m x.length 0 0 h (by omega)
  · have e : lenV ((frameV x).take m) = (x.length, (putV x.length).length, 0) := by
      refine len_good ?_ (by omega)
      rw [frameV, List.append_assoc, List.take_append, List.take_of_length_le h]
      exact cutV_put x.length _ (by omega)
    refine next_short e ?_
    rw [List.length_take, ← frameV_len]
    omega
theorem open_part (x : List UInt8) (m : Nat) (hx : x.length ≤ 32768) (hm : m < (frameV x).length) : openV ((frameV x).take m) = ([], 10) := open_err (next_part x m hx hm) (by decide)

theorem ofNat_mod_inj {a b : Nat} (h : UInt8.ofNat (a % 256) = UInt8.ofNat (b % 256)) : a % 256 = b % 256 := by
  have := congrArg UInt8.toNat h
  simpa using this
theorem tailC_inj {s t : Nat} (hs : s < 4294967296) (ht : t < 4294967296) (h : tailC s = tailC t) : s = t := by
  simp only [tailC, List.cons.injEq, and_true] at h
  obtain ⟨h0, h1, h2, h3⟩ := h
  have h0 := ofNat_mod_inj h0
  have h1 := ofNat_mod_inj h1
  have h2 := ofNat_mod_inj h2
  have h3 := ofNat_mod_inj h3
  omega
/-- A load that is another one, of the same length and under the old sum, is none, if its sum is another one. -/
theorem next_turned (x y : List UInt8) (hl : y.length = x.length) (hx : x.length ≤ 32768) (hs : sumC (putV x.length ++ x) ≠ sumC (putV x.length ++ y)) :
    nextV (putV x.length ++ y ++ tailC (sumC (putV x.length ++ x))) = ([], 0, 13) := by
  have e : lenV (putV x.length ++ y ++ tailC (sumC (putV x.length ++ x))) = (x.length, (putV x.length).length, 0) := by
    refine len_good ?_ (by omega)
    rw [List.append_assoc]
    exact cutV_put x.length _ (by omega)
  have hlen : (putV x.length ++ y ++ tailC (sumC (putV x.length ++ x))).length = (putV x.length).length + x.length + 4 := by
    rw [List.length_append, List.length_append, tailC_len, hl]
  refine next_sum e (by rw [hlen]; omega) ?_
  rw [← hlen, List.take_length, endsC, hlen, Nat.add_sub_cancel, decide_eq_false]
  rintro ⟨-, h⟩
  have h1 : (putV x.length ++ y).length = (putV x.length).length + x.length := by rw [List.length_append, hl]
  rw [List.drop_left' h1, List.take_left' h1] at h
  exact hs (tailC_inj (sumC_lt _) (sumC_lt _) h)
theorem open_turned (x y : List UInt8) (hl : y.length = x.length) (hx : x.length ≤ 32768) (hs : sumC (putV x.length ++ x) ≠ sumC (putV x.length ++ y)) :
    openV (putV x.length ++ y ++ tailC (sumC (putV x.length ++ x))) = ([], 13) := open_err (next_turned x y hl hx hs) (by decide)

/-- Bits turned within 32 leave another state, whatever the state ahead. -/
theorem foldC_turned {s : Nat} {b c : List UInt8} {W f : Nat} (hl : c.length = b.length) (hW : W < 4294967296) (hf : f ≤ 8 * b.length) (hn : numC c = numC b ^^^ 2 ^ f * W) : foldC s b = foldC s c ↔ W = 0 := by
  constructor
  · intro h
    rw [foldC_num, foldC_num, hl, hn, ← Nat.xor_assoc, stepsN_xor _ _ (2 ^ f * W)] at h
    have h0 : stepsN (8 * b.length) (2 ^ f * W) = 0 := by
      refine (xor_left (a := stepsN (8 * b.length) (s ^^^ numC b)) ?_).symm
      rw [Nat.xor_zero]; exact h
    obtain ⟨m, hm⟩ := Nat.le.dest hf
    rw [← hm, stepsN_add, stepsN_shift] at h0
    rcases Nat.eq_zero_or_pos W with hz | hp
    · exact hz
    · have := stepsN_pos m hW hp
      omega
  · intro h
    subst h
    rw [Nat.mul_zero, Nat.xor_zero] at hn
    rw [foldC_num, foldC_num, hl, hn]
theorem TurnInv.behind {b c : List UInt8} {f t i : Nat} (h : TurnInv b f t i c) (hi : i ≤ 32) (hf : f ≤ 8 * b.length) (p : List UInt8) : sumC (p ++ b) = sumC (p ++ c) ↔ t % 2 ^ i = 0 := by
  have key : t % 2 ^ i < 4294967296 := by
    have h1 : t % 2 ^ i < 2 ^ i := Nat.mod_lt _ (Nat.two_pow_pos i)
    have h2 : 2 ^ i ≤ 2 ^ 32 := Nat.pow_le_pow_right (by decide) hi
    have h3 : (2 : Nat) ^ 32 = 4294967296 := by decide
    omega
  rw [← foldC_turned (s := foldC 4294967295 p) h.len key hf h.num, ← foldC_append, ← foldC_append]
  exact ⟨fun e => xor_left e, fun e => by unfold sumC; rw [e]⟩
theorem TurnInv.none {b c : List UInt8} {f t i : Nat} (h : TurnInv b f t i c) (h0 : t % 2 ^ i = 0) : numC c = numC b := by
  have := h.num
  rwa [h0, Nat.mul_zero, Nat.xor_zero] at this
end Go.Proofs.Ytonghhnodpjkfaa
