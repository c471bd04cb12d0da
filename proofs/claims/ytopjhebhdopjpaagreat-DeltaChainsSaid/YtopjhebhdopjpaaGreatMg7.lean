/-
  Several texts in one: FltPure, FcdPure, KcdPure, KnwC, KnwD, KnwE, KnwMk, KnwF, KnwG, SpanC.
-/
import Derived.Deep.CutRange
import Derived.BigRegion
import Derived.Test.YtopjhebhdopjpaaGreatMg6
namespace Go.Proofs.YtopjhebhdopjpaaGreat

end Go.Proofs.YtopjhebhdopjpaaGreat

namespace Go.Proofs.YtopjhebhdopjpaaGreat

def txtB (s : List UInt8) : List UInt8 := putV s.length ++ s
def rngB (r : Rng) : List UInt8 := txtB r.lo ++ (match r.op with | true => [1] | false => 0 :: txtB r.hi)
def rngR (l : List UInt8) (e : Int) : Rng × List UInt8 × Int :=
  let a := textR 17 l e
  let b := withinR 0 1 a.2.1 a.2.2
  if b.1 = 1 then (⟨a.1, [], true⟩, b.2)
  else
    let c := textR 17 b.2.1 b.2.2
    (⟨a.1, c.1, false⟩, c.2)
def manyR {α : Type} (f : List UInt8 → Int → α × List UInt8 × Int) : Nat → List UInt8 → Int → List α × List UInt8 × Int
  | 0, l, e => ([], l, e)
  | n + 1, l, e => if e = 0 then ((f l e).1 :: (manyR f n (f l e).2.1 (f l e).2.2).1, (manyR f n (f l e).2.1 (f l e).2.2).2) else ([], l, e)
def allR2 {α : Type} (f : List UInt8 → Int → α × List UInt8 × Int) (most : Int) (right : List α → Bool) (b : List UInt8) : List α × Int :=
  let n := withinR 0 most b 0
  let y := manyR f n.1 n.2.1 n.2.2
  if endR y.2.1 y.2.2 ≠ 0 then ([], endR y.2.1 y.2.2)
  else match right y.1 with
    | true => (y.1, 0)
    | false => ([], 11)
theorem withinR_put {lo hi : Int} (n : Nat) (r : List UInt8) (h : n ≤ 281474976710656) (h1 : lo ≤ n) (h2 : (n : Int) ≤ hi) : withinR lo hi (putV n ++ r) 0 = (n, r, 0) := by
  unfold withinR
  rw [numR_put n r h, if_neg]
  show ¬ ((n : Int) < lo ∨ hi < (n : Int))
  omega
theorem textR_most {m : Int} (s r : List UInt8) (h : (s.length : Int) ≤ m) (h2 : m ≤ 281474976710656) : textR m (txtB s ++ r) 0 = (s, r, 0) := by
  have e : withinR 0 m (putV s.length ++ (s ++ r)) 0 = (s.length, s ++ r, 0) := withinR_put _ _ (by omega) (by omega) h
  unfold textR txtB
  rw [List.append_assoc, e]
  simp
theorem numR_of {l r : List UInt8} {e : Int} {n : Nat} (h : numR l e = (n, r, 0)) : e = 0 ∧ l = putV n ++ r := by
  unfold numR at h
  split at h
  · rename_i he
    refine ⟨he, ?_⟩
    split at h
    · rename_i hc
      obtain ⟨h1, h2, h3⟩ := cutV_back (l := l) (n := (cutV l).1) (k := (cutV l).2.1) (by rw [← hc])
      simp only [Prod.mk.injEq] at h
      obtain ⟨rfl, rfl, -⟩ := h
      rw [← h2, List.take_append_drop]
    · rename_i hc
      simp only [Prod.mk.injEq] at h
      omega
  · rename_i he
    simp only [Prod.mk.injEq] at h
    exact absurd h.2.2 he
theorem withinR_back {lo hi : Int} {l r : List UInt8} {e : Int} {n : Nat} (h : withinR lo hi l e = (n, r, 0)) : e = 0 ∧ l = putV n ++ r ∧ lo ≤ n ∧ (n : Int) ≤ hi := by
  unfold withinR at h
  split at h
  · rename_i hc
    simp only [Prod.mk.injEq] at h
    split at h <;> omega
  · rename_i hc
    obtain ⟨h1, h2⟩ := numR_of h
    rw [h] at hc
    exact ⟨h1, h2, by simp only at hc; omega, by simp only at hc; omega⟩
theorem textR_back {m : Int} {l s r : List UInt8} {e : Int} (h : textR m l e = (s, r, 0)) : e = 0 ∧ l = txtB s ++ r ∧ (s.length : Int) ≤ m := by
  unfold textR at h
  split at h
  · simp only [Prod.mk.injEq] at h
    split at h <;> omega
  · rename_i hc
    obtain ⟨n, l1, e1, hw⟩ : ∃ n l1 e1, withinR 0 m l e = (n, l1, e1) := ⟨_, _, _, rfl⟩
    rw [hw] at h hc
    simp only [Prod.mk.injEq] at h
    obtain ⟨rfl, rfl, rfl⟩ := h
    obtain ⟨h1, h2, -, h4⟩ := withinR_back hw
    simp only at hc
    have hl : (l1.take n).length = n := by rw [List.length_take]; omega
    refine ⟨h1, ?_, by rw [hl]; exact h4⟩
    unfold txtB
    rw [hl, h2, List.append_assoc, List.take_append_drop]
theorem putV_zero : putV 0 = [0] := putV_small (by omega)
theorem putV_one : putV 1 = [1] := putV_small (by omega)
theorem rngR_put (r : Rng) (l : List UInt8) (h : rightR r = true) : rngR (rngB r ++ l) 0 = (r, l, 0) := by
  obtain ⟨lo, hi, op⟩ := r
  unfold rightR at h
  rw [Bool.and_eq_true, decide_eq_true_eq] at h
  obtain ⟨h1, h2⟩ := h
  simp only at h1
  unfold rngR rngB
  cases op with
  | true =>
    simp only at h2 ⊢
    have hh : hi = [] := by simpa using h2
    subst hh
    rw [List.append_assoc, textR_most lo _ (by omega) (by omega)]
    simp only
    rw [show ([1] : List UInt8) ++ l = putV 1 ++ l by rw [putV_one], withinR_put 1 l (by omega) (by omega) (by omega)]
    simp
  | false =>
    simp only [Bool.and_eq_true, decide_eq_true_eq] at h2 ⊢
    rw [List.append_assoc, textR_most lo _ (by omega) (by omega)]
    simp only
    rw [show (0 :: txtB hi : List UInt8) ++ l = putV 0 ++ (txtB hi ++ l) by rw [putV_zero]; simp, withinR_put 0 _ (by omega) (by omega) (by omega)]
    simp only
    rw [if_neg (by omega), textR_most hi _ (by omega) (by omega)]
theorem rngR_back {r : Rng} {l b : List UInt8} {e : Int} (h : rngR b e = (r, l, 0)) : e = 0 ∧ b = rngB r ++ l := by
  unfold rngR at h
  obtain ⟨s, l1, e1, ha⟩ : ∃ s l1 e1, textR 17 b e = (s, l1, e1) := ⟨_, _, _, rfl⟩
  rw [ha] at h
  simp only at h
  obtain ⟨n, l2, e2, hb⟩ : ∃ n l2 e2, withinR 0 1 l1 e1 = (n, l2, e2) := ⟨_, _, _, rfl⟩
  rw [hb] at h
  simp only at h
  split at h
  · rename_i hn
    subst hn
    simp only [Prod.mk.injEq] at h
    obtain ⟨rfl, rfl, rfl⟩ := h
    obtain ⟨rfl, h2, -, -⟩ := withinR_back hb
    obtain ⟨h3, h4, -⟩ := textR_back ha
    refine ⟨h3, ?_⟩
    unfold rngB
    rw [h4, h2, putV_one, List.append_assoc]
  · rename_i hn
    obtain ⟨t, l3, e3, hc⟩ : ∃ t l3 e3, textR 17 l2 e2 = (t, l3, e3) := ⟨_, _, _, rfl⟩
    rw [hc] at h
    simp only [Prod.mk.injEq] at h
    obtain ⟨rfl, rfl, rfl⟩ := h
    obtain ⟨rfl, h5, -⟩ := textR_back hc
    obtain ⟨rfl, h2, -, hm⟩ := withinR_back hb
    obtain ⟨h3, h4, -⟩ := textR_back ha
    obtain rfl : n = 0 := by omega
    refine ⟨h3, ?_⟩
    unfold rngB
    simp only
    rw [h4, h2, h5, putV_zero]
    simp
theorem manyR_put {α : Type} {f : List UInt8 → Int → α × List UInt8 × Int} {g : α → List UInt8} : ∀ (l : List α) (r : List UInt8), (∀ x ∈ l, ∀ r, f (g x ++ r) 0 = (x, r, 0)) → manyR f l.length (l.flatMap g ++ r) 0 = (l, r, 0)
  | [], r, _ => by simp [manyR]
  | x :: l, r, h => by
    have h1 := h x (by simp) (l.flatMap g ++ r)
    have ih := manyR_put l r (fun y hy => h y (by simp [hy]))
    rw [List.flatMap_cons, List.length_cons, List.append_assoc, manyR, if_pos rfl, h1]
    simp only
    rw [ih]
theorem manyR_back {α : Type} {f : List UInt8 → Int → α × List UInt8 × Int} {g : α → List UInt8} (hf : ∀ b e x r, f b e = (x, r, 0) → e = 0 ∧ b = g x ++ r) : ∀ (n : Nat) (b : List UInt8) (e : Int) (l : List α) (r : List UInt8), manyR f n b e = (l, r, 0) → e = 0 ∧ b = l.flatMap g ++ r ∧ l.length = n
  | 0, b, e, l, r, h => by
    simp only [manyR, Prod.mk.injEq] at h
    obtain ⟨rfl, rfl, rfl⟩ := h
    exact ⟨rfl, by simp, rfl⟩
  | n + 1, b, e, l, r, h => by
    rw [manyR] at h
    split at h
    · rename_i he
      subst he
      obtain ⟨x, b1, e1, hx⟩ : ∃ x b1 e1, f b 0 = (x, b1, e1) := ⟨_, _, _, rfl⟩
      rw [hx] at h
      simp only at h
      obtain ⟨l1, b2, e2, hy⟩ : ∃ l1 b2 e2, manyR f n b1 e1 = (l1, b2, e2) := ⟨_, _, _, rfl⟩
      rw [hy] at h
      simp only [Prod.mk.injEq] at h
      obtain ⟨rfl, rfl, rfl⟩ := h
      obtain ⟨rfl, h2, h3⟩ := manyR_back hf n b1 e1 l1 b2 hy
      obtain ⟨-, h4⟩ := hf b 0 x b1 hx
      exact ⟨rfl, by rw [h4, h2, List.flatMap_cons, List.append_assoc], by rw [List.length_cons, h3]⟩
    · rename_i he
      simp only [Prod.mk.injEq] at h
      exact absurd h.2.2 he
theorem endR_zero {l : List UInt8} {e : Int} (h : endR l e = 0) : e = 0 ∧ l = [] := by
  unfold endR at h
  split at h
  · omega
  · rename_i hn
    subst h
    exact ⟨rfl, by simpa using hn⟩
theorem allR2_put {α : Type} {f : List UInt8 → Int → α × List UInt8 × Int} {g : α → List UInt8} {most : Int} {right : List α → Bool} (l : List α) (h : right l = true) (hm : (l.length : Int) ≤ most) (hm2 : most ≤ 281474976710656)
    (hf : ∀ x ∈ l, ∀ r, f (g x ++ r) 0 = (x, r, 0)) : allR2 f most right (putV l.length ++ l.flatMap g) = (l, 0) := by
  have h2 := manyR_put (f := f) (g := g) l [] hf
  rw [List.append_nil] at h2
  unfold allR2
  rw [withinR_put l.length _ (by omega) (by omega) hm]
  simp only
  rw [h2]
  simp only
  rw [if_neg (by simp [endR]), h]
theorem allR2_back {α : Type} {f : List UInt8 → Int → α × List UInt8 × Int} {g : α → List UInt8} {most : Int} {right : List α → Bool} {b : List UInt8} {l : List α} (hf : ∀ b e x r, f b e = (x, r, 0) → e = 0 ∧ b = g x ++ r)
    (h : allR2 f most right b = (l, 0)) : right l = true ∧ b = putV l.length ++ l.flatMap g ∧ (l.length : Int) ≤ most := by
  unfold allR2 at h
  obtain ⟨n, b1, e1, ha⟩ : ∃ n b1 e1, withinR 0 most b 0 = (n, b1, e1) := ⟨_, _, _, rfl⟩
  rw [ha] at h
  simp only at h
  obtain ⟨l1, b2, e2, hb⟩ : ∃ l1 b2 e2, manyR f n b1 e1 = (l1, b2, e2) := ⟨_, _, _, rfl⟩
  rw [hb] at h
  simp only at h
  split at h
  · rename_i hn
    simp only [Prod.mk.injEq] at h
    exact absurd h.2 hn
  · rename_i hn
    obtain ⟨rfl, rfl⟩ := endR_zero (Classical.not_not.1 hn)
    cases hr : right l1 with
    | false => rw [hr] at h; simp at h
    | true =>
      rw [hr] at h
      simp only [Prod.mk.injEq] at h
      obtain ⟨rfl, -⟩ := h
      obtain ⟨rfl, h2, h3⟩ := manyR_back hf n b1 e1 l1 [] hb
      obtain ⟨-, h5, -, h6⟩ := withinR_back ha
      refine ⟨hr, ?_, by rw [h3]; exact h6⟩
      rw [h3, h5, h2, List.append_nil]
end Go.Proofs.YtopjhebhdopjpaaGreat

namespace Go.Proofs.YtopjhebhdopjpaaGreat

def runsB : Int → List Rn → List UInt8
  | _, [] => []
  | was, r :: l => putV (r.fr - was).toNat ++ (putV (r.to - r.fr).toNat ++ runsB r.to l)
def knB (k : Kn) : List UInt8 := putV k.rep.toNat ++ (putV k.runs.length ++ runsB 0 k.runs)
def setB (s : List Kn) : List UInt8 := putV s.length ++ s.flatMap knB
def pieceB (p : Pc) : List UInt8 := rngB p.rng ++ setB p.set
def knowB (k : List Pc) : List UInt8 := putV k.length ++ k.flatMap pieceB
def runRd (was : Int) (b : List UInt8) (e : Int) : Rn × List UInt8 × Int :=
  let x := numR b e
  let y := numR x.2.1 x.2.2
  (⟨was + x.1, was + x.1 + y.1⟩, y.2)
def runsRd : Nat → Int → List UInt8 → Int → List Rn × List UInt8 × Int
  | 0, _, b, e => ([], b, e)
  | n + 1, was, b, e => if e = 0 then ((runRd was b e).1 :: (runsRd n (runRd was b e).1.to (runRd was b e).2.1 (runRd was b e).2.2).1, (runsRd n (runRd was b e).1.to (runRd was b e).2.1 (runRd was b e).2.2).2) else ([], b, e)
def knRd (b : List UInt8) (e : Int) : Kn × List UInt8 × Int :=
  let x := withinR 1 16 b e
  let m := withinR 0 4096 x.2.1 x.2.2
  let l := runsRd m.1 0 m.2.1 m.2.2
  (⟨x.1, l.1⟩, l.2)
def setRd (b : List UInt8) (e : Int) : List Kn × List UInt8 × Int :=
  let n := withinR 0 16 b e
  manyR knRd n.1 n.2.1 n.2.2
def pieceRd (b : List UInt8) (e : Int) : Pc × List UInt8 × Int :=
  let r := rngR b e
  let s := setRd r.2.1 r.2.2
  (⟨r.1, s.1⟩, s.2)
def readK (b : List UInt8) : List Pc × Int := allR2 pieceRd 4096 rightP b
def okRn (was : Int) (r : Rn) : Prop := 0 ≤ r.fr - was ∧ r.fr - was ≤ 281474976710656 ∧ 0 ≤ r.to - r.fr ∧ r.to - r.fr ≤ 281474976710656
theorem runRd_put {was : Int} {r : Rn} (h : okRn was r) (b : List UInt8) : runRd was (putV (r.fr - was).toNat ++ (putV (r.to - r.fr).toNat ++ b)) 0 = (r, b, 0) := by
  obtain ⟨h1, h2, h3, h4⟩ := h
  unfold runRd
  rw [numR_put _ _ (by omega)]
  simp only
  rw [numR_put _ _ (by omega)]
  simp only
  rw [Int.toNat_of_nonneg h1, Int.toNat_of_nonneg h3]
  have e1 : was + (r.fr - was) = r.fr := by omega
  have e2 : r.fr + (r.to - r.fr) = r.to := by omega
  rw [e1, e2]
theorem runsRd_put : ∀ (l : List Rn) (was : Int) (b : List UInt8), 0 ≤ was → rightC l = true → (∀ r m, l = r :: m → was ≤ r.fr) → runsRd l.length was (runsB was l ++ b) 0 = (l, b, 0)
  | [], _, b, _, _, _ => rfl
  | r :: l, was, b, hw, h, h0 => by
    have h1 := oneC_iff.1 (rightC_head h)
    have h2 := h0 r l rfl
    have h3 := runRd_put (was := was) (r := r) ⟨by omega, by omega, by omega, by omega⟩ (runsB r.to l ++ b)
    have ih := runsRd_put l r.to b (by omega) (rightC_tail h) (fun t m e => by subst e; have := rightC_gap h; omega)
    rw [runsB, List.append_assoc, List.append_assoc, List.length_cons, runsRd, if_pos rfl, h3]
    simp only
    rw [ih]
def smallKn (k : Kn) : Prop := 1 ≤ k.rep ∧ k.rep ≤ 16 ∧ rightC k.runs = true ∧ k.runs.length ≤ 4096
theorem knRd_put {k : Kn} (h : smallKn k) (b : List UInt8) : knRd (knB k ++ b) 0 = (k, b, 0) := by
  obtain ⟨h1, h2, h3, h4⟩ := h
  unfold knRd knB
  rw [List.append_assoc, List.append_assoc, withinR_put _ _ (by omega) (by omega) (by omega)]
  simp only
  rw [withinR_put _ _ (by omega) (by omega) (by omega)]
  simp only
  rw [runsRd_put k.runs 0 b (Int.le_refl _) h3 fun r m e => by rw [e] at h3; have := oneC_iff.1 (rightC_head h3); omega, Int.toNat_of_nonneg (by omega)]
theorem smallKn_of {s : List Kn} (h : rightS s = true) (hm : ∀ k ∈ s, k.runs.length ≤ 4096) : ∀ k ∈ s, smallKn k := fun k hk => by
  obtain ⟨h1, h2, h3⟩ := upS_all h k hk
  exact ⟨by omega, h2, (oneK_iff.1 h3).2, hm k hk⟩
theorem upS_len : ∀ {s : List Kn} {c : Int}, upS c s = true → 0 ≤ c → c ≤ 16 → (s.length : Int) + c ≤ 16
  | [], c, _, h0, h1 => by simp; omega
  | k :: s, c, h, h0, h1 => by
    obtain ⟨a1, a2, a3, a4⟩ := upS_cons.1 h
    have := upS_len a4 (by omega) a2
    rw [List.length_cons]; omega
theorem rightS_len {s : List Kn} (h : rightS s = true) : s.length ≤ 16 := by have := upS_len h (Int.le_refl _) (by omega); omega
theorem setRd_put {s : List Kn} (h : rightS s = true) (hm : ∀ k ∈ s, k.runs.length ≤ 4096) (b : List UInt8) : setRd (setB s ++ b) 0 = (s, b, 0) := by
  have h1 := rightS_len h
  unfold setRd setB
  rw [List.append_assoc, withinR_put _ _ (by omega) (by omega) (by omega)]
  simp only
  exact manyR_put s b fun k hk r => knRd_put (smallKn_of h hm k hk) r
theorem pieceRd_put {p : Pc} (h : onePc p = true) (hm : ∀ k ∈ p.set, k.runs.length ≤ 4096) (b : List UInt8) : pieceRd (pieceB p ++ b) 0 = (p, b, 0) := by
  obtain ⟨h1, -, h3⟩ := onePc_iff.1 h
  unfold pieceRd pieceB
  rw [List.append_assoc, rngR_put _ _ h1]
  simp only
  rw [setRd_put h3 hm]
theorem readK_put {k : List Pc} (h : rightP k = true) (hl : k.length ≤ 4096) (hm : ∀ p ∈ k, ∀ x ∈ p.set, x.runs.length ≤ 4096) : readK (knowB k) = (k, 0) :=
  allR2_put k h (by omega) (by omega) fun p hp r => pieceRd_put (rightP_all h p hp) (hm p hp) r
theorem runRd_back {was : Int} {b c : List UInt8} {e : Int} {r : Rn} (h : runRd was b e = (r, c, 0)) : e = 0 ∧ b = putV (r.fr - was).toNat ++ (putV (r.to - r.fr).toNat ++ c) ∧ was ≤ r.fr ∧ r.fr ≤ r.to := by
  unfold runRd at h
  obtain ⟨x, b1, e1, hx⟩ : ∃ x b1 e1, numR b e = (x, b1, e1) := ⟨_, _, _, rfl⟩
  rw [hx] at h
  simp only at h
  obtain ⟨y, b2, e2, hy⟩ : ∃ y b2 e2, numR b1 e1 = (y, b2, e2) := ⟨_, _, _, rfl⟩
  rw [hy] at h
  simp only [Prod.mk.injEq] at h
  obtain ⟨rfl, rfl, rfl⟩ := h
  obtain ⟨rfl, h2⟩ := numR_of hy
  obtain ⟨h3, h4⟩ := numR_of hx
  refine ⟨h3, ?_, by show was ≤ was + _; omega, by show was + _ ≤ was + _ + _; omega⟩
  have e1 : (was + (x : Int) - was).toNat = x := by omega
  have e2 : (was + (x : Int) + (y : Int) - (was + (x : Int))).toNat = y := by omega
  show b = putV (was + (x : Int) - was).toNat ++ (putV (was + (x : Int) + (y : Int) - (was + (x : Int))).toNat ++ b2)
  rw [e1, e2, h4, h2]
theorem runsRd_back : ∀ (n : Nat) (was : Int) (b : List UInt8) (e : Int) (l : List Rn) (c : List UInt8), runsRd n was b e = (l, c, 0) → e = 0 ∧ b = runsB was l ++ c ∧ l.length = n
  | 0, was, b, e, l, c, h => by
    simp only [runsRd, Prod.mk.injEq] at h
    obtain ⟨rfl, rfl, rfl⟩ := h
    exact ⟨rfl, rfl, rfl⟩
  | n + 1, was, b, e, l, c, h => by
    rw [runsRd] at h
    split at h
    · rename_i he
      subst he
      obtain ⟨x, b1, e1, hx⟩ : ∃ x b1 e1, runRd was b 0 = (x, b1, e1) := ⟨_, _, _, rfl⟩
      rw [hx] at h
      simp only at h
      obtain ⟨l1, b2, e2, hy⟩ : ∃ l1 b2 e2, runsRd n x.to b1 e1 = (l1, b2, e2) := ⟨_, _, _, rfl⟩
      rw [hy] at h
      simp only [Prod.mk.injEq] at h
      obtain ⟨rfl, rfl, rfl⟩ := h
      obtain ⟨rfl, h2, h3⟩ := runsRd_back n x.to b1 e1 l1 b2 hy
      obtain ⟨-, h4, -, -⟩ := runRd_back hx
      exact ⟨rfl, by rw [h4, h2, runsB, List.append_assoc, List.append_assoc], by rw [List.length_cons, h3]⟩
    · rename_i he
      simp only [Prod.mk.injEq] at h
      exact absurd h.2.2 he
theorem knRd_back {b c : List UInt8} {e : Int} {k : Kn} (h : knRd b e = (k, c, 0)) : e = 0 ∧ b = knB k ++ c := by
  unfold knRd at h
  obtain ⟨x, b1, e1, hx⟩ : ∃ x b1 e1, withinR 1 16 b e = (x, b1, e1) := ⟨_, _, _, rfl⟩
  rw [hx] at h
  simp only at h
  obtain ⟨m, b2, e2, hm⟩ : ∃ m b2 e2, withinR 0 4096 b1 e1 = (m, b2, e2) := ⟨_, _, _, rfl⟩
  rw [hm] at h
  simp only at h
  obtain ⟨l, b3, e3, hl⟩ : ∃ l b3 e3, runsRd m 0 b2 e2 = (l, b3, e3) := ⟨_, _, _, rfl⟩
  rw [hl] at h
  simp only [Prod.mk.injEq] at h
  obtain ⟨rfl, rfl, rfl⟩ := h
  obtain ⟨rfl, h2, h3⟩ := runsRd_back m 0 b2 e2 l b3 hl
  obtain ⟨rfl, h4, -⟩ := withinR_back hm
  obtain ⟨h5, h6, -⟩ := withinR_back hx
  refine ⟨h5, ?_⟩
  show b = (putV (x : Int).toNat ++ (putV l.length ++ runsB 0 l)) ++ b3
  rw [h6, h4, h2, h3, List.append_assoc, List.append_assoc, Int.toNat_natCast]
theorem setRd_back {b c : List UInt8} {e : Int} {s : List Kn} (h : setRd b e = (s, c, 0)) : e = 0 ∧ b = setB s ++ c := by
  unfold setRd at h
  obtain ⟨n, b1, e1, hn⟩ : ∃ n b1 e1, withinR 0 16 b e = (n, b1, e1) := ⟨_, _, _, rfl⟩
  rw [hn] at h
  simp only at h
  obtain ⟨rfl, h2, h3⟩ := manyR_back (g := knB) (fun _ _ _ _ hx => knRd_back hx) n b1 e1 s c h
  obtain ⟨h4, h5, -⟩ := withinR_back hn
  exact ⟨h4, by rw [h5, h2, setB, h3, List.append_assoc]⟩
theorem pieceRd_back {b c : List UInt8} {e : Int} {p : Pc} (h : pieceRd b e = (p, c, 0)) : e = 0 ∧ b = pieceB p ++ c := by
  unfold pieceRd at h
  obtain ⟨r, b1, e1, hr⟩ : ∃ r b1 e1, rngR b e = (r, b1, e1) := ⟨_, _, _, rfl⟩
  rw [hr] at h
  simp only at h
  obtain ⟨s, b2, e2, hs⟩ : ∃ s b2 e2, setRd b1 e1 = (s, b2, e2) := ⟨_, _, _, rfl⟩
  rw [hs] at h
  simp only [Prod.mk.injEq] at h
  obtain ⟨rfl, rfl, rfl⟩ := h
  obtain ⟨rfl, h2⟩ := setRd_back hs
  obtain ⟨h3, h4⟩ := rngR_back hr
  exact ⟨h3, by rw [h4, h2, pieceB, List.append_assoc]⟩
theorem readK_back {b : List UInt8} {k : List Pc} (h : readK b = (k, 0)) : knowB k = b ∧ rightP k = true :=
  have ⟨h1, h2, _⟩ := allR2_back (g := pieceB) (fun _ _ _ _ hx => pieceRd_back hx) h
  ⟨h2.symm, h1⟩
end Go.Proofs.YtopjhebhdopjpaaGreat

namespace Go.Proofs.YtopjhebhdopjpaaGreat
open Go.RowKit

def longPc (p : Pc) : Bool := decide (40 < p.rng.lo.length) || decide (40 < p.rng.hi.length) || longV 16 p.set
def longP (m : Nat) (k : List Pc) : Bool := decide (m < k.length) || k.any longPc
set_option maxRecDepth 100000 in
set_option maxHeartbeats 2000000 in
theorem ref_plong (m : Nat) (y : Int) (hy : (m : Int) = y) (hml : m ≤ 1000) (A : Option Addr) (c n : Nat) (k : List Pc) (hn : n = k.length) (v : Bool) (hv : longP m k = v) (w : World) (hr : RdPc w A c k) :
    Calls Tryz.prog 7 #[.slice A n c, .int .i64 y] w fun e w' => e = .returned (.bool v) ∧ Below w.heap.size w w' := by
  subst hy
  have HN := Lib.hid hn
  have HR := Lib.hid hr
  have hmx := hr.max hn
  have hcx : n ≤ c := by rw [hn]; exact hr.room
  by_cases h1 : m < n
  · have HE : Hid (true = v) := by rw [← hv]; unfold longP; rw [decide_eq_true (by omega)]; rfl
    clear hn hr hv
    go_enter Tryz.func7, Tryz.ntmps7
    go_wp2_with fail
    go_ret
    exact ⟨ret_bool HE.out, Below.refl _ _⟩
  · have hdm : decide (m < n) = false := decide_eq_false h1
    have HE : Hid (k.any longPc = v) := by rw [← hv]; unfold longP; rw [decide_eq_false (by omega), Bool.false_or]; rfl
    clear hn hr hv
    go_enter Tryz.func7, Tryz.ntmps7
    go_wp2_with fail
    go_loopw [5] (fun i wr => ∃ j : Nat, j ≤ n ∧ Hid ((k.drop j).any longPc = v) ∧ i = .int .i64 j ∧ Hid (Below w.heap.size w wr)) (fun i _ => n - (intOf i).toNat)
    case atStart => exact ⟨0, by omega, HE, rfl, Below.refl _ _⟩
    case round =>
      obtain ⟨j, hj, HL, rfl, HB⟩ := hrel
      by_cases hlt : j < n
      · obtain ⟨p, hg, hd, -⟩ := get_some (l := k) (k := j) (by have := HN.out; omega)
        obtain ⟨b, o, A', n', c', S, T, q, rfl, hb1, ⟨hS, hT, -⟩, hn', hrd, c0, c1, c2, c3⟩ := (HR.out.call HB.out).at_ hg
        have HL2 := Lib.hid (show (longPc p || (k.drop (j + 1)).any longPc) = v from by rw [← List.any_cons, ← hd]; exact HL.out)
        have hz1 : S.size = p.rng.lo.length := by rw [← hS]; exact str_size _
        have hz2 : T.size = p.rng.hi.length := by rw [← hT]; exact str_size _
        have hmx' : n' ≤ c' := by rw [hn']; exact hrd.room
        obtain ⟨d, hd2⟩ : ∃ d, longV 16 p.set = d := ⟨_, rfl⟩
        have C1 := Lib.hid (ref_vlong 16 16 rfl (by omega) A' c' n' p.set hn' d hd2 wr hrd)
        clear hg hd hn' hrd HE hS hT
        by_cases g1 : p.rng.lo.length ≤ 40
        · by_cases g2 : p.rng.hi.length ≤ 40
          · have k1 : S.size ≤ 40 := by omega
            have k2 : T.size ≤ 40 := by omega
            have HE := Lib.hid (show (d || (k.drop (j + 1)).any longPc) = v from by
              rw [← HL2.out]
              unfold longPc
              rw [decide_eq_false (show ¬ 40 < p.rng.lo.length by omega), decide_eq_false (show ¬ 40 < p.rng.hi.length by omega), hd2]; rfl)
            clear hz1 hz2 g1 g2 HL2 hd2
            cases d
            · go_wp2_with ((with_reducible refine C1.out.mono ?_); rintro e w2 ⟨rfl, hq⟩; have HB2 := Lib.hid (HB.out.trans (hq.mono HB.out.size)); clear hq)
              go_roundw
              case rel => exact ⟨j + 1, by omega, HE, by go_num, HB2⟩
              case measure => simp [intOf]; omega
            · go_wp2_with ((with_reducible refine C1.out.mono ?_); rintro e w2 ⟨rfl, hq⟩; have HB2 := Lib.hid (HB.out.trans (hq.mono HB.out.size)); clear hq)
              go_ret
              exact ⟨ret_bool HE.out, HB2.out⟩
          · have k1 : S.size ≤ 40 := by omega
            have k2 : 40 < T.size := by omega
            have HE := Lib.hid (show true = v from by
              rw [← HL2.out]
              unfold longPc
              rw [decide_eq_true (show 40 < p.rng.hi.length by omega), Bool.or_true]; rfl)
            clear hz1 hz2 g1 g2 HL2 hd2 C1
            go_wp2_with fail
            go_ret
            exact ⟨ret_bool HE.out, HB.out⟩
        · have k1 : 40 < S.size := by omega
          have HE := Lib.hid (show true = v from by
            rw [← HL2.out]
            unfold longPc
            rw [decide_eq_true (show 40 < p.rng.lo.length by omega)]; rfl)
          clear hz1 hz2 g1 HL2 hd2 C1
          go_wp2_with fail
          go_ret
          exact ⟨ret_bool HE.out, HB.out⟩
      · have HE2 := Lib.hid (show false = v from by rw [← HL.out, List.drop_eq_nil_of_le (by have := HN.out; omega)]; rfl)
        go_wp2_with fail
        go_ret
        exact ⟨ret_bool HE2.out, HB.out⟩
def sameP : List Pc → List Pc → Bool
  | [], [] => true
  | p :: a, q :: b => eqR p.rng q.rng && sameS p.set q.set && sameP a b
  | _, _ => false
theorem sameP_iff : ∀ {a b : List Pc}, sameP a b = true ↔ a = b
  | [], [] => by simp [sameP]
  | [], _ :: _ => by simp [sameP]
  | _ :: _, [] => by simp [sameP]
  | p :: a, q :: b => by
    rw [sameP, Bool.and_eq_true, Bool.and_eq_true, eqR_iff, sameS_iff, sameP_iff (a := a)]
    constructor
    · rintro ⟨⟨h1, h2⟩, h3⟩; rw [pc_ext h1 h2, h3]
    · intro h; injection h with h1 h2; subst h1 h2; exact ⟨⟨rfl, rfl⟩, rfl⟩
theorem sameP_len {a b : List Pc} (h : a.length ≠ b.length) : sameP a b = false := by
  cases hs : sameP a b with
  | false => rfl
  | true => rw [sameP_iff] at hs; subst hs; exact absurd rfl h
set_option maxRecDepth 100000 in
set_option maxHeartbeats 4000000 in
theorem ref_psame (A B : Option Addr) (c d n m : Nat) (a b : List Pc) (hn : n = a.length) (hm : m = b.length) (v : Bool) (hv : sameP a b = v) (w : World) (ha : RdPc w A c a) (hb : RdPc w B d b) :
    Calls Tryz.prog 13 #[.slice A n c, .slice B m d] w fun e w' => e = .returned (.bool v) ∧ Below w.heap.size w w' := by
  by_cases hnm : n = m
  · subst hnm
    have HN := Lib.hid hn
    have HM := Lib.hid hm
    have HA := Lib.hid ha
    have HB := Lib.hid hb
    have HV := Lib.hid hv
    have hmx := ha.max hn
    have hcx : n ≤ c := by rw [hn]; exact ha.room
    have hcy : n ≤ d := by rw [hm]; exact hb.room
    clear hn hm ha hb hv
    go_enter Tryz.func13, Tryz.ntmps13
    go_wp2_with fail
    go_loopw [5] (fun i wr => ∃ k : Nat, k ≤ n ∧ i = .int .i64 k ∧ Hid (sameP (a.drop k) (b.drop k) = v) ∧ Hid (Below w.heap.size w wr)) (fun i _ => n - (intOf i).toNat)
    case atStart => exact ⟨0, by omega, rfl, HV, Below.refl _ _⟩
    case round =>
      obtain ⟨k, hk, rfl, HL, HW⟩ := hrel
      by_cases hlt : k < n
      · obtain ⟨r, hg, hd, -⟩ := get_some (l := a) (k := k) (by have := HN.out; omega)
        obtain ⟨t, hgt, hdt, -⟩ := get_some (l := b) (k := k) (by have := HM.out; omega)
        obtain ⟨b1, o1, A1, n1, c1, S1, T1, q1, rfl, hb1, ⟨hS1, hT1, hq1⟩, hn1, hr1, p0, p1, p2, p3⟩ := (HA.out.call HW.out).at_ hg
        obtain ⟨b2, o2, A2, n2, c2, S2, T2, q2, rfl, hb2, ⟨hS2, hT2, hq2⟩, hn2, hr2, r0, r1, r2, r3⟩ := (HB.out.call HW.out).at_ hgt
        obtain ⟨e, he⟩ : ∃ e, eqR r.rng t.rng = e := ⟨_, rfl⟩
        obtain ⟨f, hf⟩ : ∃ f, sameS r.set t.set = f := ⟨_, rfl⟩
        have hL := HL.out
        rw [hd, hdt, sameP, he, hf] at hL
        have EQ := fun w => eq_rngs r.rng t.rng e he w
        rw [hS1, hT1, hq1, hS2, hT2, hq2] at EQ
        have HR1 := Lib.hid hr1
        have HR2 := Lib.hid hr2
        have CS := Lib.hid (fun (L : List (Addr × Value)) => fun (W : World) (hC : CellL wr L W) => (ref_vsame A1 A2 c1 c2 n1 n2 r.set t.set hn1 hn2 f hf W (HR1.out.call (cellL_size hC)) (HR2.out.call (cellL_size hC))).mono fun (e : Ending) (W' : World) ⟨h1, h2⟩ => (⟨h1, cellL_call h2 hC⟩ : e = Ending.returned (.bool f) ∧ CellL wr L W'))
        have hx1 : n1 ≤ c1 := by rw [hn1]; exact hr1.room
        have hx2 : n2 ≤ c2 := by rw [hn2]; exact hr2.room
        have HC := Lib.hid (show CellL wr [(⟨b1, o1 + k * 4, none⟩, .string S1), (⟨b1, o1 + k * 4 + 1, none⟩, .string T1), (⟨b1, o1 + k * 4 + 2, none⟩, .bool q1), (⟨b1, o1 + k * 4 + 3, none⟩, .slice A1 n1 c1), (⟨b2, o2 + k * 4, none⟩, .string S2), (⟨b2, o2 + k * 4 + 1, none⟩, .string T2), (⟨b2, o2 + k * 4 + 2, none⟩, .bool q2), (⟨b2, o2 + k * 4 + 3, none⟩, .slice A2 n2 c2)] wr from ⟨p0, p1, p2, p3, r0, r1, r2, r3, Below.refl _ _⟩)
        have hk0 : (0 : Int) ≤ (k : Int) := by omega
        have hkn : (k : Int) < (n : Int) := by omega
        have hkd : decide ((k : Int) < 0) = false := decide_eq_false (by omega)
        have HLL := Lib.hid hL
        clear hg hd hgt hdt hS1 hT1 hq1 hS2 hT2 hq2 hn1 hn2 hr1 hr2 p0 p1 p2 p3 r0 r1 r2 r3 he hf hL
        go_wp2_with fail
        cases e
        · have HE := Lib.hid (show false = v from HLL.out)
          refine q_region (CellL wr [(⟨b1, o1 + k * 4, none⟩, .string S1), (⟨b1, o1 + k * 4 + 1, none⟩, .string T1), (⟨b1, o1 + k * 4 + 2, none⟩, .bool q1), (⟨b1, o1 + k * 4 + 3, none⟩, .slice A1 n1 c1), (⟨b2, o2 + k * 4, none⟩, .string S2), (⟨b2, o2 + k * 4 + 1, none⟩, .string T2), (⟨b2, o2 + k * 4 + 2, none⟩, .bool q2), (⟨b2, o2 + k * 4 + 3, none⟩, .slice A2 n2 c2)]) (by kernel_rfl) (by kernel_rfl) (cellL_drew HC.out) ?_
          repeat (first
            | go_big_quiet_skip
            | (go_big_quiet_want; (first
              | (refine q_take (v := ?_) ?_ ?_; rotate_left; (focus (intro w hSw; (try simp only [CellL] at hSw); go_split_ands; go_simp; (try (rw [if_neg (by omega)])); (try with_reducible rfl); done)))
              | (refine q_call (CS.out _) ?_ ?_; (focus (intro w hSw; (try simp only [CellL] at hSw); go_split_ands; go_simp; (try (rw [if_neg (by omega)])); done)))); (try simp only [Act.put, List.setIfInBounds_toArray, List.set_cons_zero, List.set_cons_succ]); go_big_quiet_on))
          refine wpQuiet_nil ?_
          intro w2 hw2
          have HB2 := Lib.hid (HW.out.trans ((cellL_size hw2).mono HW.out.size))
          clear hw2
          go_wp2_with fail
          go_ret
          exact ⟨ret_bool HE.out, HB2.out⟩
        · have HE := Lib.hid (show (f && sameP (a.drop (k + 1)) (b.drop (k + 1))) = v from HLL.out)
          refine q_region (CellL wr [(⟨b1, o1 + k * 4, none⟩, .string S1), (⟨b1, o1 + k * 4 + 1, none⟩, .string T1), (⟨b1, o1 + k * 4 + 2, none⟩, .bool q1), (⟨b1, o1 + k * 4 + 3, none⟩, .slice A1 n1 c1), (⟨b2, o2 + k * 4, none⟩, .string S2), (⟨b2, o2 + k * 4 + 1, none⟩, .string T2), (⟨b2, o2 + k * 4 + 2, none⟩, .bool q2), (⟨b2, o2 + k * 4 + 3, none⟩, .slice A2 n2 c2)]) (by kernel_rfl) (by kernel_rfl) (cellL_drew HC.out) ?_
          repeat (first
            | go_big_quiet_skip
            | (go_big_quiet_want; (first
              | (refine q_take (v := ?_) ?_ ?_; rotate_left; (focus (intro w hSw; (try simp only [CellL] at hSw); go_split_ands; go_simp; (try (rw [if_neg (by omega)])); (try with_reducible rfl); done)))
              | (refine q_call (CS.out _) ?_ ?_; (focus (intro w hSw; (try simp only [CellL] at hSw); go_split_ands; go_simp; (try (rw [if_neg (by omega)])); done)))); (try simp only [Act.put, List.setIfInBounds_toArray, List.set_cons_zero, List.set_cons_succ]); go_big_quiet_on))
          refine wpQuiet_nil ?_
          intro w2 hw2
          have HB2 := Lib.hid (HW.out.trans ((cellL_size hw2).mono HW.out.size))
          clear hw2
          cases f
          · have HE2 := Lib.hid (show false = v from HE.out)
            go_wp2_with fail
            go_ret
            exact ⟨ret_bool HE2.out, HB2.out⟩
          · have HE2 := Lib.hid (show sameP (a.drop (k + 1)) (b.drop (k + 1)) = v from HE.out)
            go_wp2_with fail
            go_roundw
            case rel => exact ⟨k + 1, by omega, by go_num, HE2, HB2⟩
            case measure => simp [intOf]; omega
      · have HE2 := Lib.hid (show true = v from by rw [← HL.out, List.drop_eq_nil_of_le (by have := HN.out; omega), List.drop_eq_nil_of_le (by have := HM.out; omega)]; rfl)
        go_wp2_with fail
        go_ret
        exact ⟨ret_bool HE2.out, HW.out⟩
  · have HE := Lib.hid (show false = v from by rw [← hv, sameP_len (a := a) (b := b) (by omega)])
    have hne : ((n : Int) == (m : Int)) = false := beq_eq_false_iff_ne.2 (by omega)
    have hne2 : ((n : Int) != (m : Int)) = true := by rw [bne, hne]; rfl
    clear hn hm ha hb hnm hv
    go_enter Tryz.func13, Tryz.ntmps13
    go_wp2_with fail
    go_ret
    exact ⟨ret_bool HE.out, Below.refl _ _⟩
end Go.Proofs.YtopjhebhdopjpaaGreat

namespace Go.Proofs.YtopjhebhdopjpaaGreat
open Go.RowKit

def rightFP : Option Pc → List Pc → Bool
  | _, [] => true
  | none, r :: l => onePc r && rightFP (some r) l
  | some p, r :: l => onePc r && (gapP p r && rightFP (some r) l)
theorem rightFP_some : ∀ (r : Pc) (l : List Pc), (onePc r && rightFP (some r) l) = rightP (r :: l)
  | r, [] => by simp [rightFP, rightP]
  | r, t :: l => by
    have := rightFP_some t l
    unfold rightFP rightP
    rw [← this]
    cases onePc r <;> cases gapP r t <;> cases onePc t <;> simp
theorem rightFP_none (l : List Pc) : rightFP none l = rightP l := by
  cases l with
  | nil => rfl
  | cons r l => rw [← rightFP_some]; rfl
def prevPc (l : List Pc) : Nat → Option Pc
  | 0 => none
  | k + 1 => l[k]?
theorem rightFP_no {o : Option Pc} {r : Pc} {l : List Pc} (h : onePc r = false) : rightFP o (r :: l) = false := by cases o <;> simp [rightFP, h]
theorem boxA (w : World) (S T S' T' : ByteArray) (q q' : Bool) : (((w.alloc (.cells #[.string S, .string T, .bool q] 45)).alloc (.cells #[.string S', .string T', .bool q'] 45)).drew).cell? ⟨w.heap.size, 0, none⟩ = some (.string S) ∧ (((w.alloc (.cells #[.string S, .string T, .bool q] 45)).alloc (.cells #[.string S', .string T', .bool q'] 45)).drew).cell? ⟨w.heap.size, 1, none⟩ = some (.string T) ∧ (((w.alloc (.cells #[.string S, .string T, .bool q] 45)).alloc (.cells #[.string S', .string T', .bool q'] 45)).drew).cell? ⟨w.heap.size, 2, none⟩ = some (.bool q) := by
  obtain ⟨a0, a1, a2, -⟩ := rgAt_new w S T q 45
  have K := fun j => (bcell (below_new (w.alloc (.cells #[.string S, .string T, .bool q] 45)) (.cells #[.string S', .string T', .bool q'] 45)).drew).1 w.heap.size j (by simp)
  exact ⟨(K 0).trans a0, (K 1).trans a1, (K 2).trans a2⟩
theorem boxB (w : World) (S T S' T' : ByteArray) (q q' : Bool) : (((w.alloc (.cells #[.string S, .string T, .bool q] 45)).alloc (.cells #[.string S', .string T', .bool q'] 45)).drew).cell? ⟨w.heap.size + 1, 0, none⟩ = some (.string S') ∧ (((w.alloc (.cells #[.string S, .string T, .bool q] 45)).alloc (.cells #[.string S', .string T', .bool q'] 45)).drew).cell? ⟨w.heap.size + 1, 1, none⟩ = some (.string T') ∧ (((w.alloc (.cells #[.string S, .string T, .bool q] 45)).alloc (.cells #[.string S', .string T', .bool q'] 45)).drew).cell? ⟨w.heap.size + 1, 2, none⟩ = some (.bool q') := by
  obtain ⟨a0, a1, a2, -⟩ := rgAt_new (w.alloc (.cells #[.string S, .string T, .bool q] 45)) S' T' q' 45
  rw [size1] at a0 a1 a2
  exact ⟨a0, a1, a2⟩
set_option maxRecDepth 100000 in
set_option maxHeartbeats 16000000 in
theorem ref_pright (A : Option Addr) (c n : Nat) (k : List Pc) (hn : n = k.length) (hl : ∀ p ∈ k, p.rng.lo.length ≤ 1000000 ∧ p.rng.hi.length ≤ 1000000) (v : Bool) (hv : rightP k = v) (w : World) (hr : RdPc w A c k) :
    Calls Tryz.prog 9 #[.slice A n c] w fun e w' => e = .returned (.bool v) ∧ Below w.heap.size w w' := by
  have HN := Lib.hid hn
  have HR := Lib.hid hr
  have HLN := Lib.hid hl
  have hmx := hr.max hn
  have hcx : n ≤ c := by rw [hn]; exact hr.room
  have HV := Lib.hid (show rightFP (prevPc k 0) (k.drop 0) = v from (rightFP_none k).trans hv)
  clear hn hr hl hv
  go_enter Tryz.func9, Tryz.ntmps9
  go_wp2_with fail
  go_loopw [3] (fun i wr => ∃ j : Nat, j ≤ n ∧ Hid (rightFP (prevPc k j) (k.drop j) = v) ∧ i = .int .i64 j ∧ Hid (Below w.heap.size w wr)) (fun i _ => n - (intOf i).toNat)
  case atStart => exact ⟨0, by omega, HV, rfl, Below.refl _ _⟩
  case round =>
    obtain ⟨j, hj, HL, rfl, hb⟩ := hrel
    by_cases hlt : j < n
    · obtain ⟨r, hg, hd, hm⟩ := get_some (l := k) (k := j) (by have := HN.out; omega)
      have HR1 := Lib.hid (HR.out.call hb.out)
      obtain ⟨b, o, A2, n2, c2, S2, T2, q2, rfl, hb1, hIs, hn2, hrd2, r0, r1, r2, r3⟩ := HR1.out.at_ hg
      obtain ⟨d1, hd1⟩ : ∃ d, rightR r.rng = d := ⟨_, rfl⟩
      obtain ⟨d3, hd3⟩ : ∃ d, rightS r.set = d := ⟨_, rfl⟩
      have C1 := fun w => Lib.hid (ref_rright r.rng S2 T2 q2 d1 hIs hd1 w)
      have C3 := fun w h => Lib.hid (ref_vsright A2 c2 n2 r.set hn2 d3 hd3 w h)
      have HRD2 := Lib.hid hrd2
      have hx2 : n2 ≤ c2 := by rw [hn2]; exact hrd2.room
      by_cases hone : onePc r = true
      · obtain rfl : d1 = true := hd1.symm.trans (onePc_iff.1 hone).1
        obtain rfl : d3 = true := hd3.symm.trans (onePc_iff.1 hone).2.2
        have hz : n2 ≠ 0 := fun e => (onePc_iff.1 hone).2.1 (List.eq_nil_of_length_eq_zero (by rw [← hn2]; exact e))
        have hz0 : ((n2 : Int) == 0) = false := beq_eq_false_iff_ne.2 (by omega)
        cases j with
        | zero =>
          have HE := Lib.hid (show rightFP (prevPc k 1) (k.drop 1) = v from by
            rw [← HL.out, hd]
            show rightFP k[0]? _ = rightFP none _
            rw [hg, rightFP, hone]; rfl)
          rw [Nat.zero_mul, Nat.add_zero] at r0 r1 r2 r3
          clear hg hd hm hd1 hd3 hn2 hrd2 hIs hone
          go_wp2_with (first
            | ((with_reducible refine (C1 _).out.mono ?_); rintro e w2 ⟨rfl, hq⟩; replace hb := Lib.hid (hb.out.trans (hq.mono hb.out.size)); replace r3 := ((bcell hq).1 _ _ hb1).trans r3; replace HRD2 := Lib.hid (HRD2.out.call hq); clear hq)
            | ((with_reducible refine (C3 _ HRD2.out).out.mono ?_); rintro e w3 ⟨rfl, hq⟩; replace hb := Lib.hid (hb.out.trans (hq.mono hb.out.size)); clear hq))
          go_roundw
          case rel => exact ⟨1, by omega, HE, rfl, hb⟩
          case measure => simp [intOf]; omega
        | succ i =>
          obtain ⟨p, hp, -, hpm⟩ := get_some (l := k) (k := i) (by have := HN.out; omega)
          obtain ⟨b', o', A1, n1, c1, S1, T1, q1, hbb, hb1', hIs1, hn1, hrd1, p0, p1, p2, p3⟩ := HR1.out.at_ hp
          injection hbb with hbb
          injection hbb with e1 e2
          subst e1 e2
          have HRD1 := Lib.hid hrd1
          have hx1 : n1 ≤ c1 := by rw [hn1]; exact hrd1.room
          have HL2 := Lib.hid (show (gapP p r && rightFP (prevPc k (i + 2)) (k.drop (i + 2))) = v from by
            rw [← HL.out, hd]
            show (_ && rightFP k[i + 1]? _) = rightFP k[i]? _
            rw [hp, hg, rightFP, hone]; rfl)
          obtain ⟨x, hx⟩ : ∃ x, ltB r.rng.lo p.rng.hi = x := ⟨_, rfl⟩
          obtain ⟨y, hy⟩ : ∃ y, (T1.toList == S2.toList) = y := ⟨_, rfl⟩
          obtain ⟨f, hf⟩ : ∃ f, sameS p.set r.set = f := ⟨_, rfl⟩
          have CL := fun w => Lib.hid (less_q r.rng.lo p.rng.hi S2 T1 hIs.1 hIs1.2 (by have := (HLN.out r hm).1; omega) x hx w)
          have CF := fun w h1 h2 => Lib.hid (ref_vsame A1 A2 c1 c2 n1 n2 p.set r.set hn1 hn2 f hf w h1 h2)
          have HGP := Lib.hid (show gapP p r = (!q1 && (!x && !(y && f))) from by
            have e1 : decide (p.rng.hi = r.rng.lo) = y := by
              rw [← hy, ← hIs1.2, ← hIs.1, str_toList, str_toList]
              by_cases h : p.rng.hi = r.rng.lo <;> simp [h]
            have e2 : decide (p.set = r.set) = f := by
              rw [← hf]
              by_cases h : p.set = r.set
              · rw [decide_eq_true h, sameS_iff.2 h]
              · rw [decide_eq_false h]
                cases hs : sameS p.set r.set with
                | false => rfl
                | true => exact absurd (sameS_iff.1 hs) h
            unfold gapP
            rw [hIs1.3, hx, e1, e2])
          have hw1 : IntKind.i64.wrap ((i : Int) + 1 - 1) = (i : Int) := by rw [Int.add_sub_cancel]; exact IntWalk.i64_in _ (by omega)
          have HWR := Lib.hid hw1
          clear hg hd hm hd1 hd3 hn2 hrd2 hIs hone hp hpm hIs1 hn1 hrd1 hx hf hw1
          go_wp2_with (first
            | ((with_reducible refine (C1 _).out.mono ?_); rintro e w2 ⟨rfl, hq⟩; replace hb := Lib.hid (hb.out.trans (hq.mono hb.out.size)); replace r3 := ((bcell hq).1 _ _ hb1).trans r3; replace r0 := ((bcell hq).1 _ _ hb1).trans r0; replace r1 := ((bcell hq).1 _ _ hb1).trans r1; replace r2 := ((bcell hq).1 _ _ hb1).trans r2; replace p3 := ((bcell hq).1 _ _ hb1).trans p3; replace p0 := ((bcell hq).1 _ _ hb1).trans p0; replace p1 := ((bcell hq).1 _ _ hb1).trans p1; replace p2 := ((bcell hq).1 _ _ hb1).trans p2; replace hb1 := Nat.lt_of_lt_of_le hb1 hq.size; replace HRD2 := Lib.hid (HRD2.out.call hq); replace HRD1 := Lib.hid (HRD1.out.call hq); clear hq)
            | ((with_reducible refine (C3 _ HRD2.out).out.mono ?_); rintro e w3 ⟨rfl, hq⟩; replace hb := Lib.hid (hb.out.trans (hq.mono hb.out.size)); replace r3 := ((bcell hq).1 _ _ hb1).trans r3; replace r0 := ((bcell hq).1 _ _ hb1).trans r0; replace r1 := ((bcell hq).1 _ _ hb1).trans r1; replace r2 := ((bcell hq).1 _ _ hb1).trans r2; replace p3 := ((bcell hq).1 _ _ hb1).trans p3; replace p0 := ((bcell hq).1 _ _ hb1).trans p0; replace p1 := ((bcell hq).1 _ _ hb1).trans p1; replace p2 := ((bcell hq).1 _ _ hb1).trans p2; replace hb1 := Nat.lt_of_lt_of_le hb1 hq.size; replace HRD2 := Lib.hid (HRD2.out.call hq); replace HRD1 := Lib.hid (HRD1.out.call hq); clear hq))
          have hw1 := HWR.out
          have hi0 : (0 : Int) ≤ (i : Int) := by omega
          have hin : (i : Int) < (n : Int) := by omega
          have hin1 : (i : Int) + 1 < (n : Int) := by omega
          have hit : ((i : Int) + 1).toNat = i + 1 := by omega
          have hw2 : IntKind.i64.wrap ((i : Int) + 1) = (i : Int) + 1 := IntWalk.i64_in _ (by omega)
          go_region
          · obtain ⟨WX, hWX⟩ : ∃ WX, ((w3.alloc (.cells #[.string S1, .string T1, .bool q1] 45)).alloc (.cells #[.string S2, .string T2, .bool q2] 45)).drew = WX := ⟨_, rfl⟩
            have hbX : Below w3.heap.size w3 WX := hWX ▸ (((below_new w3 (.cells #[.string S1, .string T1, .bool q1] 45)).alloc (by simp) (.cells #[.string S2, .string T2, .bool q2] 45)).drew)
            obtain ⟨g0, g1, g2⟩ : WX.cell? ⟨w3.heap.size, 0, none⟩ = some (.string S1) ∧ WX.cell? ⟨w3.heap.size, 1, none⟩ = some (.string T1) ∧ WX.cell? ⟨w3.heap.size, 2, none⟩ = some (.bool q1) := hWX ▸ boxA w3 _ _ _ _ _ _
            obtain ⟨h0, h1, h2⟩ : WX.cell? ⟨w3.heap.size + 1, 0, none⟩ = some (.string S2) ∧ WX.cell? ⟨w3.heap.size + 1, 1, none⟩ = some (.string T2) ∧ WX.cell? ⟨w3.heap.size + 1, 2, none⟩ = some (.bool q2) := hWX ▸ boxB w3 _ _ _ _ _ _
            rw [hWX]
            replace r3 := ((bcell hbX).1 _ _ hb1).trans r3
            replace p3 := ((bcell hbX).1 _ _ hb1).trans p3
            replace hb := Lib.hid (hb.out.trans (hbX.mono hb.out.size))
            replace HRD1 := Lib.hid (HRD1.out.call hbX)
            replace HRD2 := Lib.hid (HRD2.out.call hbX)
            have HC := Lib.hid (show CellL WX [(⟨w3.heap.size, 0, none⟩, .string S1), (⟨w3.heap.size, 1, none⟩, .string T1), (⟨w3.heap.size, 2, none⟩, .bool q1), (⟨w3.heap.size + 1, 0, none⟩, .string S2), (⟨w3.heap.size + 1, 1, none⟩, .string T2), (⟨w3.heap.size + 1, 2, none⟩, .bool q2), (⟨b, o + i * 4 + 3, none⟩, .slice A1 n1 c1), (⟨b, o + (i + 1) * 4 + 3, none⟩, .slice A2 n2 c2)] WX from ⟨g0, g1, g2, h0, h1, h2, p3, r3, Below.refl _ _⟩)
            have CLX := Lib.hid (fun (L : List (Addr × Value)) => fun (W : World) (hC : CellL WX L W) => ((CL W).out).mono fun (e : Ending) (W' : World) ⟨h1, n, h2⟩ => (⟨h1, cellL_call (h2 ▸ below_drewN (Below.refl _ _) n) hC⟩ : e = Ending.returned (.bool x) ∧ CellL WX L W'))
            have CFX := Lib.hid (fun (L : List (Addr × Value)) => fun (W : World) (hC : CellL WX L W) => ((CF W (HRD1.out.call (cellL_size hC)) (HRD2.out.call (cellL_size hC))).out).mono fun (e : Ending) (W' : World) ⟨h1, h2⟩ => (⟨h1, cellL_call h2 hC⟩ : e = Ending.returned (.bool f) ∧ CellL WX L W'))
            clear hWX hbX g0 g1 g2 h0 h1 h2 p0 p1 p2 p3 r0 r1 r2 r3 hw2 C1 C3 CL CF
            have hid : decide ((i : Int) < 0) = false := decide_eq_false (by omega)
            have hid1 : decide ((i : Int) + 1 < 0) = false := decide_eq_false (by omega)
            have hi10 : (0 : Int) ≤ (i : Int) + 1 := by omega
            have hwi : IntKind.i64.wrap (i : Int) = (i : Int) := IntWalk.i64_in _ (by omega)
            go_wp2_with fail
            cases q1
            case' false =>
              cases x
              case' false =>
                cases y
                case' true =>
                  cases f
            all_goals
              refine q_region (CellL WX _) (by kernel_rfl) (by kernel_rfl) (cellL_drew HC.out) ?_
              repeat (first
                | go_big_quiet_skip
                | (go_big_quiet_want; (first
                  | (refine q_take (v := ?_) ?_ ?_; rotate_left; (focus (intro w hSw; (try simp only [CellL] at hSw); go_split_ands; go_simp; (try (rw [if_neg (by omega)])); (try with_reducible rfl); done)))
                  | (refine q_call (CLX.out _) ?_ ?_; (focus (intro w hSw; (try simp only [CellL] at hSw); go_split_ands; go_simp; (try (rw [if_neg (by omega)])); done)))
                  | (refine q_call (CFX.out _) ?_ ?_; (focus (intro w hSw; (try simp only [CellL] at hSw); go_split_ands; go_simp; (try (rw [if_neg (by omega)])); done)))); (try simp only [Act.put, List.setIfInBounds_toArray, List.set_cons_zero, List.set_cons_succ]); go_big_quiet_on))
              refine wpQuiet_nil ?_
              intro w4 hw4
              have HB4 := Lib.hid (hb.out.trans ((cellL_size hw4).mono hb.out.size))
              clear hw4
              go_wp2_with fail
            all_goals first
              | (have HE := Lib.hid (show rightFP (prevPc k (i + 2)) (k.drop (i + 2)) = v from by rw [← HL2.out, HGP.out]; rfl)
                 go_roundw
                 case rel => exact ⟨i + 2, by omega, HE, by go_num, HB4⟩
                 case measure => simp [intOf]; omega)
              | (have HE := Lib.hid (show false = v from by rw [← HL2.out, HGP.out]; rfl)
                 go_ret
                 exact ⟨ret_bool HE.out, HB4.out⟩)
          · obtain ⟨WX, hWX⟩ : ∃ WX, ((w3.alloc (.cells #[.string S2, .string T2, .bool q2] 45)).alloc (.cells #[.string S1, .string T1, .bool q1] 45)).drew = WX := ⟨_, rfl⟩
            have hbX : Below w3.heap.size w3 WX := hWX ▸ (((below_new w3 (.cells #[.string S2, .string T2, .bool q2] 45)).alloc (by simp) (.cells #[.string S1, .string T1, .bool q1] 45)).drew)
            obtain ⟨g0, g1, g2⟩ : WX.cell? ⟨w3.heap.size + 1, 0, none⟩ = some (.string S1) ∧ WX.cell? ⟨w3.heap.size + 1, 1, none⟩ = some (.string T1) ∧ WX.cell? ⟨w3.heap.size + 1, 2, none⟩ = some (.bool q1) := hWX ▸ boxB w3 _ _ _ _ _ _
            obtain ⟨h0, h1, h2⟩ : WX.cell? ⟨w3.heap.size, 0, none⟩ = some (.string S2) ∧ WX.cell? ⟨w3.heap.size, 1, none⟩ = some (.string T2) ∧ WX.cell? ⟨w3.heap.size, 2, none⟩ = some (.bool q2) := hWX ▸ boxA w3 _ _ _ _ _ _
            rw [hWX]
            replace r3 := ((bcell hbX).1 _ _ hb1).trans r3
            replace p3 := ((bcell hbX).1 _ _ hb1).trans p3
            replace hb := Lib.hid (hb.out.trans (hbX.mono hb.out.size))
            replace HRD1 := Lib.hid (HRD1.out.call hbX)
            replace HRD2 := Lib.hid (HRD2.out.call hbX)
            have HC := Lib.hid (show CellL WX [(⟨w3.heap.size + 1, 0, none⟩, .string S1), (⟨w3.heap.size + 1, 1, none⟩, .string T1), (⟨w3.heap.size + 1, 2, none⟩, .bool q1), (⟨w3.heap.size, 0, none⟩, .string S2), (⟨w3.heap.size, 1, none⟩, .string T2), (⟨w3.heap.size, 2, none⟩, .bool q2), (⟨b, o + i * 4 + 3, none⟩, .slice A1 n1 c1), (⟨b, o + (i + 1) * 4 + 3, none⟩, .slice A2 n2 c2)] WX from ⟨g0, g1, g2, h0, h1, h2, p3, r3, Below.refl _ _⟩)
            have CLX := Lib.hid (fun (L : List (Addr × Value)) => fun (W : World) (hC : CellL WX L W) => ((CL W).out).mono fun (e : Ending) (W' : World) ⟨h1, n, h2⟩ => (⟨h1, cellL_call (h2 ▸ below_drewN (Below.refl _ _) n) hC⟩ : e = Ending.returned (.bool x) ∧ CellL WX L W'))
            have CFX := Lib.hid (fun (L : List (Addr × Value)) => fun (W : World) (hC : CellL WX L W) => ((CF W (HRD1.out.call (cellL_size hC)) (HRD2.out.call (cellL_size hC))).out).mono fun (e : Ending) (W' : World) ⟨h1, h2⟩ => (⟨h1, cellL_call h2 hC⟩ : e = Ending.returned (.bool f) ∧ CellL WX L W'))
            clear hWX hbX g0 g1 g2 h0 h1 h2 p0 p1 p2 p3 r0 r1 r2 r3 hw2 C1 C3 CL CF
            have hid : decide ((i : Int) < 0) = false := decide_eq_false (by omega)
            have hid1 : decide ((i : Int) + 1 < 0) = false := decide_eq_false (by omega)
            have hi10 : (0 : Int) ≤ (i : Int) + 1 := by omega
            have hwi : IntKind.i64.wrap (i : Int) = (i : Int) := IntWalk.i64_in _ (by omega)
            go_wp2_with fail
            cases q1
            case' false =>
              cases x
              case' false =>
                cases y
                case' true =>
                  cases f
            all_goals
              refine q_region (CellL WX _) (by kernel_rfl) (by kernel_rfl) (cellL_drew HC.out) ?_
              repeat (first
                | go_big_quiet_skip
                | (go_big_quiet_want; (first
                  | (refine q_take (v := ?_) ?_ ?_; rotate_left; (focus (intro w hSw; (try simp only [CellL] at hSw); go_split_ands; go_simp; (try (rw [if_neg (by omega)])); (try with_reducible rfl); done)))
                  | (refine q_call (CLX.out _) ?_ ?_; (focus (intro w hSw; (try simp only [CellL] at hSw); go_split_ands; go_simp; (try (rw [if_neg (by omega)])); done)))
                  | (refine q_call (CFX.out _) ?_ ?_; (focus (intro w hSw; (try simp only [CellL] at hSw); go_split_ands; go_simp; (try (rw [if_neg (by omega)])); done)))); (try simp only [Act.put, List.setIfInBounds_toArray, List.set_cons_zero, List.set_cons_succ]); go_big_quiet_on))
              refine wpQuiet_nil ?_
              intro w4 hw4
              have HB4 := Lib.hid (hb.out.trans ((cellL_size hw4).mono hb.out.size))
              clear hw4
              go_wp2_with fail
            all_goals first
              | (have HE := Lib.hid (show rightFP (prevPc k (i + 2)) (k.drop (i + 2)) = v from by rw [← HL2.out, HGP.out]; rfl)
                 go_roundw
                 case rel => exact ⟨i + 2, by omega, HE, by go_num, HB4⟩
                 case measure => simp [intOf]; omega)
              | (have HE := Lib.hid (show false = v from by rw [← HL2.out, HGP.out]; rfl)
                 go_ret
                 exact ⟨ret_bool HE.out, HB4.out⟩)
      · have HE := Lib.hid (show false = v from by rw [← HL.out, hd, rightFP_no (by simpa using hone)])
        have hno : d1 = false ∨ n2 = 0 ∨ d3 = false := by
          rw [onePc_iff, hd1, hd3] at hone
          cases d1
          · exact .inl rfl
          · cases d3
            · exact .inr (.inr rfl)
            · refine .inr (.inl ?_)
              rw [hn2]
              cases hs : r.set with
              | nil => rfl
              | cons x l => exact absurd ⟨rfl, by rw [hs]; simp, rfl⟩ hone
        have HB := Lib.hid (Below.refl wr.heap.size wr)
        clear hd hm hd1 hd3 hn2 hrd2 hIs hone
        cases d1
        · go_wp2_with ((with_reducible refine (C1 _).out.mono ?_); rintro e w2 ⟨rfl, hq⟩; have hb2 := Lib.hid (hb.out.trans (hq.mono hb.out.size)); clear hq)
          go_ret
          exact ⟨ret_bool HE.out, hb2.out⟩
        · by_cases hz : n2 = 0
          · subst hz
            clear hno
            go_wp2_with ((with_reducible refine (C1 _).out.mono ?_); rintro e w2 ⟨rfl, hq⟩; have hb2 := Lib.hid (hb.out.trans (hq.mono hb.out.size)); replace r3 := ((bcell hq).1 _ _ hb1).trans r3; clear hq)
            go_ret
            exact ⟨ret_bool HE.out, hb2.out⟩
          · obtain rfl : d3 = false := by rcases hno with h | h | h; cases h; exact absurd h hz; exact h
            clear hno
            have hz0 : ((n2 : Int) == 0) = false := beq_eq_false_iff_ne.2 (by omega)
            go_wp2_with (first
              | ((with_reducible refine (C1 _).out.mono ?_); rintro e w2 ⟨rfl, hq⟩; replace hb := Lib.hid (hb.out.trans (hq.mono hb.out.size)); replace r3 := ((bcell hq).1 _ _ hb1).trans r3; replace HRD2 := Lib.hid (HRD2.out.call hq); clear hq)
              | ((with_reducible refine (C3 _ HRD2.out).out.mono ?_); rintro e w3 ⟨rfl, hq⟩; replace hb := Lib.hid (hb.out.trans (hq.mono hb.out.size)); clear hq))
            go_ret
            exact ⟨ret_bool HE.out, hb.out⟩
    · have HE := Lib.hid (show true = v from by rw [← HL.out, List.drop_eq_nil_of_le (by have := HN.out; omega)]; cases prevPc k j <;> rfl)
      go_wp2_with fail
      go_ret
      exact ⟨ret_bool HE.out, hb.out⟩
end Go.Proofs.YtopjhebhdopjpaaGreat

namespace Go.Proofs.YtopjhebhdopjpaaGreat
open Go.RowKit

structure CapP (k : List Pc) : Prop where
  len : k.length ≤ 8000
  all : ∀ s, (catK k s).length ≤ 900000
  runs : ∀ s r, (runsV (catK k s) r).length ≤ 20000
theorem CapP.nil : CapP [] := ⟨by simp, fun _ => by simp [catK], fun _ _ => by simp [catK, runsV]⟩
theorem ofS_short (s : List Kn) (r : Int) : (runsV (ofS s) r).length ≤ (runsV s r).length := makeS1_runs s [] r
theorem CapP.at_ {k : List Pc} (h : CapP k) (s : List UInt8) (r : Int) : (runsV (atK k s) r).length ≤ 20000 := Nat.le_trans (ofS_short _ r) (h.runs s r)
theorem RetKF.more {w0 w w' : World} {N : Nat} {s : List Kn} {e : Ending} (h : RetKF w N s e w') (hb : Below w0.heap.size w0 w) : RetKF w0 N s e w' := by
  obtain ⟨A, c, h1, h2, h3⟩ := h
  exact ⟨A, c, h1, h2.mono fun g hg => Nat.le_trans hb.size hg, hb.trans (h3.mono hb.size)⟩
theorem k_at (A : Option Addr) (c n : Nat) (k : List Pc) (s : List UInt8) (U : ByteArray) (hn : n = k.length) (hU : str s = U) (hs : s.length ≤ 1000000) (hc : CapP k) (K : List Kn) (hK : atK k s = K) (N : Nat) (hN : K.length = N) (w : World) (hr : RdPc w A c k) :
    Calls Tryz.prog 78 #[.slice A n c, .string U] w (RetKF w N K) := ref_kat A c n k s U hn hU hs (hc.all s) (hc.runs s) K hK N hN w hr
set_option maxRecDepth 100000 in
set_option maxHeartbeats 4000000 in
theorem ref_what (op x : Int) (hx : op = x) (h123 : op = 1 ∨ op = 2 ∨ op = 3) (A B D : Option Addr) (c d e n m q : Nat) (a b : List Pc) (l : List Rng) (s : List UInt8) (U : ByteArray) (hn : n = a.length) (hm : m = b.length) (hq : q = l.length) (hU : str s = U) (hs : s.length ≤ 1000000)
    (hca : CapP a) (hcb : CapP b) (K : List Kn) (hK : whatP op a b l s = K) (N : Nat) (hN : K.length = N) (w : World) (ha : RdPc w A c a) (hb : RdPc w B d b) (hl : kRng.Rd w w.heap.size D e l) :
    Calls Tryz.prog 49 #[.int .i64 x, .slice A n c, .slice B m d, .slice D q e, .string U] w (RetKF w N K) := by
  subst hx
  have HA := Lib.hid ha
  have HB := Lib.hid hb
  have HL := Lib.hid hl
  obtain ⟨K1, hK1⟩ : ∃ K, atK a s = K := ⟨_, rfl⟩
  obtain ⟨K2, hK2⟩ : ∃ K, atK b s = K := ⟨_, rfl⟩
  obtain ⟨N1, hN1⟩ : ∃ N, K1.length = N := ⟨_, rfl⟩
  obtain ⟨N2, hN2⟩ : ∃ N, K2.length = N := ⟨_, rfl⟩
  have C1 := fun w h => Lib.hid (k_at A c n a s U hn hU hs hca K1 hK1 N1 hN1 w h)
  have C2 := fun w h => Lib.hid (k_at B d m b s U hm hU hs hcb K2 hK2 N2 hN2 w h)
  have hr1 : ∀ r, (runsV K1 r).length ≤ 20000 := fun r => by rw [← hK1]; exact hca.at_ s r
  have hr2 : ∀ r, (runsV K2 r).length ≤ 20000 := fun r => by rw [← hK2]; exact hcb.at_ s r
  have HW := Lib.hid (Below.refl w.heap.size w)
  rcases h123 with rfl | rfl | rfl
  · have C3 := fun A1 A2 c1 c2 w h1 h2 => Lib.hid (ref_vmake_new 1 A1 A2 c1 c2 N1 N2 K1 K2 hN1.symm hN2.symm hr1 hr2 K (by rw [← hK, whatP1, hK1, hK2]) N hN w h1 h2)
    clear ha hb hl hK1 hK2 hN1 hN2 hr1 hr2 hK hN hU hs hca hcb hn hm hq
    go_enter Tryz.func49, Tryz.ntmps49
    go_wp2_with (first
      | ((with_reducible refine (C1 _ HA.out).out.mono ?_); rintro e w1 ⟨A1, c1, rfl, hrd, hq⟩; replace HB := Lib.hid (HB.out.call hq); replace HW := Lib.hid (HW.out.trans (hq.mono HW.out.size)); have HX := Lib.hid (rdk_of hrd); clear hrd hq)
      | ((with_reducible refine (C2 _ HB.out).out.mono ?_); rintro e w2 ⟨A2, c2, rfl, hrd, hq⟩; replace HX := Lib.hid (HX.out.call hq); replace HW := Lib.hid (HW.out.trans (hq.mono HW.out.size)); have HY := Lib.hid (rdk_of hrd); clear hrd hq)
      | ((with_reducible refine (C3 _ _ _ _ _ HX.out HY.out).out.mono ?_); rintro e w3 ⟨A3, c3, rfl, hrd, hq⟩; have HF := Lib.hid (show RetKF w N K (.returned (.slice A3 N c3)) w3 from RetKF.more ⟨A3, c3, rfl, hrd, hq⟩ HW.out); clear hrd hq))
    go_ret
    exact HF.out
  · have C3 := fun A1 A2 c1 c2 w h1 h2 => Lib.hid (ref_vmake_new 3 A1 A2 c1 c2 N1 N2 K1 K2 hN1.symm hN2.symm hr1 hr2 K (by rw [← hK, whatP2, hK1, hK2]) N hN w h1 h2)
    clear ha hb hl hK1 hK2 hN1 hN2 hr1 hr2 hK hN hU hs hca hcb hn hm hq
    go_enter Tryz.func49, Tryz.ntmps49
    go_wp2_with (first
      | ((with_reducible refine (C1 _ HA.out).out.mono ?_); rintro e w1 ⟨A1, c1, rfl, hrd, hq⟩; replace HB := Lib.hid (HB.out.call hq); replace HW := Lib.hid (HW.out.trans (hq.mono HW.out.size)); have HX := Lib.hid (rdk_of hrd); clear hrd hq)
      | ((with_reducible refine (C2 _ HB.out).out.mono ?_); rintro e w2 ⟨A2, c2, rfl, hrd, hq⟩; replace HX := Lib.hid (HX.out.call hq); replace HW := Lib.hid (HW.out.trans (hq.mono HW.out.size)); have HY := Lib.hid (rdk_of hrd); clear hrd hq)
      | ((with_reducible refine (C3 _ _ _ _ _ HX.out HY.out).out.mono ?_); rintro e w3 ⟨A3, c3, rfl, hrd, hq⟩; have HF := Lib.hid (show RetKF w N K (.returned (.slice A3 N c3)) w3 from RetKF.more ⟨A3, c3, rfl, hrd, hq⟩ HW.out); clear hrd hq))
    go_ret
    exact HF.out
  · obtain ⟨z, hz⟩ : ∃ z, hasL l s = z := ⟨_, rfl⟩
    have C4 := fun w h => Lib.hid (ref_lhas D e q l s U hq hU hs z hz w h)
    cases z
    · obtain rfl : [] = K := by rw [← hK, whatP3_out hz]
      obtain rfl : 0 = N := hN
      clear ha hb hl hK1 hK2 hN1 hN2 hr1 hr2 hK hU hs hca hcb hn hm hq hz C1 C2
      go_enter Tryz.func49, Tryz.ntmps49
      go_wp2_with ((with_reducible refine (C4 _ HL.out).out.mono ?_); rintro e w1 ⟨rfl, hq⟩; replace HW := Lib.hid (HW.out.trans (hq.mono HW.out.size)); clear hq)
      go_ret
      exact ⟨_, _, rfl, Deep.Rd.nil _ _ _ _ (Nat.zero_le _), HW.out.alloc HW.out.size _⟩
    · obtain rfl : K1 = K := by rw [← hK, whatP3_in hz, hK1]
      obtain rfl : N1 = N := hN1.symm.trans hN
      clear ha hb hl hK1 hK2 hN1 hN2 hr1 hr2 hK hN hU hs hca hcb hn hm hq hz C2
      go_enter Tryz.func49, Tryz.ntmps49
      go_wp2_with (first
        | ((with_reducible refine (C4 _ HL.out).out.mono ?_); rintro e w1 ⟨rfl, hq⟩; replace HA := Lib.hid (HA.out.call hq); replace HW := Lib.hid (HW.out.trans (hq.mono HW.out.size)); clear hq)
        | ((with_reducible refine (C1 _ HA.out).out.mono ?_); rintro e w3 ⟨A3, c3, rfl, hrd, hq⟩; have HF := Lib.hid (show RetKF w N1 K1 (.returned (.slice A3 N1 c3)) w3 from RetKF.more ⟨A3, c3, rfl, hrd, hq⟩ HW.out); clear hrd hq))
      go_ret
      exact HF.out
end Go.Proofs.YtopjhebhdopjpaaGreat

namespace Go.Proofs.YtopjhebhdopjpaaGreat

def edgeK (E : List (List UInt8)) (k : Nat) : List UInt8 × Bool := match E[k]? with
  | some e => (e, false)
  | none => ([], true)
theorem edgeK_some {E : List (List UInt8)} {k : Nat} {e : List UInt8} (h : E[k]? = some e) : edgeK E k = (e, false) := by unfold edgeK; rw [h]
theorem edgeK_none {E : List (List UInt8)} {k : Nat} (h : E.length ≤ k) : edgeK E k = ([], true) := by unfold edgeK; rw [List.getElem?_eq_none h]
def pendP (o : Option (List UInt8 × List Kn)) (h : List UInt8 × Bool) : List Pc := match o with
  | none => []
  | some (lo, S) => [⟨⟨lo, h.1, h.2⟩, S⟩]
structure MkSt (f : List UInt8 → List Kn) (E : List (List UInt8)) (k : Nat) (dn : List Pc) (o : Option (List UInt8 × List Kn)) : Prop where
  eq : mkP f E none = dn ++ mkP f (E.drop k) o
  past : ∀ p ∈ dn, p.rng.op = false ∧ p.rng.hi ∈ E.take k
  begun : ∀ lo S, o = some (lo, S) → S ≠ []
  len : dn.length + (match o with | none => 0 | some _ => 1) ≤ k
theorem MkSt.start (f : List UInt8 → List Kn) (E : List (List UInt8)) : MkSt f E 0 [] none := ⟨rfl, fun p h => (by cases h), fun lo S h => (by cases h), Nat.le_refl _⟩
theorem take_next {E : List (List UInt8)} {k : Nat} {e : List UInt8} (h : E[k]? = some e) : ∀ x, x ∈ E.take k ∨ x = e → x ∈ E.take (k + 1) := fun x hx => by
  rw [List.take_add_one, h, List.mem_append]
  rcases hx with hx | rfl
  · exact .inl hx
  · exact .inr (by simp)
theorem drop_now {E : List (List UInt8)} {k : Nat} {e : List UInt8} (h : E[k]? = some e) : E.drop k = e :: E.drop (k + 1) := by
  obtain ⟨h1, rfl⟩ := List.getElem?_eq_some_iff.1 h
  exact List.drop_eq_getElem_cons h1
section
variable {f : List UInt8 → List Kn} {E : List (List UInt8)} {k : Nat} {dn : List Pc} {e lo : List UInt8} {S : List Kn}
theorem MkSt.out (h : MkSt f E k dn none) (he : E[k]? = some e) (hf : f e = []) : MkSt f E (k + 1) dn none :=
  ⟨by rw [h.eq, drop_now he, mkP_none_no hf], fun p hp => ⟨(h.past p hp).1, take_next he _ (.inl (h.past p hp).2)⟩, h.begun, by have := h.len; simp at this ⊢; omega⟩
theorem MkSt.off (h : MkSt f E k dn (some (lo, S))) (he : E[k]? = some e) (hf : f e = []) : MkSt f E (k + 1) (dn ++ [⟨⟨lo, e, false⟩, S⟩]) none := by
  have hS := h.begun lo S rfl
  refine ⟨?_, fun p hp => ?_, fun lo S h => (by cases h), by have := h.len; simp at this ⊢; omega⟩
  · rw [h.eq, drop_now he, mkP_end (by rw [hf]; exact fun e => hS e.symm), mkP_none_no hf, List.append_assoc]; rfl
  · rcases List.mem_append.1 hp with hp | hp
    · exact ⟨(h.past p hp).1, take_next he _ (.inl (h.past p hp).2)⟩
    · rw [List.mem_singleton] at hp
      subst hp
      exact ⟨rfl, take_next he _ (.inr rfl)⟩
theorem MkSt.new (h : MkSt f E k dn none) (he : E[k]? = some e) (hf : f e ≠ []) : MkSt f E (k + 1) dn (some (e, f e)) :=
  ⟨by rw [h.eq, drop_now he, mkP_none_yes hf], fun p hp => ⟨(h.past p hp).1, take_next he _ (.inl (h.past p hp).2)⟩, fun lo S h => by
    injection h with h; injection h with h1 h2; subst h2; exact hf, by have := h.len; simp at this ⊢; omega⟩
theorem MkSt.stay (h : MkSt f E k dn (some (lo, S))) (he : E[k]? = some e) (hf : f e = S) : MkSt f E (k + 1) dn (some (lo, S)) :=
  ⟨by rw [h.eq, drop_now he, mkP_on hf], fun p hp => ⟨(h.past p hp).1, take_next he _ (.inl (h.past p hp).2)⟩, h.begun, by have := h.len; simp at this ⊢; omega⟩
theorem MkSt.turn (h : MkSt f E k dn (some (lo, S))) (he : E[k]? = some e) (hf : f e ≠ []) (hne : f e ≠ S) : MkSt f E (k + 1) (dn ++ [⟨⟨lo, e, false⟩, S⟩]) (some (e, f e)) := by
  refine ⟨?_, fun p hp => ?_, fun lo S h => ?_, by have := h.len; simp at this ⊢; omega⟩
  · rw [h.eq, drop_now he, mkP_end hne, mkP_none_yes hf, List.append_assoc]; rfl
  · rcases List.mem_append.1 hp with hp | hp
    · exact ⟨(h.past p hp).1, take_next he _ (.inl (h.past p hp).2)⟩
    · rw [List.mem_singleton] at hp
      subst hp
      exact ⟨rfl, take_next he _ (.inr rfl)⟩
  · injection h with h; injection h with h1 h2; subst h2; exact hf
end
theorem MkSt.done {f : List UInt8 → List Kn} {E : List (List UInt8)} {k : Nat} {dn : List Pc} {o : Option (List UInt8 × List Kn)} (h : MkSt f E k dn o) (hk : E.length ≤ k) : mkP f E none = dn ++ pendP o (edgeK E k) := by
  rw [h.eq, List.drop_eq_nil_of_le hk, edgeK_none hk]
  match o with
  | none => rfl
  | some (lo, S) => rfl
theorem rising_pairs : ∀ {l : List (List UInt8)} {c : List UInt8}, risingB c l = true → l.Pairwise fun a b => ltB a b = true
  | [], _, _ => List.Pairwise.nil
  | x :: l, c, h => by
    obtain ⟨_, h2⟩ := rising_head h
    exact List.pairwise_cons.2 ⟨fun y hy => rising_all h2 y hy, rising_pairs h2⟩
theorem edges_new {E : List (List UInt8)} (h : EdgesOk E) {k : Nat} {e : List UInt8} (he : E[k]? = some e) : e ∉ E.take k := by
  obtain ⟨m, rfl, h1, _⟩ := h
  have hp : ([] :: m).Pairwise fun a b => ltB a b = true := List.pairwise_cons.2 ⟨fun y hy => rising_all h1 y hy, rising_pairs h1⟩
  intro hm
  obtain ⟨i, hi, hie⟩ := List.getElem_of_mem hm
  rw [List.length_take] at hi
  rw [List.getElem_take] at hie
  obtain ⟨hk, rfl⟩ := List.getElem?_eq_some_iff.1 he
  have := List.pairwise_iff_getElem.1 hp i k (by omega) hk (by omega)
  rw [hie, ltB_irrefl] at this
  cases this
theorem MkSt.last {f : List UInt8 → List Kn} {E : List (List UInt8)} {k : Nat} {dn : List Pc} {o : Option (List UInt8 × List Kn)} (h : MkSt f E k dn o) (hE : EdgesOk E) {e : List UInt8} (he : E[k]? = some e) {p : Pc} (hp : p ∈ dn) : p.rng.op = false ∧ p.rng.hi ≠ e :=
  ⟨(h.past p hp).1, fun h2 => edges_new hE he (h2 ▸ (h.past p hp).2)⟩
section
variable {f : List UInt8 → List Kn} {E : List (List UInt8)} {k : Nat} {dn dq : List Pc} {o : Option (List UInt8 × List Kn)} {e : List UInt8} {K : List Kn} {p : Pc}
theorem MkSt.shape (h : MkSt f E k dn o) (hE : EdgesOk E) (he : E[k]? = some e) (hl : dn ++ pendP o (edgeK E k) = dq ++ [p]) :
    p.rng.op = false ∧ ((o = none ∧ dn = dq ++ [p] ∧ p.rng.hi ≠ e) ∨ ∃ lo S, o = some (lo, S) ∧ dq = dn ∧ p = ⟨⟨lo, e, false⟩, S⟩) := by
  match o with
  | none =>
    have hl : dn ++ [] = dq ++ [p] := hl
    rw [List.append_nil] at hl
    have := h.last hE he (p := p) (by rw [hl]; simp)
    exact ⟨this.1, .inl ⟨rfl, hl, this.2⟩⟩
  | some (lo, S) =>
    rw [edgeK_some he] at hl
    have hl : dn ++ [⟨⟨lo, e, false⟩, S⟩] = dq ++ [p] := hl
    obtain ⟨h1, h2⟩ := List.append_inj' hl rfl
    injection h2 with h2
    subst h1 h2
    exact ⟨rfl, .inr ⟨lo, S, rfl, rfl, rfl⟩⟩
theorem MkSt.app (h : MkSt f E k dn o) (he : E[k]? = some e) (hK : f e = K) (hK0 : K ≠ []) (hno : ∀ dq p, dn ++ pendP o (edgeK E k) = dq ++ [p] → ¬ (p.rng.hi = e ∧ p.set = K)) :
    ∃ dn2, MkSt f E (k + 1) dn2 (some (e, K)) ∧ (dn ++ pendP o (edgeK E k)) ++ [⟨⟨e, (edgeK E (k + 1)).1, (edgeK E (k + 1)).2⟩, K⟩] = dn2 ++ pendP (some (e, K)) (edgeK E (k + 1)) := by
  subst hK
  match o with
  | none => exact ⟨dn, h.new he hK0, by show (dn ++ []) ++ _ = dn ++ _; rw [List.append_nil]; rfl⟩
  | some (lo, S) =>
    rw [edgeK_some he] at hno ⊢
    have hne : f e ≠ S := fun e1 => hno dn ⟨⟨lo, e, false⟩, S⟩ rfl ⟨rfl, e1.symm⟩
    exact ⟨_, h.turn he hK0 hne, rfl⟩
theorem MkSt.ext (h : MkSt f E k dn o) (hE : EdgesOk E) (he : E[k]? = some e) (hK : f e = K) (hl : dn ++ pendP o (edgeK E k) = dq ++ [p]) (h1 : p.rng.hi = e) (h2 : p.set = K) :
    ∃ dn2 q, MkSt f E (k + 1) dn2 q ∧ dq ++ [⟨⟨p.rng.lo, (edgeK E (k + 1)).1, (edgeK E (k + 1)).2⟩, p.set⟩] = dn2 ++ pendP q (edgeK E (k + 1)) := by
  obtain ⟨_, hs⟩ := h.shape hE he hl
  rcases hs with ⟨_, _, hne⟩ | ⟨lo, S, rfl, rfl, rfl⟩
  · exact absurd h1 hne
  · exact ⟨_, _, h.stay he (hK.trans h2.symm), rfl⟩
end
end Go.Proofs.YtopjhebhdopjpaaGreat

namespace Go.Proofs.YtopjhebhdopjpaaGreat
open Go.RowKit

def RetP (w : World) (N : Nat) (k : List Pc) (e : Ending) (w' : World) : Prop := ∃ A c, e = .returned (.slice A N c) ∧ RdPc w' A c k ∧ Below w.heap.size w w'
def RetPF (w : World) (N : Nat) (k : List Pc) (e : Ending) (w' : World) : Prop := ∃ A c, e = .returned (.slice A N c) ∧ dPc.Rd w' (fun g => w.heap.size ≤ g) A c k ∧ Below w.heap.size w w'
theorem RetPF.to {w w' : World} {N : Nat} {k : List Pc} {e : Ending} (h : RetPF w N k e w') : RetP w N k e w' := by
  obtain ⟨A, c, h1, h2, h3⟩ := h
  exact ⟨A, c, h1, Deep.Rd.all h2, h3⟩
def OwnPF (w : World) (base : Nat) (v : Value) (k : List Pc) : Prop := dPc.Own w base (fun g => base ≤ g) v k
theorem OwnPF.below {w w' : World} {base : Nat} {v : Value} {k : List Pc} (h : OwnPF w base v k) (hb : Below w.heap.size w w') : OwnPF w' base v k := Deep.Own.below h hb
theorem OwnPF.read_n {w : World} {base n : Nat} {v : Value} {k : List Pc} (h : OwnPF w base v k) (hn : n = k.length) : ∃ A c, v = .slice A n c ∧ RdPc w A c k := by
  obtain ⟨A, c, e, hr⟩ := Deep.Own.rd h hn fun _ h => h
  exact ⟨A, c, e, Deep.Rd.all hr⟩
theorem OwnPF.read_f {w : World} {base n : Nat} {v : Value} {k : List Pc} (h : OwnPF w base v k) (hn : n = k.length) : ∃ A c, v = .slice A n c ∧ dPc.Rd w (fun g => base ≤ g) A c k := Deep.Own.rd h hn fun _ h => h
theorem OwnPF.lt {w : World} {base g n c : Nat} {k : List Pc} (h : OwnPF w base (.slice (some ⟨g, 0, none⟩) n c) k) : base ≤ g ∧ g < w.heap.size := Deep.Own.lt h g rfl
def OwnP (w : World) (base : Nat) (v : Value) (k : List Pc) : Prop := dPc.Own w base (fun _ => True) v k
theorem OwnP.below {w w' : World} {base : Nat} {v : Value} {k : List Pc} (h : OwnP w base v k) (hb : Below w.heap.size w w') : OwnP w' base v k := Deep.Own.below h hb
theorem OwnP.read_n {w : World} {base n : Nat} {v : Value} {k : List Pc} (h : OwnP w base v k) (hn : n = k.length) : ∃ A c, v = .slice A n c ∧ RdPc w A c k := Deep.Own.rd h hn fun _ _ => trivial
theorem OwnP.lt {w : World} {base g n c : Nat} {k : List Pc} (h : OwnP w base (.slice (some ⟨g, 0, none⟩) n c) k) : base ≤ g ∧ g < w.heap.size := Deep.Own.lt h g rfl
theorem piece_row (w : World) (p : Ps) : RowAt (w.alloc (.cells #[.string (str p.rng.lo), .string (str p.rng.hi), .bool p.rng.op, .slice p.A p.n p.c] 48)) (w.heap.size + 1) (some ⟨w.heap.size, 0, none⟩) (kPs.row [p]) := (Kind.rd_new (k := kPs) (l := [p]) rfl rfl (by simp)).row
theorem own_lastP {w : World} {base g n c D : Nat} {dn : List Pc} {p : Pc} (h : OwnPF w base (.slice (some ⟨g, 0, none⟩) n c) (dn ++ [p])) (hn : n = (dn ++ [p]).length) (hD : dn.length = D) (x : List UInt8) (T : ByteArray) (hT : str x = T) (q : Bool) :
    OwnPF ((w.setCell ⟨g, D * 4 + 1, none⟩ (.string T)).setCell ⟨g, D * 4 + 2, none⟩ (.bool q)) base (.slice (some ⟨g, 0, none⟩) n c) (dn ++ [⟨⟨p.rng.lo, x, q⟩, p.set⟩]) := by
  subst hD hT
  obtain ⟨bs, h1, h2⟩ := h
  have hnb : n = bs.length := hn.trans h2.1.symm
  have hDl : dn.length < bs.length := by rw [h2.1, List.length_append, List.length_singleton]; omega
  obtain ⟨b, hb⟩ : ∃ b, bs[dn.length]? = some b := ⟨_, List.getElem?_eq_getElem hDl⟩
  have g1 : (dn ++ [p])[dn.length]? = some p := by rw [List.getElem?_append_right (Nat.le_refl _), Nat.sub_self]; rfl
  have hrel := h2.2 _ _ _ hb g1
  obtain ⟨e1, e2, e3⟩ := hrel
  have k1 := Kind.Own.stored (k := kPs) h1 (j := 1) (y := ⟨⟨b.rng.lo, x, b.rng.op⟩, b.A, b.n, b.c⟩) (v := .string (str x)) hnb hb (by decide) rfl
  have k2 := Kind.Own.stored (k := kPs) k1 (i := dn.length) (j := 2) (x := ⟨⟨b.rng.lo, x, b.rng.op⟩, b.A, b.n, b.c⟩) (y := ⟨⟨b.rng.lo, x, q⟩, b.A, b.n, b.c⟩) (v := .bool q) (by rw [hnb, List.length_set]) (by rw [List.getElem?_set_self hDl]) (by decide) rfl
  rw [List.set_set] at k2
  have hkeep : KeptS (fun g' => (base ≤ g' ∧ (Value.slice (some ⟨g, 0, none⟩) n c).ownBlock ≠ some g')) w ((w.setCell ⟨g, dn.length * 4 + 1, none⟩ (.string (str x))).setCell ⟨g, dn.length * 4 + 2, none⟩ (.bool q)) := fun a ha _ => by
    have hne : g ≠ a.block := fun e => ha.2 (by rw [← e]; rfl)
    rw [World.cell?_setCell_other _ _ _ _ (fun e => hne (by rw [← e])), World.cell?_setCell_other _ _ _ _ (fun e => hne (by rw [← e]))]
  have h3 := Deep.All.keep h2 hkeep
  refine ⟨_, k2, ?_, fun i b' a' hb' ha' => ?_⟩
  · rw [List.length_set, h2.1, List.length_append, List.length_append]; rfl
  · by_cases hi : i = dn.length
    · subst hi
      rw [List.getElem?_set_self hDl] at hb'
      rw [List.getElem?_append_right (Nat.le_refl _), Nat.sub_self] at ha'
      injection hb' with hb'
      injection ha' with ha'
      subst hb' ha'
      obtain ⟨f1, f2, f3⟩ := h3.2 _ _ _ hb g1
      exact ⟨by rw [f1], f2, f3⟩
    · rw [List.getElem?_set_ne (fun e => hi e.symm)] at hb'
      refine h3.2 i b' a' hb' ?_
      by_cases hl : i < dn.length
      · rw [List.getElem?_append_left hl] at ha' ⊢; exact ha'
      · rw [List.getElem?_append_right (by omega)] at ha'
        exfalso
        obtain ⟨m, hm⟩ : ∃ m, i - dn.length = m + 1 := ⟨i - dn.length - 1, by omega⟩
        rw [hm] at ha'
        cases ha'
theorem own_atP {w : World} {base g n c D : Nat} {dq : List Pc} {p : Pc} (h : OwnPF w base (.slice (some ⟨g, 0, none⟩) n c) (dq ++ [p])) (hn : n = (dq ++ [p]).length) (hD : dq.length = D) :
    ∃ (A' : Option Addr) (n' c' : Nat) (T : ByteArray), str p.rng.hi = T ∧ n' = p.set.length ∧ RdK w w.heap.size A' c' p.set ∧ w.cell? ⟨g, D * 4 + 1, none⟩ = some (.string T) ∧ w.cell? ⟨g, D * 4 + 2, none⟩ = some (.bool p.rng.op) ∧ w.cell? ⟨g, D * 4 + 3, none⟩ = some (.slice A' n' c') ∧ ∀ j, w.frozen? ⟨g, j, none⟩ = false := by
  subst hD
  obtain ⟨bs, h1, h2⟩ := h
  have hnb : n = bs.length := hn.trans h2.1.symm
  have hDl : dq.length < bs.length := by rw [h2.1, List.length_append, List.length_singleton]; omega
  obtain ⟨b, hb⟩ : ∃ b, bs[dq.length]? = some b := ⟨_, List.getElem?_eq_getElem hDl⟩
  have g1 : (dq ++ [p])[dq.length]? = some p := by rw [List.getElem?_append_right (Nat.le_refl _), Nat.sub_self]; rfl
  obtain ⟨e1, e2, e3⟩ := h2.2 _ _ _ hb g1
  obtain ⟨-, -, hf, hc⟩ := h1.at_g hnb (by omega)
  refine ⟨b.A, b.n, b.c, str b.rng.hi, by rw [e1], e2, rdk_of e3, hc _ b hb 1 _ rfl, ?_, hc _ b hb 3 _ rfl, hf⟩
  rw [← e1]
  exact hc _ b hb 2 _ rfl
theorem piece_row_n (w : World) (x h : List UInt8) (X T : ByteArray) (hX : str x = X) (hT : str h = T) (q : Bool) (A : Option Addr) (n c : Nat) :
    RowAt (w.alloc (.cells #[.string X, .string T, .bool q, .slice A n c] 48)) (w.heap.size + 1) (some ⟨w.heap.size, 0, none⟩) (kPs.row [⟨⟨x, h, q⟩, A, n, c⟩]) := by
  subst hX hT
  exact piece_row w ⟨⟨x, h, q⟩, A, n, c⟩
end Go.Proofs.YtopjhebhdopjpaaGreat

namespace Go.Proofs.YtopjhebhdopjpaaGreat
open Go.RowKit

theorem last_of {Z : List Pc} (h : Z ≠ []) : ∃ dq pl, Z = dq ++ [pl] := by
  obtain ⟨d, p, rfl⟩ := (List.eq_nil_or_concat Z).resolve_left h
  exact ⟨d, p, List.concat_eq_append ..⟩
set_option maxRecDepth 100000 in
set_option maxHeartbeats 16000000 in
theorem ref_pmake_new (op x : Int) (hx : op = x) (h123 : op = 1 ∨ op = 2 ∨ op = 3) (A B D : Option Addr) (c d e n m q : Nat) (a b : List Pc) (l : List Rng) (hn : n = a.length) (hm : m = b.length) (hq : q = l.length) (hmq : m + q ≤ 10000)
    (hca : CapP a) (hcb : CapP b) (U : List Pc) (hU : makeP op a b l = U) (NU : Nat) (hNU : NU = U.length) (w : World) (ha : RdPc w A c a) (hb : RdPc w B d b) (hl : kRng.Rd w w.heap.size D e l) :
    Calls Tryz.prog 28 #[.int .i64 x, .slice A n c, .slice B m d, .slice D q e] w (RetPF w NU U) := by
  have hnl : n ≤ 8000 := by rw [hn]; exact hca.len
  have HA := Lib.hid ha
  have HB := Lib.hid hb
  have HL := Lib.hid hl
  have HW := Lib.hid (Below.refl w.heap.size w)
  have SB := fun w h => Lib.hid (ref_spans B d m b hm (by omega) w h)
  have SA := fun w h => Lib.hid (ref_spans A c n a hn (by omega) w h)
  have hsa : n = (spansP a).length := by rw [spansP, List.length_map]; exact hn
  have hsb : m = (spansP b).length := by rw [spansP, List.length_map]; exact hm
  obtain ⟨CU, hCU⟩ : ∃ CU, spansP b ++ l = CU := ⟨_, rfl⟩
  have hcl : m + q = CU.length := by rw [← hCU, List.length_append, ← hsb, ← hq]
  obtain ⟨E, hE⟩ : ∃ E, edgesL (spansP a ++ CU) = E := ⟨_, rfl⟩
  have ED := fun A1 B1 c1 d1 w h1 h2 => Lib.hid (ref_edges A1 B1 c1 d1 n (m + q) (spansP a) CU hsa hcl (by omega) hmq w h1 h2)
  rw [hE] at ED
  have HEK := Lib.hid (show EdgesOk E from hE ▸ edgesL_ok _)
  have H17 := Lib.hid (show ∀ x ∈ E, x.length ≤ 17 by rw [← hE]; exact (edgesL_ok _).all)
  have HEL := Lib.hid (show E.length ≤ 40001 by rw [← hE]; have := edgesL_len (spansP a ++ CU); rw [List.length_append, ← hsa, ← hcl] at this; omega)
  obtain ⟨f, hf⟩ : ∃ f, whatP op a b l = f := ⟨_, rfl⟩
  have HU := Lib.hid (show mkP f E none = U from by rw [← hU, makeP, ← hf, ← hE, ← hCU])
  have WH := fun s (hs : s.length ≤ 1000000) K hK N hN w ha hb hl => Lib.hid (ref_what op x hx h123 A B D c d e n m q a b l s (str s) hn hm hq rfl hs hca hcb K (by rw [hf]; exact hK) N hN w ha hb hl)
  obtain ⟨N, hN⟩ : ∃ N, E.length = N := ⟨_, rfl⟩
  have HN := Lib.hid hN
  have HSB := Lib.hid hsb
  have HQ := Lib.hid hq
  have HCU := Lib.hid hCU
  have HNU := Lib.hid hNU
  have HCL := Lib.hid hcl
  have hqe : q ≤ e := by rw [hq]; exact hl.room
  have hqm : q ≤ 10000 := by omega
  clear hx h123 hn hm hq hca hcb hU hNU ha hb hl hsa hsb hCU hcl hE hf hN
  go_enter Tryz.func28, Tryz.ntmps28
  go_wp2_with (first
    | ((with_reducible refine (SB _ (HB.out.call HW.out)).out.mono ?_); rintro e w1 ⟨A1, c1, rfl, ho, hq⟩; replace HW := Lib.hid (HW.out.trans (hq.mono HW.out.size)); have HO := Lib.hid ho.rd; clear ho hq)
    | (at_builtin; refine wpList_app_k kRng rfl (.tmp 16) (.tmp 18) rfl w.heap.size (.slice none 0 0) [] rfl (Kind.Own.nil _ _) _ A1 c1 m (spansP b) HSB.out rfl HO.out.row (by rw [← HSB.out]; simp; omega) (by decide) HW.out.size ?_; intro v2 w2 hown2 hg2 hb2 _; replace HW := Lib.hid (HW.out.trans hb2); have HC := Lib.hid (show kRng.Own w2 w.heap.size v2 (spansP b) from hown2); clear hown2 hg2 hb2 HO)
    | (at_builtin; refine wpList_app_k kRng rfl (.tmp 20) (.tmp 21) rfl w.heap.size v2 (spansP b) rfl HC.out _ D e q l HQ.out rfl (HL.out.call HW.out).row (by rw [← HSB.out, ← HQ.out]; omega) (by decide) HW.out.size ?_; intro v3 w3 hown3 hg3 hb3 _; replace HW := Lib.hid (HW.out.trans hb3); have HC3 := Lib.hid (show kRng.Own w3 w.heap.size v3 CU from HCU.out ▸ hown3); clear hown3 hg3 hb3 HC)
    | ((with_reducible refine (SA _ (HA.out.call HW.out)).out.mono ?_); rintro e w4 ⟨A4, c4, rfl, ho, hq⟩; replace HW := Lib.hid (HW.out.trans (hq.mono HW.out.size)); replace HC3 := Lib.hid (HC3.out.below hq); have HO4 := Lib.hid ho.rd; clear ho hq; obtain ⟨A3, c3, hv3, hrd3⟩ := HC3.out.read_n HCL.out; have HC4 := Lib.hid hrd3; subst hv3; clear hrd3)
    | ((with_reducible refine (ED _ _ _ _ _ HO4.out HC4.out).out.mono ?_); rintro e w5 ⟨A5, c5, rfl, hrd, hq⟩; replace HW := Lib.hid (HW.out.trans (hq.mono HW.out.size)); have HD := Lib.hid hrd; clear hrd hq))
  rw [HN.out]
  have hcn : N ≤ c5 := by rw [← HN.out]; exact HD.out.room
  have hnx : N ≤ 40001 := by rw [← HN.out]; exact HEL.out
  clear SA SB ED HO4 HC4
  go_loopw [11, 12] (fun v i wr => ∃ (k : Nat) (dn : List Pc) (p : Option (List UInt8 × List Kn)), k ≤ N ∧ Hid (MkSt f E k dn p) ∧ Hid (OwnPF wr w5.heap.size v (dn ++ pendP p (edgeK E k))) ∧ i = .int .i64 k ∧ Hid (Below w5.heap.size w5 wr)) (fun _ i _ => N - (intOf i).toNat)
  case atStart => exact ⟨0, [], none, by omega, MkSt.start f E, Deep.Own.nil _ _ _, rfl, Below.refl _ _⟩
  case round =>
    obtain ⟨k, dn, p, hk, HM, HO, rfl, hbw⟩ := hrel
    by_cases hlt : k < N
    · obtain ⟨x, hg, -, hm⟩ := get_some (l := E) (k := k) (by have := HN.out; omega)
      obtain ⟨b1, o1, rfl, hbb, hcell⟩ := texts_at (HD.out.below hbw.out) (by have := HN.out; omega)
      have k0 := hcell k x hg
      have hbl := Nat.lt_of_lt_of_le hbb hbw.out.size
      obtain ⟨K, hK⟩ : ∃ K, f x = K := ⟨_, rfl⟩
      obtain ⟨N', hN'⟩ : ∃ N, K.length = N := ⟨_, rfl⟩
      have HWr := Lib.hid (HW.out.trans (hbw.out.mono HW.out.size))
      have C := Lib.hid ((WH x (Nat.le_trans (H17.out x hm) (by decide)) K hK N' hN' wr (HA.out.call HWr.out) (HB.out.call HWr.out) (HL.out.call HWr.out)).out)
      have HG := Lib.hid hg
      have HKK := Lib.hid hK
      have HNN := Lib.hid hN'
      obtain ⟨X, hX⟩ : ∃ X, str x = X := ⟨_, rfl⟩
      have HXX := Lib.hid hX
      rw [hX] at C k0
      have hkn1 : (k : Int) < (N : Int) := by omega
      have hlen := HM.out.len
      by_cases hz : N' = 0
      · subst hz
        have hK0 : K = [] := List.eq_nil_of_length_eq_zero hN'
        cases p with
        | none =>
          have HM2 := Lib.hid (HM.out.out hg (hK.trans hK0))
          clear hcell hg hm hK hN' hX hK0 hlen WH
          go_wp2_with ((with_reducible refine C.out.mono ?_); rintro e w6 ⟨A9, c9, rfl, hrd, hq⟩; replace HO := Lib.hid (HO.out.below hq); replace hbw := Lib.hid (hbw.out.trans (hq.mono hbw.out.size)); clear hrd hq)
          go_roundw
          case rel => exact ⟨k + 1, dn, none, by omega, HM2, HO, by go_num, hbw⟩
          case measure => simp [intOf]; omega
        | some lS =>
          obtain ⟨lo, S⟩ := lS
          have HM2 := Lib.hid (HM.out.off hg (hK.trans hK0))
          have HE := Lib.hid (show dn ++ pendP (some (lo, S)) (edgeK E k) = (dn ++ [⟨⟨lo, x, false⟩, S⟩]) ++ pendP none (edgeK E (k + 1)) by rw [edgeK_some hg]; simp [pendP])
          clear hcell hg hm hK hN' hX hK0 hlen WH
          go_wp2_with ((with_reducible refine C.out.mono ?_); rintro e w6 ⟨A9, c9, rfl, hrd, hq⟩; replace HO := Lib.hid (HO.out.below hq); replace hbw := Lib.hid (hbw.out.trans (hq.mono hbw.out.size)); clear hrd hq)
          go_roundw
          case rel => exact ⟨k + 1, dn ++ [⟨⟨lo, x, false⟩, S⟩], none, by omega, HM2, show OwnPF _ _ _ _ from by rw [← HE.out]; exact HO.out, by go_num, hbw⟩
          case measure => simp [intOf]; omega
      · have hz0 : ((N' : Int) == 0) = false := beq_eq_false_iff_ne.2 (by omega)
        have hK0 : K ≠ [] := fun h => hz (by rw [← hN', h]; rfl)
        have HK0 := Lib.hid hK0
        have hw1 : IntKind.i64.wrap ((k : Int) + 1) = (k : Int) + 1 := IntWalk.i64_in _ (by omega)
        have hkt : ((k : Int) + 1).toNat = k + 1 := by omega
        have hk0 : (0 : Int) ≤ (k : Int) + 1 := by omega
        obtain ⟨Z, hZ⟩ : ∃ Z, dn ++ pendP p (edgeK E k) = Z := ⟨_, rfl⟩
        obtain ⟨L, hL⟩ : ∃ L, L = Z.length := ⟨_, rfl⟩
        have hLk : L ≤ k := by
          rw [hL, ← hZ, List.length_append]
          cases p <;> simp [pendP] at hlen ⊢ <;> omega
        have HLL := Lib.hid hL
        rw [hZ] at HO
        obtain ⟨Av, cv, hv, -⟩ := HO.out.read_n HLL.out
        subst hv
        have HVL := Lib.hid (show ∀ g, (Value.slice Av L cv).ownBlock = some g → g < wr.heap.size from fun g hg => (Deep.Own.lt HO.out g hg).2)
        have HSZ := Lib.hid hbw.out.size
        have HAPP := Lib.hid (fun hno => hZ ▸ (MkSt.app HM.out hg hK hK0 (hZ.symm ▸ hno)))
        have HEXT := Lib.hid (fun dq pl (hl : Z = dq ++ [pl]) h1 h2 => MkSt.ext HM.out HEK.out hg hK (hZ.trans hl) h1 h2)
        have HSHP := Lib.hid (fun dq pl (hl : Z = dq ++ [pl]) => (MkSt.shape HM.out HEK.out hg (hZ.trans hl)).1)
        clear hX hK hN' hK0 hlen WH hL hZ

        by_cases he : k + 1 < N
        · obtain ⟨x2, hg2, -, hm2⟩ := get_some (l := E) (k := k + 1) (by have := HN.out; omega)
          have k1 := hcell (k + 1) x2 hg2
          have HEDG := Lib.hid (edgeK_some hg2)
          obtain ⟨X2, hX2⟩ : ∃ X2, str x2 = X2 := ⟨_, rfl⟩
          rw [hX2] at k1
          have HX2 := Lib.hid hX2
          have hkn2 : (k : Int) + 1 < (N : Int) := by omega
          clear hcell hg2 hm2 hX2 hg hm
          by_cases hL0 : L = 0
          · subst hL0
            have hZ0 : Z = [] := List.eq_nil_of_length_eq_zero HLL.out.symm
            have HZN := Lib.hid (show ∀ dq p, Z = dq ++ [p] → ¬ (p.rng.hi = x ∧ p.set = K) from fun dq p h => by rw [hZ0] at h; exact absurd h (by simp))
            clear hZ0 HEXT HSHP
            go_wp2_with ((with_reducible refine C.out.mono ?_); rintro e w6 ⟨A9, c9, rfl, hrd, hq⟩; replace HO := Lib.hid (HO.out.below hq); replace hbw := Lib.hid (hbw.out.trans (hq.mono hbw.out.size)); replace k0 := ((bcell hq).1 _ _ hbl).trans k0; replace k1 := ((bcell hq).1 _ _ hbl).trans k1; replace hbl := Nat.lt_of_lt_of_le hbl hq.size; have HS := Lib.hid (show dKn.Rd w6 (fun g => wr.heap.size ≤ g) A9 c9 K from hrd); have HBX := Lib.hid (rgAt_new w6 X ⟨#[]⟩ true 45); have hx9 : N' ≤ c9 := (by rw [← HNN.out]; exact hrd.room); have hlw : wr.heap.size ≤ w6.heap.size := hq.size; clear hrd hq)
            obtain ⟨b0, b1x, b2, b3⟩ := HBX.out
            replace k0 := ((bcell (below_new w6 (.cells #[.string X, .string ⟨#[]⟩, .bool true] 45))).1 _ _ hbl).trans k0
            replace k1 := ((bcell (below_new w6 (.cells #[.string X, .string ⟨#[]⟩, .bool true] 45))).1 _ _ hbl).trans k1
            go_region
            obtain ⟨w7, hw7⟩ : ∃ w7, (w6.alloc (.cells #[.string X, .string X2, .bool false] 45)).drew = w7 := ⟨_, rfl⟩
            have hb67 : Below w6.heap.size w6 w7 := hw7 ▸ (below_new w6 _).drew
            replace HBX := Lib.hid (show RgAt w7 w6.heap.size X X2 false from hw7 ▸ (rgAt_new w6 X X2 false 45).drew)
            clear b0 b1x b2 b3
            rw [hw7]
            clear hw7 k0 k1
            replace HO := Lib.hid (HO.out.below hb67)
            replace HS := Lib.hid (HS.out.call hb67)
            replace hbw := Lib.hid (hbw.out.trans (hb67.mono hbw.out.size))
            clear hb67
            go_wp2_with fail
            have HC := Lib.hid (show CellL w7 [(⟨w6.heap.size, 0, none⟩, .string X), (⟨w6.heap.size, 1, none⟩, .string X2), (⟨w6.heap.size, 2, none⟩, .bool false)] w7 from ⟨HBX.out.1, HBX.out.2.1, HBX.out.2.2.1, Below.refl _ _⟩)
            refine q_region (CellL w7 _) (by kernel_rfl) (by kernel_rfl) (cellL_drew HC.out) ?_
            repeat (first
              | go_big_quiet_skip
              | (go_big_quiet_want; (first
                | (refine q_take (v := ?_) ?_ ?_; rotate_left; (focus (intro w hSw; (try simp only [CellL] at hSw); go_split_ands; go_simp; (try (rw [if_neg (by omega)])); (try with_reducible rfl); done)))); (try simp only [Act.put, List.setIfInBounds_toArray, List.set_cons_zero, List.set_cons_succ]); go_big_quiet_on))
            refine wpQuiet_nil ?_
            intro w8 hw8
            have hq8 := cellL_size hw8
            replace HO := Lib.hid (HO.out.below hq8)
            replace HS := Lib.hid (HS.out.call hq8)
            replace HBX := Lib.hid (HBX.out.below hq8)
            replace hbw := Lib.hid (hbw.out.trans (hq8.mono hbw.out.size))
            clear hw8 hq8 HC
            obtain ⟨dn2, HMN, HEN⟩ := HAPP.out HZN.out
            have HMN := Lib.hid HMN
            have HEN := Lib.hid (show Z ++ [⟨⟨x, x2, false⟩, K⟩] = dn2 ++ pendP (some (x, K)) (edgeK E (k + 1)) from by rw [← HEN, HEDG.out])
            obtain ⟨bs, ho, hall⟩ := HO.out
            have HLE := Lib.hid (show bs.length + [(⟨⟨x, x2, false⟩, A9, N', c9⟩ : Ps)].length ≤ 1000000 by have := hall.1; have := HLL.out; rw [List.length_singleton]; omega)
            have HREL := Lib.hid (show dPc.rel w8 (fun g => w5.heap.size ≤ g ∧ (Value.slice Av 0 cv).ownBlock ≠ some g) ⟨⟨x, x2, false⟩, A9, N', c9⟩ ⟨⟨x, x2, false⟩, K⟩ from ⟨rfl, HNN.out.symm, HS.out.mono fun g hg => ⟨by have := HSZ.out; omega, fun e => by have := HVL.out g e; omega⟩⟩)
            have HKO := Lib.hid ho
            have HKA := Lib.hid hall
            have HBX8 := HBX.out
            obtain ⟨b0, b1x, b2, b3⟩ := HBX8
            clear ho hall
            go_wp2_with (at_builtin; refine wpList_app_k kPs rfl (.tmp 117) (.tmp 121) rfl w5.heap.size _ bs rfl (Kind.Own.alloc HKO.out _) _ (some ⟨w8.heap.size, 0, none⟩) 1 1 [⟨⟨x, x2, false⟩, A9, N', c9⟩] rfl rfl (piece_row_n w8 x x2 X X2 HXX.out HX2.out false A9 N' c9) HLE.out (by decide) (le_alloc hbw.out.size _) ?_; intro v9 w9 hown9 hg9 hb9 hv9; have HO9 := Lib.hid (Deep.Own.app (HKA.out.keep (keptS_below (below_new w8 _) _)) (.one (dPc.keep HREL.out (keptS_below (below_new w8 _) _))) hown9 hg9 hv9); have HB9 := Lib.hid ((hbw.out.alloc hbw.out.size _).trans hb9); clear hown9 hg9 hb9 hv9)
            go_roundw
            case rel => exact ⟨k + 1, dn2, some (x, K), by omega, HMN, show OwnPF _ _ _ _ from by rw [← HEN.out]; exact HO9.out, by go_num, HB9⟩
            case measure => simp [intOf]; omega
          · obtain ⟨dq, pl, hZ⟩ : ∃ dq pl, Z = dq ++ [pl] := last_of (fun h => hL0 (by rw [HLL.out, h]; rfl))
            obtain ⟨D, hD⟩ : ∃ D, dq.length = D := ⟨_, rfl⟩
            have hLD : L = D + 1 := by rw [HLL.out, hZ, List.length_append, List.length_singleton, hD]
            have hop := HSHP.out dq pl hZ
            obtain ⟨gb, rfl⟩ : ∃ gb, Av = some ⟨gb, 0, none⟩ := by
              obtain ⟨bs, h1, h2⟩ := HO.out
              obtain ⟨gb, co, hv, -⟩ := h1.some_ (HLL.out.trans h2.1.symm) (by omega)
              injection hv with h3
              exact ⟨gb, h3⟩
            have hgl : gb < wr.heap.size := HVL.out gb rfl
            have hco : L ≤ cv := by obtain ⟨bs, h1, h2⟩ := HO.out; have := h1.rd.room; rw [h2.1, ← HLL.out] at this; exact this
            have HZZ := Lib.hid hZ
            have HDD := Lib.hid hD
            have HOP := Lib.hid hop
            have HLD := Lib.hid hLD
            have hD9 : D ≤ 50000 := by omega
            have hL9 : L ≤ 50000 := by omega
            clear hZ hD hop hLD
            go_wp2_with ((with_reducible refine C.out.mono ?_); rintro e w6 ⟨A9, c9, rfl, hrd, hq⟩; replace HO := Lib.hid (HO.out.below hq); replace hbw := Lib.hid (hbw.out.trans (hq.mono hbw.out.size)); replace k0 := ((bcell hq).1 _ _ hbl).trans k0; replace k1 := ((bcell hq).1 _ _ hbl).trans k1; replace hbl := Nat.lt_of_lt_of_le hbl hq.size; have HS := Lib.hid (show dKn.Rd w6 (fun g => wr.heap.size ≤ g) A9 c9 K from hrd); have HBX := Lib.hid (rgAt_new w6 X ⟨#[]⟩ true 45); have hx9 : N' ≤ c9 := (by rw [← HNN.out]; exact hrd.room); have hlw : wr.heap.size ≤ w6.heap.size := hq.size; clear hrd hq)
            obtain ⟨b0, b1x, b2, b3⟩ := HBX.out
            replace k0 := ((bcell (below_new w6 (.cells #[.string X, .string ⟨#[]⟩, .bool true] 45))).1 _ _ hbl).trans k0
            replace k1 := ((bcell (below_new w6 (.cells #[.string X, .string ⟨#[]⟩, .bool true] 45))).1 _ _ hbl).trans k1
            go_region
            obtain ⟨w7, hw7⟩ : ∃ w7, (w6.alloc (.cells #[.string X, .string X2, .bool false] 45)).drew = w7 := ⟨_, rfl⟩
            have hb67 : Below w6.heap.size w6 w7 := hw7 ▸ (below_new w6 _).drew
            replace HBX := Lib.hid (show RgAt w7 w6.heap.size X X2 false from hw7 ▸ (rgAt_new w6 X X2 false 45).drew)
            clear b0 b1x b2 b3
            rw [hw7]
            clear hw7 k0 k1
            replace HO := Lib.hid (HO.out.below hb67)
            replace HS := Lib.hid (HS.out.call hb67)
            replace hbw := Lib.hid (hbw.out.trans (hb67.mono hbw.out.size))
            clear hb67
            obtain ⟨As, ns, cs, TT, hTT, hns, hrs, p1, p2, p3, hfz⟩ := own_atP (HZZ.out ▸ HO.out) (by rw [HLL.out, HZZ.out]) HDD.out
            rw [HOP.out] at p2
            obtain ⟨y, hy⟩ : ∃ y, (TT.toList == X.toList) = y := ⟨_, rfl⟩
            obtain ⟨ff, hff⟩ : ∃ ff, sameS pl.set K = ff := ⟨_, rfl⟩
            have HRS := Lib.hid hrs
            have hxs : ns ≤ cs := by rw [hns]; exact hrs.room
            have CF := Lib.hid (fun (L : List (Addr × Value)) => fun (W : World) (hC : CellL w7 L W) => (ref_vsame As A9 cs c9 ns N' pl.set K hns HNN.out.symm ff hff W (HRS.out.call (cellL_size hC)) ((rdk_of HS.out).call (cellL_size hC))).mono fun (e : Ending) (W' : World) ⟨h1, h2⟩ => (⟨h1, cellL_call h2 hC⟩ : e = Ending.returned (.bool ff) ∧ CellL w7 L W'))
            have HY := Lib.hid (show (y = true ↔ pl.rng.hi = x) from by rw [← hy, ← hTT, ← HXX.out, str_toList, str_toList, beq_iff_eq])
            have HF := Lib.hid (show (ff = true ↔ pl.set = K) from by rw [← hff, sameS_iff])
            have hLw : IntKind.i64.wrap ((L : Int) - 1) = (D : Int) := by rw [show (L : Int) - 1 = (D : Int) by have := HLD.out; omega]; exact IntWalk.i64_in _ (by omega)
            have hDw : IntKind.i64.wrap (D : Int) = (D : Int) := IntWalk.i64_in _ (by omega)
            have hD0 : (0 : Int) ≤ (D : Int) := by omega
            have hDL : (D : Int) < (L : Int) := by have := HLD.out; omega
            have hDd : decide ((D : Int) < 0) = false := decide_eq_false (by omega)
            have hL1 : decide ((0 : Int) < (L : Int)) = true := decide_eq_true (by omega)
            have hL2 : decide (0 < L) = true := decide_eq_true (by omega)
            have HC := Lib.hid (show CellL w7 [(⟨gb, D * 4 + 1, none⟩, .string TT), (⟨gb, D * 4 + 2, none⟩, .bool false), (⟨gb, D * 4 + 3, none⟩, .slice As ns cs), (⟨w6.heap.size, 0, none⟩, .string X), (⟨w6.heap.size, 1, none⟩, .string X2), (⟨w6.heap.size, 2, none⟩, .bool false)] w7 from ⟨p1, p2, p3, HBX.out.1, HBX.out.2.1, HBX.out.2.2.1, Below.refl _ _⟩)
            clear hTT hns hrs p1 p2 p3 hfz hff
            go_wp2_with fail
            cases y
            case' true =>
              cases ff
            all_goals
              refine q_region (CellL w7 _) (by kernel_rfl) (by kernel_rfl) (cellL_drew HC.out) ?_
              repeat (first
                | go_big_quiet_skip
                | (go_big_quiet_want; (first
                  | (refine q_take (v := ?_) ?_ ?_; rotate_left; (focus (intro w hSw; (try simp only [CellL] at hSw); go_split_ands; go_simp; (try (rw [if_neg (by omega)])); (try with_reducible rfl); done)))
                  | (refine q_call (CF.out _) ?_ ?_; (focus (intro w hSw; (try simp only [CellL] at hSw); go_split_ands; go_simp; (try (rw [if_neg (by omega)])); done)))); (try simp only [Act.put, List.setIfInBounds_toArray, List.set_cons_zero, List.set_cons_succ]); go_big_quiet_on))
              refine wpQuiet_nil ?_
              intro w8 hw8
              have hq8 := cellL_size hw8
              replace HO := Lib.hid (HO.out.below hq8)
              replace HS := Lib.hid (HS.out.call hq8)
              replace HBX := Lib.hid (HBX.out.below hq8)
              replace hbw := Lib.hid (hbw.out.trans (hq8.mono hbw.out.size))
              have HCE := Lib.hid hw8
              clear hw8 hq8 HC hD0 hDd hDw hL1 hL2 hy
            case false =>
              have HZN := Lib.hid (show ∀ dq' p, Z = dq' ++ [p] → ¬ (p.rng.hi = x ∧ p.set = K) from fun dq' p h => by
                rw [HZZ.out] at h
                obtain ⟨-, h2⟩ := List.append_inj' h rfl
                injection h2 with h2
                subst h2
                exact fun e => by have := HY.out.2 e.1; cases this)
              obtain ⟨dn2, HMN, HEN⟩ := HAPP.out HZN.out
              have HMN := Lib.hid HMN
              have HEN := Lib.hid (show Z ++ [⟨⟨x, x2, false⟩, K⟩] = dn2 ++ pendP (some (x, K)) (edgeK E (k + 1)) from by rw [← HEN, HEDG.out])
              obtain ⟨bs, ho, hall⟩ := HO.out
              have HLE := Lib.hid (show bs.length + [(⟨⟨x, x2, false⟩, A9, N', c9⟩ : Ps)].length ≤ 1000000 by have := hall.1; have := HLL.out; rw [List.length_singleton]; omega)
              have HREL := Lib.hid (show dPc.rel w8 (fun g => w5.heap.size ≤ g ∧ (Value.slice (some ⟨gb, 0, none⟩) L cv).ownBlock ≠ some g) ⟨⟨x, x2, false⟩, A9, N', c9⟩ ⟨⟨x, x2, false⟩, K⟩ from ⟨rfl, HNN.out.symm, HS.out.mono fun g hg => ⟨by have := HSZ.out; omega, fun e => by have := HVL.out g e; omega⟩⟩)
              have HKO := Lib.hid ho
              have HKA := Lib.hid hall
              have HBX8 := HBX.out
              obtain ⟨b0, b1x, b2, b3⟩ := HBX8
              clear ho hall
              go_wp2_with (at_builtin; refine wpList_app_k kPs rfl (.tmp 117) (.tmp 121) rfl w5.heap.size _ bs rfl (Kind.Own.alloc HKO.out _) _ (some ⟨w8.heap.size, 0, none⟩) 1 1 [⟨⟨x, x2, false⟩, A9, N', c9⟩] rfl rfl (piece_row_n w8 x x2 X X2 HXX.out HX2.out false A9 N' c9) HLE.out (by decide) (le_alloc hbw.out.size _) ?_; intro v9 w9 hown9 hg9 hb9 hv9; have HO9 := Lib.hid (Deep.Own.app (HKA.out.keep (keptS_below (below_new w8 _) _)) (.one (dPc.keep HREL.out (keptS_below (below_new w8 _) _))) hown9 hg9 hv9); have HB9 := Lib.hid ((hbw.out.alloc hbw.out.size _).trans hb9); clear hown9 hg9 hb9 hv9)
              go_roundw
              case rel => exact ⟨k + 1, dn2, some (x, K), by omega, HMN, show OwnPF _ _ _ _ from by rw [← HEN.out]; exact HO9.out, by go_num, HB9⟩
              case measure => simp [intOf]; omega
            case true.false =>
              have HZN := Lib.hid (show ∀ dq' p, Z = dq' ++ [p] → ¬ (p.rng.hi = x ∧ p.set = K) from fun dq' p h => by
                rw [HZZ.out] at h
                obtain ⟨-, h2⟩ := List.append_inj' h rfl
                injection h2 with h2
                subst h2
                exact fun e => by have := HF.out.2 e.2; cases this)
              obtain ⟨dn2, HMN, HEN⟩ := HAPP.out HZN.out
              have HMN := Lib.hid HMN
              have HEN := Lib.hid (show Z ++ [⟨⟨x, x2, false⟩, K⟩] = dn2 ++ pendP (some (x, K)) (edgeK E (k + 1)) from by rw [← HEN, HEDG.out])
              obtain ⟨bs, ho, hall⟩ := HO.out
              have HLE := Lib.hid (show bs.length + [(⟨⟨x, x2, false⟩, A9, N', c9⟩ : Ps)].length ≤ 1000000 by have := hall.1; have := HLL.out; rw [List.length_singleton]; omega)
              have HREL := Lib.hid (show dPc.rel w8 (fun g => w5.heap.size ≤ g ∧ (Value.slice (some ⟨gb, 0, none⟩) L cv).ownBlock ≠ some g) ⟨⟨x, x2, false⟩, A9, N', c9⟩ ⟨⟨x, x2, false⟩, K⟩ from ⟨rfl, HNN.out.symm, HS.out.mono fun g hg => ⟨by have := HSZ.out; omega, fun e => by have := HVL.out g e; omega⟩⟩)
              have HKO := Lib.hid ho
              have HKA := Lib.hid hall
              have HBX8 := HBX.out
              obtain ⟨b0, b1x, b2, b3⟩ := HBX8
              clear ho hall
              go_wp2_with (at_builtin; refine wpList_app_k kPs rfl (.tmp 117) (.tmp 121) rfl w5.heap.size _ bs rfl (Kind.Own.alloc HKO.out _) _ (some ⟨w8.heap.size, 0, none⟩) 1 1 [⟨⟨x, x2, false⟩, A9, N', c9⟩] rfl rfl (piece_row_n w8 x x2 X X2 HXX.out HX2.out false A9 N' c9) HLE.out (by decide) (le_alloc hbw.out.size _) ?_; intro v9 w9 hown9 hg9 hb9 hv9; have HO9 := Lib.hid (Deep.Own.app (HKA.out.keep (keptS_below (below_new w8 _) _)) (.one (dPc.keep HREL.out (keptS_below (below_new w8 _) _))) hown9 hg9 hv9); have HB9 := Lib.hid ((hbw.out.alloc hbw.out.size _).trans hb9); clear hown9 hg9 hb9 hv9)
              go_roundw
              case rel => exact ⟨k + 1, dn2, some (x, K), by omega, HMN, show OwnPF _ _ _ _ from by rw [← HEN.out]; exact HO9.out, by go_num, HB9⟩
              case measure => simp [intOf]; omega
            case true.true =>
              obtain ⟨dn2, pq, HMN, HEN⟩ := HEXT.out dq pl HZZ.out (HY.out.1 rfl) (HF.out.1 rfl)
              have HMN := Lib.hid HMN
              have HOL := Lib.hid (own_lastP (HZZ.out ▸ HO.out) (by rw [HLL.out, HZZ.out]) HDD.out x2 X2 HX2.out false)
              have HEN := Lib.hid (show dq ++ [⟨⟨pl.rng.lo, x2, false⟩, pl.set⟩] = dn2 ++ pendP pq (edgeK E (k + 1)) from by rw [← HEN, HEDG.out])
              obtain ⟨e1, e2, -, -, -, -, -⟩ := HCE.out
              obtain ⟨b0, b1x, b2, b3⟩ := HBX.out
              obtain ⟨As', ns', cs', TT', -, -, -, -, -, -, hfz⟩ := own_atP (HZZ.out ▸ HO.out) (by rw [HLL.out, HZZ.out]) HDD.out
              have e3 : ∀ u, (w8.setCell ⟨gb, D * 4 + 1, none⟩ u).cell? ⟨w6.heap.size, 2, none⟩ = some (.bool false) := fun u => set_other b2 (addr_block (by omega)) u
              have e4 : ∀ u, (w8.setCell ⟨gb, D * 4 + 1, none⟩ u).cell? ⟨gb, D * 4 + 2, none⟩ = some (.bool false) := fun u => set_other e2 (addr_off (by omega)) u
              have HBE := Lib.hid ((hbw.out.setCell (p := ⟨gb, D * 4 + 1, none⟩) (OwnPF.lt HO.out).1 (.string X2)).setCell (p := ⟨gb, D * 4 + 2, none⟩) (OwnPF.lt HO.out).1 (.bool false))
              have hD0 : (0 : Int) ≤ (D : Int) := by omega
              go_wp2_with fail
              go_roundw
              case rel => exact ⟨k + 1, dn2, pq, by omega, HMN, show OwnPF _ _ _ _ from by rw [← HEN.out]; exact HOL.out, by go_num, HBE⟩
              case measure => simp [intOf]; omega
        · have HEDG := Lib.hid (edgeK_none (E := E) (k := k + 1) (by have := HN.out; omega))
          have hkn2 : decide ((k : Int) + 1 < (N : Int)) = false := decide_eq_false (by omega)
          clear hcell hg hm
          by_cases hL0 : L = 0
          · subst hL0
            have hZ0 : Z = [] := List.eq_nil_of_length_eq_zero HLL.out.symm
            have HZN := Lib.hid (show ∀ dq p, Z = dq ++ [p] → ¬ (p.rng.hi = x ∧ p.set = K) from fun dq p h => by rw [hZ0] at h; exact absurd h (by simp))
            clear hZ0 HEXT HSHP
            go_wp2_with ((with_reducible refine C.out.mono ?_); rintro e w6 ⟨A9, c9, rfl, hrd, hq⟩; replace HO := Lib.hid (HO.out.below hq); replace hbw := Lib.hid (hbw.out.trans (hq.mono hbw.out.size)); replace k0 := ((bcell hq).1 _ _ hbl).trans k0; replace hbl := Nat.lt_of_lt_of_le hbl hq.size; have HS := Lib.hid (show dKn.Rd w6 (fun g => wr.heap.size ≤ g) A9 c9 K from hrd); have HBX := Lib.hid (rgAt_new w6 X ⟨#[]⟩ true 45); have hx9 : N' ≤ c9 := (by rw [← HNN.out]; exact hrd.room); have hlw : wr.heap.size ≤ w6.heap.size := hq.size; clear hrd hq)
            obtain ⟨w7, hw7⟩ : ∃ w7, w6.alloc (.cells #[.string X, .string ⟨#[]⟩, .bool true] 45) = w7 := ⟨_, rfl⟩
            have hb67 : Below w6.heap.size w6 w7 := hw7 ▸ below_new w6 _
            replace HBX := Lib.hid (show RgAt w7 w6.heap.size X ⟨#[]⟩ true from hw7 ▸ HBX.out)
            rw [hw7]
            clear hw7 k0
            replace HO := Lib.hid (HO.out.below hb67)
            replace HS := Lib.hid (HS.out.call hb67)
            replace hbw := Lib.hid (hbw.out.trans (hb67.mono hbw.out.size))
            clear hb67
            go_wp2_with fail
            have HC := Lib.hid (show CellL w7 [(⟨w6.heap.size, 0, none⟩, .string X), (⟨w6.heap.size, 1, none⟩, .string ⟨#[]⟩), (⟨w6.heap.size, 2, none⟩, .bool true)] w7 from ⟨HBX.out.1, HBX.out.2.1, HBX.out.2.2.1, Below.refl _ _⟩)
            refine q_region (CellL w7 _) (by kernel_rfl) (by kernel_rfl) (cellL_drew HC.out) ?_
            repeat (first
              | go_big_quiet_skip
              | (go_big_quiet_want; (first
                | (refine q_take (v := ?_) ?_ ?_; rotate_left; (focus (intro w hSw; (try simp only [CellL] at hSw); go_split_ands; go_simp; (try (rw [if_neg (by omega)])); (try with_reducible rfl); done)))); (try simp only [Act.put, List.setIfInBounds_toArray, List.set_cons_zero, List.set_cons_succ]); go_big_quiet_on))
            refine wpQuiet_nil ?_
            intro w8 hw8
            have hq8 := cellL_size hw8
            replace HO := Lib.hid (HO.out.below hq8)
            replace HS := Lib.hid (HS.out.call hq8)
            replace HBX := Lib.hid (HBX.out.below hq8)
            replace hbw := Lib.hid (hbw.out.trans (hq8.mono hbw.out.size))
            clear hw8 hq8 HC
            obtain ⟨dn2, HMN, HEN⟩ := HAPP.out HZN.out
            have HMN := Lib.hid HMN
            have HEN := Lib.hid (show Z ++ [⟨⟨x, [], true⟩, K⟩] = dn2 ++ pendP (some (x, K)) (edgeK E (k + 1)) from by rw [← HEN, HEDG.out])
            obtain ⟨bs, ho, hall⟩ := HO.out
            have HLE := Lib.hid (show bs.length + [(⟨⟨x, [], true⟩, A9, N', c9⟩ : Ps)].length ≤ 1000000 by have := hall.1; have := HLL.out; rw [List.length_singleton]; omega)
            have HREL := Lib.hid (show dPc.rel w8 (fun g => w5.heap.size ≤ g ∧ (Value.slice Av 0 cv).ownBlock ≠ some g) ⟨⟨x, [], true⟩, A9, N', c9⟩ ⟨⟨x, [], true⟩, K⟩ from ⟨rfl, HNN.out.symm, HS.out.mono fun g hg => ⟨by have := HSZ.out; omega, fun e => by have := HVL.out g e; omega⟩⟩)
            have HKO := Lib.hid ho
            have HKA := Lib.hid hall
            have HBX8 := HBX.out
            obtain ⟨b0, b1x, b2, b3⟩ := HBX8
            clear ho hall
            go_wp2_with (at_builtin; refine wpList_app_k kPs rfl (.tmp 117) (.tmp 121) rfl w5.heap.size _ bs rfl (Kind.Own.alloc HKO.out _) _ (some ⟨w8.heap.size, 0, none⟩) 1 1 [⟨⟨x, [], true⟩, A9, N', c9⟩] rfl rfl (piece_row_n w8 x [] X ⟨#[]⟩ HXX.out rfl true A9 N' c9) HLE.out (by decide) (le_alloc hbw.out.size _) ?_; intro v9 w9 hown9 hg9 hb9 hv9; have HO9 := Lib.hid (Deep.Own.app (HKA.out.keep (keptS_below (below_new w8 _) _)) (.one (dPc.keep HREL.out (keptS_below (below_new w8 _) _))) hown9 hg9 hv9); have HB9 := Lib.hid ((hbw.out.alloc hbw.out.size _).trans hb9); clear hown9 hg9 hb9 hv9)
            go_roundw
            case rel => exact ⟨k + 1, dn2, some (x, K), by omega, HMN, show OwnPF _ _ _ _ from by rw [← HEN.out]; exact HO9.out, by go_num, HB9⟩
            case measure => simp [intOf]; omega
          · obtain ⟨dq, pl, hZ⟩ : ∃ dq pl, Z = dq ++ [pl] := last_of (fun h => hL0 (by rw [HLL.out, h]; rfl))
            obtain ⟨D, hD⟩ : ∃ D, dq.length = D := ⟨_, rfl⟩
            have hLD : L = D + 1 := by rw [HLL.out, hZ, List.length_append, List.length_singleton, hD]
            have hop := HSHP.out dq pl hZ
            obtain ⟨gb, rfl⟩ : ∃ gb, Av = some ⟨gb, 0, none⟩ := by
              obtain ⟨bs, h1, h2⟩ := HO.out
              obtain ⟨gb, co, hv, -⟩ := h1.some_ (HLL.out.trans h2.1.symm) (by omega)
              injection hv with h3
              exact ⟨gb, h3⟩
            have hgl : gb < wr.heap.size := HVL.out gb rfl
            have hco : L ≤ cv := by obtain ⟨bs, h1, h2⟩ := HO.out; have := h1.rd.room; rw [h2.1, ← HLL.out] at this; exact this
            have HZZ := Lib.hid hZ
            have HDD := Lib.hid hD
            have HOP := Lib.hid hop
            have HLD := Lib.hid hLD
            have hD9 : D ≤ 50000 := by omega
            have hL9 : L ≤ 50000 := by omega
            clear hZ hD hop hLD
            go_wp2_with ((with_reducible refine C.out.mono ?_); rintro e w6 ⟨A9, c9, rfl, hrd, hq⟩; replace HO := Lib.hid (HO.out.below hq); replace hbw := Lib.hid (hbw.out.trans (hq.mono hbw.out.size)); replace k0 := ((bcell hq).1 _ _ hbl).trans k0; replace hbl := Nat.lt_of_lt_of_le hbl hq.size; have HS := Lib.hid (show dKn.Rd w6 (fun g => wr.heap.size ≤ g) A9 c9 K from hrd); have HBX := Lib.hid (rgAt_new w6 X ⟨#[]⟩ true 45); have hx9 : N' ≤ c9 := (by rw [← HNN.out]; exact hrd.room); have hlw : wr.heap.size ≤ w6.heap.size := hq.size; clear hrd hq)
            obtain ⟨w7, hw7⟩ : ∃ w7, w6.alloc (.cells #[.string X, .string ⟨#[]⟩, .bool true] 45) = w7 := ⟨_, rfl⟩
            have hb67 : Below w6.heap.size w6 w7 := hw7 ▸ below_new w6 _
            replace HBX := Lib.hid (show RgAt w7 w6.heap.size X ⟨#[]⟩ true from hw7 ▸ HBX.out)
            rw [hw7]
            clear hw7 k0
            replace HO := Lib.hid (HO.out.below hb67)
            replace HS := Lib.hid (HS.out.call hb67)
            replace hbw := Lib.hid (hbw.out.trans (hb67.mono hbw.out.size))
            clear hb67
            obtain ⟨As, ns, cs, TT, hTT, hns, hrs, p1, p2, p3, hfz⟩ := own_atP (HZZ.out ▸ HO.out) (by rw [HLL.out, HZZ.out]) HDD.out
            rw [HOP.out] at p2
            obtain ⟨y, hy⟩ : ∃ y, (TT.toList == X.toList) = y := ⟨_, rfl⟩
            obtain ⟨ff, hff⟩ : ∃ ff, sameS pl.set K = ff := ⟨_, rfl⟩
            have HRS := Lib.hid hrs
            have hxs : ns ≤ cs := by rw [hns]; exact hrs.room
            have CF := Lib.hid (fun (L : List (Addr × Value)) => fun (W : World) (hC : CellL w7 L W) => (ref_vsame As A9 cs c9 ns N' pl.set K hns HNN.out.symm ff hff W (HRS.out.call (cellL_size hC)) ((rdk_of HS.out).call (cellL_size hC))).mono fun (e : Ending) (W' : World) ⟨h1, h2⟩ => (⟨h1, cellL_call h2 hC⟩ : e = Ending.returned (.bool ff) ∧ CellL w7 L W'))
            have HY := Lib.hid (show (y = true ↔ pl.rng.hi = x) from by rw [← hy, ← hTT, ← HXX.out, str_toList, str_toList, beq_iff_eq])
            have HF := Lib.hid (show (ff = true ↔ pl.set = K) from by rw [← hff, sameS_iff])
            have hLw : IntKind.i64.wrap ((L : Int) - 1) = (D : Int) := by rw [show (L : Int) - 1 = (D : Int) by have := HLD.out; omega]; exact IntWalk.i64_in _ (by omega)
            have hDw : IntKind.i64.wrap (D : Int) = (D : Int) := IntWalk.i64_in _ (by omega)
            have hD0 : (0 : Int) ≤ (D : Int) := by omega
            have hDL : (D : Int) < (L : Int) := by have := HLD.out; omega
            have hDd : decide ((D : Int) < 0) = false := decide_eq_false (by omega)
            have hL1 : decide ((0 : Int) < (L : Int)) = true := decide_eq_true (by omega)
            have hL2 : decide (0 < L) = true := decide_eq_true (by omega)
            have HC := Lib.hid (show CellL w7 [(⟨gb, D * 4 + 1, none⟩, .string TT), (⟨gb, D * 4 + 2, none⟩, .bool false), (⟨gb, D * 4 + 3, none⟩, .slice As ns cs), (⟨w6.heap.size, 0, none⟩, .string X), (⟨w6.heap.size, 1, none⟩, .string ⟨#[]⟩), (⟨w6.heap.size, 2, none⟩, .bool true)] w7 from ⟨p1, p2, p3, HBX.out.1, HBX.out.2.1, HBX.out.2.2.1, Below.refl _ _⟩)
            clear hTT hns hrs p1 p2 p3 hfz hff
            go_wp2_with fail
            cases y
            case' true =>
              cases ff
            all_goals
              refine q_region (CellL w7 _) (by kernel_rfl) (by kernel_rfl) (cellL_drew HC.out) ?_
              repeat (first
                | go_big_quiet_skip
                | (go_big_quiet_want; (first
                  | (refine q_take (v := ?_) ?_ ?_; rotate_left; (focus (intro w hSw; (try simp only [CellL] at hSw); go_split_ands; go_simp; (try (rw [if_neg (by omega)])); (try with_reducible rfl); done)))
                  | (refine q_call (CF.out _) ?_ ?_; (focus (intro w hSw; (try simp only [CellL] at hSw); go_split_ands; go_simp; (try (rw [if_neg (by omega)])); done)))); (try simp only [Act.put, List.setIfInBounds_toArray, List.set_cons_zero, List.set_cons_succ]); go_big_quiet_on))
              refine wpQuiet_nil ?_
              intro w8 hw8
              have hq8 := cellL_size hw8
              replace HO := Lib.hid (HO.out.below hq8)
              replace HS := Lib.hid (HS.out.call hq8)
              replace HBX := Lib.hid (HBX.out.below hq8)
              replace hbw := Lib.hid (hbw.out.trans (hq8.mono hbw.out.size))
              have HCE := Lib.hid hw8
              clear hw8 hq8 HC hD0 hDd hDw hL1 hL2 hy
            case false =>
              have HZN := Lib.hid (show ∀ dq' p, Z = dq' ++ [p] → ¬ (p.rng.hi = x ∧ p.set = K) from fun dq' p h => by
                rw [HZZ.out] at h
                obtain ⟨-, h2⟩ := List.append_inj' h rfl
                injection h2 with h2
                subst h2
                exact fun e => by have := HY.out.2 e.1; cases this)
              obtain ⟨dn2, HMN, HEN⟩ := HAPP.out HZN.out
              have HMN := Lib.hid HMN
              have HEN := Lib.hid (show Z ++ [⟨⟨x, [], true⟩, K⟩] = dn2 ++ pendP (some (x, K)) (edgeK E (k + 1)) from by rw [← HEN, HEDG.out])
              obtain ⟨bs, ho, hall⟩ := HO.out
              have HLE := Lib.hid (show bs.length + [(⟨⟨x, [], true⟩, A9, N', c9⟩ : Ps)].length ≤ 1000000 by have := hall.1; have := HLL.out; rw [List.length_singleton]; omega)
              have HREL := Lib.hid (show dPc.rel w8 (fun g => w5.heap.size ≤ g ∧ (Value.slice (some ⟨gb, 0, none⟩) L cv).ownBlock ≠ some g) ⟨⟨x, [], true⟩, A9, N', c9⟩ ⟨⟨x, [], true⟩, K⟩ from ⟨rfl, HNN.out.symm, HS.out.mono fun g hg => ⟨by have := HSZ.out; omega, fun e => by have := HVL.out g e; omega⟩⟩)
              have HKO := Lib.hid ho
              have HKA := Lib.hid hall
              have HBX8 := HBX.out
              obtain ⟨b0, b1x, b2, b3⟩ := HBX8
              clear ho hall
              go_wp2_with (at_builtin; refine wpList_app_k kPs rfl (.tmp 117) (.tmp 121) rfl w5.heap.size _ bs rfl (Kind.Own.alloc HKO.out _) _ (some ⟨w8.heap.size, 0, none⟩) 1 1 [⟨⟨x, [], true⟩, A9, N', c9⟩] rfl rfl (piece_row_n w8 x [] X ⟨#[]⟩ HXX.out rfl true A9 N' c9) HLE.out (by decide) (le_alloc hbw.out.size _) ?_; intro v9 w9 hown9 hg9 hb9 hv9; have HO9 := Lib.hid (Deep.Own.app (HKA.out.keep (keptS_below (below_new w8 _) _)) (.one (dPc.keep HREL.out (keptS_below (below_new w8 _) _))) hown9 hg9 hv9); have HB9 := Lib.hid ((hbw.out.alloc hbw.out.size _).trans hb9); clear hown9 hg9 hb9 hv9)
              go_roundw
              case rel => exact ⟨k + 1, dn2, some (x, K), by omega, HMN, show OwnPF _ _ _ _ from by rw [← HEN.out]; exact HO9.out, by go_num, HB9⟩
              case measure => simp [intOf]; omega
            case true.false =>
              have HZN := Lib.hid (show ∀ dq' p, Z = dq' ++ [p] → ¬ (p.rng.hi = x ∧ p.set = K) from fun dq' p h => by
                rw [HZZ.out] at h
                obtain ⟨-, h2⟩ := List.append_inj' h rfl
                injection h2 with h2
                subst h2
                exact fun e => by have := HF.out.2 e.2; cases this)
              obtain ⟨dn2, HMN, HEN⟩ := HAPP.out HZN.out
              have HMN := Lib.hid HMN
              have HEN := Lib.hid (show Z ++ [⟨⟨x, [], true⟩, K⟩] = dn2 ++ pendP (some (x, K)) (edgeK E (k + 1)) from by rw [← HEN, HEDG.out])
              obtain ⟨bs, ho, hall⟩ := HO.out
              have HLE := Lib.hid (show bs.length + [(⟨⟨x, [], true⟩, A9, N', c9⟩ : Ps)].length ≤ 1000000 by have := hall.1; have := HLL.out; rw [List.length_singleton]; omega)
              have HREL := Lib.hid (show dPc.rel w8 (fun g => w5.heap.size ≤ g ∧ (Value.slice (some ⟨gb, 0, none⟩) L cv).ownBlock ≠ some g) ⟨⟨x, [], true⟩, A9, N', c9⟩ ⟨⟨x, [], true⟩, K⟩ from ⟨rfl, HNN.out.symm, HS.out.mono fun g hg => ⟨by have := HSZ.out; omega, fun e => by have := HVL.out g e; omega⟩⟩)
              have HKO := Lib.hid ho
              have HKA := Lib.hid hall
              have HBX8 := HBX.out
              obtain ⟨b0, b1x, b2, b3⟩ := HBX8
              clear ho hall
              go_wp2_with (at_builtin; refine wpList_app_k kPs rfl (.tmp 117) (.tmp 121) rfl w5.heap.size _ bs rfl (Kind.Own.alloc HKO.out _) _ (some ⟨w8.heap.size, 0, none⟩) 1 1 [⟨⟨x, [], true⟩, A9, N', c9⟩] rfl rfl (piece_row_n w8 x [] X ⟨#[]⟩ HXX.out rfl true A9 N' c9) HLE.out (by decide) (le_alloc hbw.out.size _) ?_; intro v9 w9 hown9 hg9 hb9 hv9; have HO9 := Lib.hid (Deep.Own.app (HKA.out.keep (keptS_below (below_new w8 _) _)) (.one (dPc.keep HREL.out (keptS_below (below_new w8 _) _))) hown9 hg9 hv9); have HB9 := Lib.hid ((hbw.out.alloc hbw.out.size _).trans hb9); clear hown9 hg9 hb9 hv9)
              go_roundw
              case rel => exact ⟨k + 1, dn2, some (x, K), by omega, HMN, show OwnPF _ _ _ _ from by rw [← HEN.out]; exact HO9.out, by go_num, HB9⟩
              case measure => simp [intOf]; omega
            case true.true =>
              obtain ⟨dn2, pq, HMN, HEN⟩ := HEXT.out dq pl HZZ.out (HY.out.1 rfl) (HF.out.1 rfl)
              have HMN := Lib.hid HMN
              have HOL := Lib.hid (own_lastP (HZZ.out ▸ HO.out) (by rw [HLL.out, HZZ.out]) HDD.out [] ⟨#[]⟩ rfl true)
              have HEN := Lib.hid (show dq ++ [⟨⟨pl.rng.lo, [], true⟩, pl.set⟩] = dn2 ++ pendP pq (edgeK E (k + 1)) from by rw [← HEN, HEDG.out])
              obtain ⟨e1, e2, -, -, -, -, -⟩ := HCE.out
              obtain ⟨b0, b1x, b2, b3⟩ := HBX.out
              obtain ⟨As', ns', cs', TT', -, -, -, -, -, -, hfz⟩ := own_atP (HZZ.out ▸ HO.out) (by rw [HLL.out, HZZ.out]) HDD.out
              have e3 : ∀ u, (w8.setCell ⟨gb, D * 4 + 1, none⟩ u).cell? ⟨w6.heap.size, 2, none⟩ = some (.bool true) := fun u => set_other b2 (addr_block (by omega)) u
              have e4 : ∀ u, (w8.setCell ⟨gb, D * 4 + 1, none⟩ u).cell? ⟨gb, D * 4 + 2, none⟩ = some (.bool false) := fun u => set_other e2 (addr_off (by omega)) u
              have HBE := Lib.hid ((hbw.out.setCell (p := ⟨gb, D * 4 + 1, none⟩) (OwnPF.lt HO.out).1 (.string ⟨#[]⟩)).setCell (p := ⟨gb, D * 4 + 2, none⟩) (OwnPF.lt HO.out).1 (.bool true))
              have hD0 : (0 : Int) ≤ (D : Int) := by omega
              go_wp2_with fail
              go_roundw
              case rel => exact ⟨k + 1, dn2, pq, by omega, HMN, show OwnPF _ _ _ _ from by rw [← HEN.out]; exact HOL.out, by go_num, HBE⟩
              case measure => simp [intOf]; omega
    · have HE := Lib.hid (show dn ++ pendP p (edgeK E k) = U from by rw [← HM.out.done (by have := HN.out; omega), HU.out])
      rw [HE.out] at HO
      obtain ⟨A8, c8, rfl, hrd⟩ := HO.out.read_f HNU.out
      have HR8 := Lib.hid hrd
      clear hrd WH
      go_wp2_with fail
      go_ret
      exact ⟨A8, c8, rfl, HR8.out.mono fun g hg => Nat.le_trans HW.out.size hg, HW.out.trans (hbw.out.mono HW.out.size)⟩
theorem ref_pmake (op x : Int) (hx : op = x) (h123 : op = 1 ∨ op = 2 ∨ op = 3) (A B D : Option Addr) (c d e n m q : Nat) (a b : List Pc) (l : List Rng) (hn : n = a.length) (hm : m = b.length) (hq : q = l.length) (hmq : m + q ≤ 10000)
    (hca : CapP a) (hcb : CapP b) (U : List Pc) (hU : makeP op a b l = U) (NU : Nat) (hNU : NU = U.length) (w : World) (ha : RdPc w A c a) (hb : RdPc w B d b) (hl : kRng.Rd w w.heap.size D e l) :
    Calls Tryz.prog 28 #[.int .i64 x, .slice A n c, .slice B m d, .slice D q e] w (RetP w NU U) :=
  (ref_pmake_new op x hx h123 A B D c d e n m q a b l hn hm hq hmq hca hcb U hU NU hNU w ha hb hl).mono fun _ _ h => h.to
end Go.Proofs.YtopjhebhdopjpaaGreat

namespace Go.Proofs.YtopjhebhdopjpaaGreat
open Go.RowKit

end Go.Proofs.YtopjhebhdopjpaaGreat
