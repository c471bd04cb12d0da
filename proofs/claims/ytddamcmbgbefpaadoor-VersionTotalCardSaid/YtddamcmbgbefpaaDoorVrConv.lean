/-
  Numbers and their digits, as the library writes and reads them: what Itoa and Atoi give, held against a number's digits; a text cut at its point. No program in this text.
-/
import Derived.Test.YtddamcmbgbefpaaDoorVrPure
import Derived.Lib.AtoiAll
import Derived.Lib.ItoaMem
import Derived.Lib.IndexMore
namespace Go.Proofs.YtddamcmbgbefpaaDoor

theorem digF_dec : ∀ (f n : Nat), n < 10 ^ (f + 1) → digF f n = Lib.decDigits n
  | 0, n, h => by
    rw [digF_small (by simpa using h), Lib.decDigits_one (by simpa using h)]; rfl
  | f + 1, n, h => by
    by_cases hn : n < 10
    · rw [digF_small hn, Lib.decDigits_one hn]; rfl
    · rw [digF_big (by omega), digF_dec f (n / 10) (by rw [Nat.pow_succ] at h; omega), Lib.decDigits.eq_1 n, dif_neg hn]; rfl
theorem itoa_dig {n : Nat} (h : n ≤ 1099511627776) : Lib.itoa (n : Int) = digN n := by
  rw [Lib.itoa_nonneg]; exact (digF_dec 20 n (by omega)).symm
/-- What ParseUint gives of digits: their number. -/
theorem parse_dig : ∀ (l : List UInt8) (a : Nat), (∀ c ∈ l, 48 ≤ c.toNat ∧ c.toNat ≤ 57) → digVal l a ≤ 1099511627776 → Lib.parseUint10 a l = .ok (digVal l a)
  | [], a, _, _ => rfl
  | c :: l, a, h, hv => by
    have hc := h c (List.mem_cons_self ..)
    have hle : ∀ (l : List UInt8) (x : Nat), x ≤ digVal l x := fun l => by
      induction l with
      | nil => intro x; exact Nat.le_refl _
      | cons d l ih => intro x; rw [digVal]; have := ih (10 * x + (d.toNat - 48)); omega
    have h1 := hle l (10 * a + (c.toNat - 48))
    rw [digVal] at hv ⊢
    rw [Lib.parseUint10, if_pos hc, if_neg (by omega), if_neg (by omega), show a * 10 + (c.toNat - 48) = 10 * a + (c.toNat - 48) by omega]
    exact parse_dig l _ (fun d hd => h d (List.mem_cons_of_mem _ hd)) hv
/-- What the program takes a text's number for: 0, if the library tells of an error. -/
def gV (s : List UInt8) : Int := match Lib.atoiAll s with | .ok v => v | _ => 0
theorem gV_dig {n : Nat} (h : n ≤ 1099511627776) : gV (digN n) = (n : Int) := by
  have hv := digF_val 20 n (by omega)
  have hd := digF_digits 20 n
  have hne := digF_ne 20 n
  unfold gV digN
  generalize digF 20 n = l at hv hd hne
  cases l with
  | nil => exact absurd rfl hne
  | cons c r =>
    have hc := hd c (List.mem_cons_self ..)
    have hp := parse_dig (c :: r) 0 hd (by omega)
    rw [hv] at hp
    have h1 : ¬ (c.toNat = 43 ∨ c.toNat = 45) := by omega
    have h2 : ¬ c.toNat = 45 := by omega
    have h3 : ¬ (¬ c.toNat = 45 ∧ 9223372036854775808 ≤ n) := by omega
    have h4 : ¬ (c.toNat = 45 ∧ 9223372036854775808 < n) := by omega
    have e : Lib.atoiAll (c :: r) = .ok (n : Int) := by
      simp only [Lib.atoiAll, if_neg h1, Lib.parseMag, List.cons_ne_nil, if_false, hp, if_neg h2, if_neg h3, if_neg h4]
    rw [e]
theorem gV_bound (s : List UInt8) : -9223372036854775808 ≤ gV s ∧ gV s ≤ 9223372036854775807 := by
  unfold gV
  cases h : Lib.atoiAll s with
  | ok v =>
    cases s with
    | nil => simp [Lib.atoiAll] at h
    | cons c r =>
      simp only [Lib.atoiAll] at h
      split at h
      · cases h
      · cases h
      · rename_i u hu
        split at h
        · cases h
        · split at h
          · cases h
          · injection h with h
            show -9223372036854775808 ≤ v ∧ v ≤ 9223372036854775807
            by_cases hn : c.toNat = 45
            · rw [if_pos hn] at h; omega
            · rw [if_neg hn] at h; omega
  | «syntax» => exact ⟨by decide, by decide⟩
  | range => exact ⟨by decide, by decide⟩
theorem occ_at : ∀ (a r : List UInt8), (∀ c ∈ a, 48 ≤ c.toNat ∧ c.toNat ≤ 57) → Lib.index (a ++ 46 :: r) [46] = (a.length : Int)
  | [], r, _ => by
    rw [List.nil_append, Lib.index, if_pos (by simp [List.isPrefixOf])]; rfl
  | c :: a, r, h => by
    have hc := h c (List.mem_cons_self ..)
    have hne : ¬ (46 : UInt8) = c := fun e => by subst e; exact absurd hc.1 (by decide)
    have ih := occ_at a r (fun d hd => h d (List.mem_cons_of_mem _ hd))
    rw [List.cons_append, Lib.index, if_neg (by simp [List.isPrefixOf, hne]), ih, if_neg (by simp), List.length_cons]
    omega
theorem cut_dot (a r : List UInt8) (h : ∀ c ∈ a, 48 ≤ c.toNat ∧ c.toNat ≤ 57) : Lib.cut (a ++ 46 :: r) [46] = (a, r, true) := by
  unfold Lib.cut
  rw [occ_at a r h, if_pos (by omega), Int.toNat_natCast]
  simp
/-- A version's text, as the program reads it. -/
theorem cut_read {s : List UInt8} {v : Vr} (h : readVr s = some v) : gV (Lib.cut s [46]).1 = v.rep ∧ gV (Lib.cut s [46]).2.1 = v.cnt := by
  obtain ⟨h1, h2⟩ := readVr_back h
  rw [rightVr_iff] at h1
  subst h2
  unfold textVr
  rw [cut_dot (digN v.rep.toNat) _ (digF_digits 20 _)]
  show gV (digN v.rep.toNat) = v.rep ∧ gV (digN v.cnt.toNat) = v.cnt
  rw [gV_dig (by omega), gV_dig (by omega)]
  omega
end Go.Proofs.YtddamcmbgbefpaaDoor
