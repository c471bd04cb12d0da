/-
  Layer 8 (ranges), the program: is there a text between two; is a list right; which texts it has; are two lists the same, range by range.
-/
import Derived.Test.YtgoenmgkhdibnaaRgsF
import Derived.Test.YtgoenmgkhdibnaaRgsMrg
import Derived.Test.YtgoenmgkhdibnaaSpanD
import Derived.Test.YtgoenmgkhdibnaaQuiet
namespace Go.Proofs.Ytgoenmgkhdibnaa
open Go.RowKit

theorem rg_apart (r t : Rng) (S T U V : ByteArray) (o p v : Bool) (hr : IsR r S T o) (ht : IsR t U V p) (hv : gapR r t = v) (w : World) :
    Calls Try.prog 24 #[.agg #[.string S, .string T, .bool o], .agg #[.string U, .string V, .bool p]] w fun e w' => e = .returned (.bool v) ∧ Below w.heap.size w w' := by
  obtain ⟨-, h2, h3⟩ := hr
  obtain ⟨h4, -, -⟩ := ht
  obtain ⟨x, hx, hx1, -⟩ := cmp_test r.hi t.lo
  have C := fun w => Lib.hid (cmp_is r.hi t.lo T U h2 h4 x hx w)
  unfold gapR at hv
  rw [← hx1, h3] at hv
  clear hx hx1 h2 h3 h4
  obtain ⟨d, hd⟩ : ∃ d, decide (x < 0) = d := ⟨_, rfl⟩
  rw [hd] at hv
  subst hv
  cases o <;> cases d
  all_goals
    go_enter Try.func24, Try.ntmps24
    go_wp2_with ((with_reducible refine (C _).out.mono ?_); rintro e w' ⟨rfl, rfl⟩)
    go_ret
    exact ⟨rfl, ((Below.refl _ _).alloc (Nat.le_refl _) _).alloc (by simp) _⟩
set_option maxHeartbeats 400000 in
theorem rgs_has (A : Option Addr) (c n : Nat) (l : List Rng) (s : List UInt8) (U : ByteArray) (hn : n = l.length) (hU : str s = U) (v : Bool) (hv : hasL l s = v) (w : World) (hr : kRng.Rd w w.heap.size A c l) :
    Calls Try.prog 12 #[.slice A n c, .string U] w fun e w' => e = .returned (.bool v) ∧ Below w.heap.size w w' := by
  have HN := Lib.hid hn
  have HR := Lib.hid hr
  have hmx : n ≤ 9223372036854775807 := by exact rd_max hr hn
  have hcx : n ≤ c := by rw [hn]; exact hr.room
  subst hv
  clear hn hr
  go_enter Try.func12, Try.ntmps12
  go_wp2_with fail
  go_loopw [9] (fun i wr => ∃ k : Nat, k ≤ n ∧ Hid (hasL l s = hasL (l.drop k) s) ∧ i = .int .i64 k ∧ Below w.heap.size w wr) (fun i _ => n - (intOf i).toNat)
  case atStart => exact ⟨0, by omega, rfl, rfl, Below.refl _ _⟩
  case round =>
    obtain ⟨k, hk, HL, rfl, hb⟩ := hrel
    by_cases hlt : k < n
    · obtain ⟨r, hg, hd, -⟩ := get_some (l := l) (k := k) (by have := HN.out; omega)
      obtain ⟨b, o, rfl, hb1, hcell⟩ := rngs_at (HR.out.below hb) (by have := HN.out; omega)
      obtain ⟨c0, c1, c2⟩ := hcell k r hg
      obtain ⟨d, hdv⟩ : ∃ d, hasR r s = d := ⟨_, rfl⟩
      have C := fun w => Lib.hid (span_has r s _ _ U _ d (IsR.mk' r) hU hdv w)
      have HL2 := Lib.hid (HL.out.trans (by rw [hd, hasL_cons, hdv]))
      have hb2 := Nat.lt_of_lt_of_le hb1 hb.size
      clear hcell hg hd hdv
      obtain ⟨S, hS⟩ : ∃ S, str r.lo = S := ⟨_, rfl⟩
      obtain ⟨T, hT⟩ : ∃ T, str r.hi = T := ⟨_, rfl⟩
      obtain ⟨q, hq⟩ : ∃ q, r.op = q := ⟨_, rfl⟩
      rw [hS, hT, hq] at C
      rw [hS] at c0
      rw [hT] at c1
      rw [hq] at c2
      clear hS hT hq
      have HB1 := Lib.hid (hb.alloc hb.size (.cells #[.string S, .string T, .bool q] 35))
      cases d
      · go_wp2_with ((with_reducible refine (C _).out.mono ?_); rintro e w2 ⟨rfl, hq⟩; have HB2 := Lib.hid (HB1.out.trans (hq.mono HB1.out.size)); clear hq)
        go_roundw
        case rel => exact ⟨k + 1, by omega, HL2, by go_num, HB2.out⟩
        case measure => simp [intOf]; omega
      · go_wp2_with ((with_reducible refine (C _).out.mono ?_); rintro e w2 ⟨rfl, hq⟩; have HB2 := Lib.hid (HB1.out.trans (hq.mono HB1.out.size)); clear hq)
        go_ret
        exact ⟨ret_bool HL2.out.symm, HB2.out⟩
    · have HL2 := Lib.hid (HL.out.trans (show hasL (l.drop k) s = false by rw [List.drop_eq_nil_of_le (by have := HN.out; omega)]; rfl))
      go_wp2_with fail
      go_ret
      exact ⟨ret_bool HL2.out.symm, hb⟩
set_option maxHeartbeats 1000000 in
theorem rgs_equal (A B : Option Addr) (c d n m : Nat) (a b : List Rng) (hn : n = a.length) (hm : m = b.length) (v : Bool) (hv : sameL a b = v) (w : World) (ha : kRng.Rd w w.heap.size A c a) (hb : kRng.Rd w w.heap.size B d b) :
    Calls Try.prog 38 #[.slice A n c, .slice B m d] w fun e w' => e = .returned (.bool v) ∧ ∃ q, w' = w.drewN q := by
  have HN := Lib.hid hn
  have HM := Lib.hid hm
  have HA := Lib.hid ha
  have HB := Lib.hid hb
  have hmx : n ≤ 9223372036854775807 := rd_max ha hn
  have hmy : m ≤ 9223372036854775807 := rd_max hb hm
  have hcx : n ≤ c := by rw [hn]; exact ha.room
  have hcy : m ≤ d := by rw [hm]; exact hb.room
  subst hv
  by_cases hnm : n = m
  · subst hnm
    clear hn hm ha hb
    go_enter Try.func38, Try.ntmps38
    go_wp2_with fail
    go_loopw [13] (fun i wr => ∃ k q : Nat, k ≤ n ∧ Hid (sameL a b = sameL (a.drop k) (b.drop k)) ∧ i = .int .i64 k ∧ wr = w.drewN q) (fun i _ => n - (intOf i).toNat)
    case atStart => exact ⟨0, 0, by omega, rfl, rfl, rfl⟩
    case round =>
      obtain ⟨k, q, hk, HL, rfl, rfl⟩ := hrel
      by_cases hlt : k < n
      · obtain ⟨r, hg, hd, -⟩ := get_some (l := a) (k := k) (by have := HN.out; omega)
        obtain ⟨t, hg', hd', -⟩ := get_some (l := b) (k := k) (by have := HM.out; omega)
        obtain ⟨b1, o1, rfl, hb1, hcell1⟩ := rngs_at HA.out (by have := HN.out; omega)
        obtain ⟨b2, o2, rfl, hb2, hcell2⟩ := rngs_at HB.out (by have := HM.out; omega)
        obtain ⟨a0, a1, a2⟩ := hcell1 k r hg
        obtain ⟨c0, c1, c2⟩ := hcell2 k t hg'
        obtain ⟨x, hx⟩ : ∃ x, eqR r t = x := ⟨_, rfl⟩
        have EQ := fun w => eq_rngs r t x hx w
        have HL2 := Lib.hid (HL.out.trans (show sameL (a.drop k) (b.drop k) = (x && sameL (a.drop (k + 1)) (b.drop (k + 1))) by rw [hd, hd', sameL_cons, hx]))
        have hk0 : (0 : Int) ≤ (k : Int) := by omega
        have hkn : (k : Int) < (n : Int) := by omega
        clear hcell1 hcell2 hg hg' hd hd' hx
        cases x
        all_goals
          go_wp2_with fail
          go_quiet (fail)
          go_wp2_with fail
        · go_ret
          exact ⟨ret_bool HL2.out.symm, drewN2 _ _ _⟩
        · go_roundw
          case rel => exact ⟨k + 1, _, by omega, HL2, by go_num, rfl⟩
          case measure => simp [intOf]; omega
      · have HL2 := Lib.hid (HL.out.trans (show sameL (a.drop k) (b.drop k) = true by rw [List.drop_eq_nil_of_le (by have := HN.out; omega), List.drop_eq_nil_of_le (by have := HM.out; omega)]; rfl))
        go_wp2_with fail
        go_ret
        exact ⟨ret_bool HL2.out.symm, _, rfl⟩
  · have HE := Lib.hid (sameL_len (a := a) (b := b) (by omega))
    have hne : ((n : Int) == (m : Int)) = false := beq_eq_false_iff_ne.2 (by omega)
    have hne2 : ((n : Int) != (m : Int)) = true := by rw [bne, hne]; rfl
    clear hn hm ha hb hnm
    go_enter Try.func38, Try.ntmps38
    go_wp2_with fail
    go_ret
    exact ⟨ret_bool HE.out.symm, 0, rfl⟩
end Go.Proofs.Ytgoenmgkhdibnaa
