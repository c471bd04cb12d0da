/-
  The walks of the first layer's laws.
-/
import Derived.Test.YthibjnhhcchlpaaNatC
namespace Go.Proofs.Ythibjnhhcchlpaa
open Go.RowKit

theorem quiet_eq {P : Program} {f : FuncId} {args : Array Value} {w : World} {n : Nat} {v : Value}
    (h : Calls P f args (w.drewN n) fun e w' => e = .returned v ∧ w.drewN n = w') : Calls P f args (w.drewN n) fun e w'' => e = .returned v ∧ ∃ m, w'' = w.drewN m :=
  h.mono fun _ _ ⟨he, hm⟩ => ⟨he, n, hm.symm⟩

theorem logV_bounds (n : Int) (h : 1 < n) (h2 : n ≤ 9223372036854775807) : 1 ≤ logV n ∧ logV n ≤ 64 := by
  unfold logV
  rw [if_neg (by omega)]
  have e64 : (2 ^ 64 : Nat) = 18446744073709551616 := by decide
  have h3 := Lib.bitLen_le (n - 1).toNat 64 (by omega) (by omega)
  have h4 := Lib.bitLen_half (n - 1).toNat (by omega) (by omega)
  omega

set_option maxHeartbeats 400000 in
theorem natLogs_walk (n : Int) (h1 : -9223372036854775808 ≤ n) (h2 : n ≤ 9223372036854775807) (w : World) :
    Calls Try.prog 5 #[.int .i64 n] w fun e w' => e = .returned (.bool true) ∧ Below w.heap.size w w' := by
  by_cases h : n ≤ 1
  · have hv : logV n = 0 := by unfold logV; rw [if_pos h]
    have c1 := fun w => nat_log n h1 h2 w
    have c2 := fun w => ref_log n h2 w
    rw [hv] at c1 c2
    clear hv
    go_enter Try.func5, Try.ntmps5
    go_wp2_with fail
    refine (awake01 _).mono ?_; rintro e w1 ⟨rfl, hb⟩
    go_wp2_with fail
    refine (c1 _).mono ?_; rintro e w' ⟨rfl, rfl⟩
    go_wp2_with fail
    refine (c2 _).mono ?_; rintro e w' ⟨rfl, rfl⟩
    go_wp2_with fail
    go_ret
    exact ⟨rfl, hb⟩
  · have hv := logV_half n (by omega) h2
    have hk := logV_bounds n (by omega) h2
    have c1 := fun w => nat_log n h1 h2 w
    have c2 := fun w => ref_log n h2 w
    have c3 := fun w => nat_log (n - n / 2) (by omega) (by omega) w
    rw [hv] at c3
    obtain ⟨k, hk'⟩ : ∃ k, logV n = k := ⟨_, rfl⟩
    rw [hk'] at c1 c2 c3 hk
    clear hv hk'
    go_enter Try.func5, Try.ntmps5
    go_wp2_with fail
    refine (awake01 _).mono ?_; rintro e w1 ⟨rfl, hb⟩
    go_wp2_with fail
    refine (c1 _).mono ?_; rintro e w' ⟨rfl, rfl⟩
    go_wp2_with fail
    refine (c2 _).mono ?_; rintro e w' ⟨rfl, rfl⟩
    go_wp2_with fail
    refine (c3 _).mono ?_; rintro e w' ⟨rfl, rfl⟩
    go_wp2
    go_ret
    exact ⟨rfl, hb⟩

set_option maxHeartbeats 400000 in
theorem natMiddle_walk (lo hi : Int) (hl1 : -9223372036854775808 ≤ lo) (hl2 : lo ≤ 9223372036854775807) (hh1 : -9223372036854775808 ≤ hi) (hh2 : hi ≤ 9223372036854775807) (w : World) :
    Calls Try.prog 6 #[.int .i64 lo, .int .i64 hi] w fun e w' => e = .returned (.bool true) ∧ Below w.heap.size w w' := by
  by_cases h : hi ≤ lo
  · have hv : midV lo hi = lo := by unfold midV; rw [if_pos h]
    have c1 := fun w => nat_middle lo hi hl1 hh2 w
    rw [hv] at c1
    clear hv
    go_enter Try.func6, Try.ntmps6
    go_wp2_with fail
    refine (awake01 _).mono ?_; rintro e w1 ⟨rfl, hb⟩
    go_wp2_with fail
    refine (c1 _).mono ?_; rintro e w' ⟨rfl, rfl⟩
    go_wp2
    go_ret
    exact ⟨rfl, hb⟩
  · have hm : midV lo hi = lo + (hi - lo) / 2 := by unfold midV; rw [if_neg h]
    have c1 := fun w => nat_middle lo hi hl1 hh2 w
    obtain ⟨m, hmm⟩ : ∃ m, midV lo hi = m := ⟨_, rfl⟩
    rw [hmm] at c1 hm
    have m1 : lo ≤ m := by omega
    have m2 : m < hi := by omega
    have ea : IntKind.u64.wrap (IntKind.u64.wrap m - IntKind.u64.wrap lo) = m - lo := by rw [u64_wrap, u64_wrap, u64_wrap]; omega
    have eb : IntKind.u64.wrap (IntKind.u64.wrap hi - IntKind.u64.wrap m) = hi - m := by rw [u64_wrap, u64_wrap, u64_wrap]; omega
    have hd : m - lo = hi - m ∨ m - lo + 1 = hi - m := by omega
    clear hm hmm
    go_enter Try.func6, Try.ntmps6
    go_wp2_with fail
    refine (awake01 _).mono ?_; rintro e w1 ⟨rfl, hb⟩
    go_wp2_with fail
    refine (c1 _).mono ?_; rintro e w' ⟨rfl, rfl⟩
    go_wp2
    all_goals go_ret
    all_goals first | exact ⟨rfl, hb⟩ | exact ⟨ret_bool (by simp; omega), hb⟩

set_option maxHeartbeats 400000 in
theorem natSums_walk (most : Int) (h1 : -9223372036854775808 ≤ most) (h2 : most ≤ 9223372036854775807) (A : Option Addr) (c : Nat) (l : List Int) (w : World)
    (hr : RowAt w w.heap.size A (ints l)) (hall : AllI64 l) (hn : l.length ≤ maxLen) :
    Calls Try.prog 4 #[.int .i64 most, .slice A l.length c] w fun e w' => e = .returned (.bool true) ∧ Below w.heap.size w w' := by
  unfold maxLen at hn
  by_cases h : l.length ≤ 200
  · have c1 := fun (w1 : World) (hb : Below w.heap.size w w1) => nat_sum most h1 h2 A l.length c _ l w1 rfl (hr.below hb) hall hn
    have c2 := fun (w1 : World) (hb : Below w.heap.size w w1) => ref_sum most h1 h2 A l.length c _ l w1 rfl (hr.below hb) hall hn
    obtain ⟨a, b, hab⟩ : ∃ a b, sumV most l = (a, b) := ⟨_, _, rfl⟩
    rw [hab] at c1 c2
    clear hab
    go_enter Try.func4, Try.ntmps4
    go_wp2_with fail
    refine (awake01 _).mono ?_; rintro e w1 ⟨rfl, hb⟩
    go_wp2_with fail
    refine (c1 _ hb).mono ?_; rintro e w' ⟨rfl, rfl⟩
    go_wp2_with fail
    refine (c2 _ hb).mono ?_; rintro e w' ⟨rfl, rfl⟩
    go_wp2
    go_ret
    exact ⟨rfl, hb⟩
  · go_enter Try.func4, Try.ntmps4
    go_wp2_with fail
    refine (awake01 _).mono ?_; rintro e w1 ⟨rfl, hb⟩
    go_wp2
    go_ret
    exact ⟨rfl, hb⟩

/-- What the law's loop keeps: whether one of those before is the least. -/
def isAt (m : Int) (l : List Int) (k : Nat) : Bool := (l.take k).contains m || l.isEmpty
theorem isAt_next (m : Int) (l : List Int) (k : Nat) (h : k < l.length) : isAt m l (k + 1) = (isAt m l k || l.getD k 0 == m) := by
  unfold isAt
  rw [List.take_succ_eq_append_getElem h]
  have e : l.getD k 0 = l[k] := by simp [List.getD, List.getElem?_eq_getElem h]
  rw [e, Bool.eq_iff_iff]
  simp only [List.contains_eq_mem, List.mem_append, List.mem_singleton, Bool.or_eq_true, decide_eq_true_eq, beq_iff_eq]
  constructor
  · rintro ((h | h) | h)
    · exact .inl (.inl h)
    · exact .inr h.symm
    · exact .inl (.inr h)
  · rintro ((h | h) | h)
    · exact .inl (.inl h)
    · exact .inr h
    · exact .inl (.inr h.symm)
theorem isAt_all (l : List Int) : isAt (leastV l) l l.length = true := by
  unfold isAt
  rw [List.take_length]
  cases l with
  | nil => rfl
  | cons x r => simp only [Bool.or_eq_true, List.contains_eq_mem, decide_eq_true_eq]; exact .inl (leastV_mem _ (by simp))
theorem isAt_zero (m : Int) (l : List Int) : isAt m l 0 = l.isEmpty := by unfold isAt; simp

/-- What the loop's head knows: b says whether one of the first k is m. -/
def IsInv (m : Int) (l : List Int) (k : Nat) (b : Bool) : Prop := b = isAt m l k

set_option maxHeartbeats 400000 in
theorem natHolds_none (n lo hi : Int) (A : Option Addr) (c : Nat) (w : World) :
    Calls Try.prog 3 #[.int .i64 n, .agg #[.int .i64 lo, .int .i64 hi], .slice A 0 c] w fun e w' => e = .returned (.bool true) ∧ Below w.heap.size w w' := by
  go_enter Try.func3, Try.ntmps3
  go_wp2_with fail
  refine (awake01 _).mono ?_; rintro e w1 ⟨rfl, hb⟩
  have k0 := hb.cell (p := ⟨w.heap.size, 0, none⟩) (by simp)
  have k1 := hb.cell (p := ⟨w.heap.size, 1, none⟩) (by simp)
  rw [World.cell?_alloc_new] at k0 k1
  have hbw : Below w.heap.size w w1 := ((Below.refl _ _).alloc (Nat.le_refl _) _).trans (hb.mono (by simp))
  go_wp2_with fail
  refine (show Calls _ _ _ _ (fun e w' => e = .returned (.int .i64 0) ∧ w1 = w') from nat_least_none A c w1).mono ?_; rintro e w' ⟨rfl, rfl⟩
  go_wp2
  go_loop [8, 9] (fun a b => a = .bool true ∧ b = .int .i64 0) (fun _ _ => 0)
  case atStart => exact ⟨rfl, rfl⟩
  case round =>
    obtain ⟨rfl, rfl⟩ := hrel
    go_wp2
    go_quiet ((first | (go_at_call 10; exact quiet_eq (nat_hold n lo hi _)) | (go_at_call 11; exact quiet_eq (ref_hold n lo hi _))))
    go_wp2
    go_ret
    exact ⟨rfl, below_drewN hbw _⟩

set_option maxHeartbeats 400000 in
theorem natHolds_some (n lo hi : Int) (b o c : Nat) (l : List Int) (w : World) (hpos : 0 < l.length) (hlt : b < w.heap.size)
    (hr : ∀ k, k < l.length → w.cell? ⟨b, o + k, none⟩ = some (.int .i64 (l.getD k 0))) (hall : AllI64 l) (hn : l.length ≤ 200) (hc : l.length ≤ c) :
    Calls Try.prog 3 #[.int .i64 n, .agg #[.int .i64 lo, .int .i64 hi], .slice (some ⟨b, o, none⟩) l.length c] w fun e w' => e = .returned (.bool true) ∧ Below w.heap.size w w' := by
  have hnz : ((l.length : Int) == 0) = false := by simp; intro h; subst h; simp at hpos
  have hle := fun k (hk : k < l.length) => leastV_le l (l.getD k 0) (by simp [List.getD, List.getElem?_eq_getElem hk])
  have hend := isAt_all l
  have c1 := fun (w1 : World) hcell => nat_least_some b o c l w1 hpos hcell hall (by omega) hc
  obtain ⟨m, hm⟩ : ∃ m, leastV l = m := ⟨_, rfl⟩
  rw [hm] at hle hend c1
  clear hm
  have HC := Lib.hid hr
  have HL := Lib.hid hle
  have HE := Lib.hid hend
  clear hr hle hend
  have hst : IsInv m l 0 false := by unfold IsInv; rw [isAt_zero]; cases l with | nil => simp at hpos | cons _ _ => rfl
  go_enter Try.func3, Try.ntmps3
  go_wp2_with fail
  refine (awake01 _).mono ?_; rintro e w1 ⟨rfl, hb⟩
  have k0 := hb.cell (p := ⟨w.heap.size, 0, none⟩) (by simp)
  have k1 := hb.cell (p := ⟨w.heap.size, 1, none⟩) (by simp)
  rw [World.cell?_alloc_new] at k0 k1
  have hbw : Below w.heap.size w w1 := ((Below.refl _ _).alloc (Nat.le_refl _) _).trans (hb.mono (by simp))
  have HC1 := Lib.hid (fun k (hk : k < l.length) => (hbw.cell (p := ⟨b, o + k, none⟩) hlt).trans (HC.out k hk))
  clear HC
  go_wp2_with fail
  refine (c1 _ HC1.out).mono ?_; rintro e w' ⟨rfl, rfl⟩
  go_wp2
  go_loop [8, 9] (fun a b => ∃ (k : Nat) (d : Bool), k ≤ l.length ∧ IsInv m l k d ∧ a = .bool d ∧ b = .int .i64 k) (fun _ b => l.length - (intOf b).toNat)
  case atStart => exact ⟨0, false, by omega, hst, rfl, rfl⟩
  case round =>
    obtain ⟨k, d, hk, inv, rfl, rfl⟩ := hrel
    by_cases hk1 : k < l.length
    · have hcell := HC1.out k hk1
      have hge := HL.out k hk1
      have nx : IsInv m l (k + 1) (d || l.getD k 0 == m) := by unfold IsInv at inv ⊢; rw [isAt_next m l k hk1, inv]
      obtain ⟨x, hx⟩ : ∃ x, l.getD k 0 = x := ⟨_, rfl⟩
      rw [hx] at hcell hge nx
      clear hx inv
      cases d with
      | true =>
        go_wp2
        go_round
        case rel => exact ⟨k + 1, true, by omega, nx, rfl, by go_num⟩
        case measure => simp [intOf]; omega
      | false =>
        go_wp2
        go_round
        case rel => exact ⟨k + 1, _, by omega, nx, by simp, by go_num⟩
        case measure => simp [intOf]; omega
    · obtain rfl : k = l.length := by omega
      obtain rfl : d = true := by unfold IsInv at inv; rw [inv]; exact HE.out
      go_wp2
      go_quiet ((first | (go_at_call 10; exact quiet_eq (nat_hold n lo hi _)) | (go_at_call 11; exact quiet_eq (ref_hold n lo hi _))))
      go_wp2
      go_ret
      exact ⟨rfl, below_drewN hbw _⟩

set_option maxHeartbeats 400000 in
theorem natHolds_walk (n lo hi : Int) (A : Option Addr) (c : Nat) (l : List Int) (w : World)
    (hr : RowAt w w.heap.size A (ints l)) (hall : AllI64 l) (hn : l.length ≤ maxLen) (hc : l.length ≤ c) :
    Calls Try.prog 3 #[.int .i64 n, .agg #[.int .i64 lo, .int .i64 hi], .slice A l.length c] w fun e w' => e = .returned (.bool true) ∧ Below w.heap.size w w' := by
  by_cases h : l.length ≤ 200
  · rcases Nat.eq_zero_or_pos l.length with h0 | h0
    · rw [h0]
      exact natHolds_none n lo hi A c w
    · obtain ⟨b, o, rfl, hlt, hcell⟩ := hr.ints_at h0
      exact natHolds_some n lo hi b o c l w h0 hlt hcell hall h hc
  · unfold maxLen at hn
    go_enter Try.func3, Try.ntmps3
    go_wp2_with fail
    refine (awake01 _).mono ?_; rintro e w1 ⟨rfl, hb⟩
    go_wp2
    go_ret
    exact ⟨rfl, ((Below.refl _ _).alloc (Nat.le_refl _) _).trans (hb.mono (by simp))⟩
end Go.Proofs.Ythibjnhhcchlpaa
