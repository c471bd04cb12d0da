/-
  The walks of the layer of small numbers: Hold, Log, Middle, and the document's own Hold and Log.
-/
import Derived.Test.YthibjnhhcchlpaaWords
import Derived.Test.YthibjnhhcchlpaaPure
import Derived.Test.YthibjnhhcchlpaaShelf
namespace Go.Proofs.Ythibjnhhcchlpaa
open Go.RowKit

theorem u64_wrap (x : Int) : IntKind.u64.wrap x = x % 18446744073709551616 := by
  simp [IntKind.wrap, IntKind.signed, IntKind.bits]

theorem mid_eq (lo hi : Int) (hl1 : -9223372036854775808 ≤ lo) (hh2 : hi ≤ 9223372036854775807) (h : lo < hi) :
    wrap64 (lo + wrap64 (IntKind.u64.wrap ((IntKind.u64.wrap (IntKind.u64.wrap hi - IntKind.u64.wrap lo)).tdiv 2))) = midV lo hi := by
  have e1 : IntKind.u64.wrap (IntKind.u64.wrap hi - IntKind.u64.wrap lo) = hi - lo := by rw [u64_wrap, u64_wrap, u64_wrap]; omega
  rw [e1, IntWalk.u64_quo _ _ (by omega)]
  unfold midV
  rw [if_neg (by omega)]
  unfold wrap64
  omega

set_option maxHeartbeats 400000 in
theorem nat_hold (n lo hi : Int) (w : World) :
    Calls Try.prog 10 #[.int .i64 n, .int .i64 lo, .int .i64 hi] w fun e w' => e = .returned (.int .i64 (holdV n lo hi)) ∧ w = w' := by
  go_enter Try.func10, Try.ntmps10
  go_wp2
  go_ret
  exact ⟨ret_int (by unfold holdV; omega), rfl⟩

set_option maxHeartbeats 400000 in
theorem ref_hold (n lo hi : Int) (w : World) :
    Calls Try.prog 11 #[.int .i64 n, .int .i64 lo, .int .i64 hi] w fun e w' => e = .returned (.int .i64 (holdV n lo hi)) ∧ w = w' := by
  unfold holdV
  by_cases h1 : hi < lo
  · rw [if_pos (.inl h1)]
    go_enter Try.func11, Try.ntmps11
    go_wp2
    go_ret
    exact ⟨rfl, rfl⟩
  · by_cases h2 : n < lo
    · rw [if_pos (.inr h2)]
      go_enter Try.func11, Try.ntmps11
      go_wp2
      go_ret
      exact ⟨rfl, rfl⟩
    · rw [if_neg (by omega)]
      by_cases h3 : hi < n
      · rw [if_pos h3]
        go_enter Try.func11, Try.ntmps11
        go_wp2
        go_ret
        exact ⟨rfl, rfl⟩
      · rw [if_neg h3]
        go_enter Try.func11, Try.ntmps11
        go_wp2
        go_ret
        exact ⟨rfl, rfl⟩

set_option maxHeartbeats 400000 in
theorem nat_log (n : Int) (hn1 : -9223372036854775808 ≤ n) (hn2 : n ≤ 9223372036854775807) (w : World) :
    Calls Try.prog 14 #[.int .i64 n] w fun e w' => e = .returned (.int .i64 (logV n)) ∧ w = w' := by
  by_cases h : n ≤ 1
  · go_enter Try.func14, Try.ntmps14
    go_wp2
    go_ret
    exact ⟨ret_int (by unfold logV; rw [if_pos h]), rfl⟩
  · go_enter Try.func14, Try.ntmps14
    go_wp2_with (refine (Try.bits_Len _ _ (by omega) (by omega)).mono ?_; rintro e w' ⟨rfl, rfl⟩)
    go_ret
    exact ⟨ret_int (by unfold logV; rw [if_neg (by omega)]; congr 2; omega), rfl⟩

set_option maxHeartbeats 400000 in
theorem nat_middle (lo hi : Int) (hl1 : -9223372036854775808 ≤ lo) (hh2 : hi ≤ 9223372036854775807) (w : World) :
    Calls Try.prog 16 #[.int .i64 lo, .int .i64 hi] w fun e w' => e = .returned (.int .i64 (midV lo hi)) ∧ w = w' := by
  by_cases h : hi ≤ lo
  · go_enter Try.func16, Try.ntmps16
    go_wp2
    go_ret
    exact ⟨ret_int (by unfold midV; rw [if_pos h]), rfl⟩
  · have hm := mid_eq lo hi hl1 hh2 (by omega)
    have HM := Lib.hid hm
    clear hm
    go_enter Try.func16, Try.ntmps16
    go_wp2
    go_ret
    exact ⟨ret_int HM.out, rfl⟩

set_option maxHeartbeats 400000 in
theorem ref_log (n : Int) (hn2 : n ≤ 9223372036854775807) (w : World) :
    Calls Try.prog 15 #[.int .i64 n] w fun e w' => e = .returned (.int .i64 (logV n)) ∧ w = w' := by
  go_enter Try.func15, Try.ntmps15
  go_wp2
  go_loop [3, 4] (fun a b => ∃ (k : Nat) (m : Int), k ≤ 62 ∧ LogInv n k m ∧ a = .int .i64 k ∧ b = .int .i64 m) (fun a _ => 62 - (intOf a).toNat)
  case atStart => exact ⟨0, 1, by omega, LogInv.start n, rfl, rfl⟩
  case round =>
    obtain ⟨k, m, hk, inv, rfl, rfl⟩ := hrel
    have hp := inv.pos
    have h62 : m ≤ 4611686018427387904 := inv.le hk
    by_cases h1 : m < n
    · by_cases h2 : k < 62
      · have h61 : m ≤ 2305843009213693952 := inv.le (j := 61) (by omega)
        have nx := inv.next h1
        go_wp2
        go_round
        case rel => exact ⟨k + 1, 2 * m, by omega, nx, by go_num, rfl⟩
        case measure => simp [intOf]; omega
      · obtain rfl : k = 62 := by omega
        have la := Lib.hid (inv.last h1 hn2)
        go_wp2
        go_ret
        exact ⟨ret_int (by rw [la.out]), rfl⟩
    · have la := Lib.hid (inv.done hk (by omega))
      go_wp2
      go_ret
      exact ⟨ret_int la.out.symm, rfl⟩
end Go.Proofs.Ythibjnhhcchlpaa
