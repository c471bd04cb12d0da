/-
  Layer 5 (word): which bytes stand as they are, digits, what begins a word.
-/
import Derived.Test.YtkdepcfnipihhaaDoorBytes
import Derived.Test.YtkdepcfnipihhaaDoorWordPure
import Derived.Outline
namespace Go.Proofs.YtkdepcfnipihhaaDoor
open Go.RowKit

theorem plainB_nat (c : UInt8) : plainB c = (decide (97 ≤ (c.toNat : Int)) && decide ((c.toNat : Int) ≤ 122) || decide (48 ≤ (c.toNat : Int)) && decide ((c.toNat : Int) ≤ 57)) := by
  unfold plainB
  rw [Bool.eq_iff_iff]
  simp only [Bool.or_eq_true, Bool.and_eq_true, decide_eq_true_eq]
  omega
theorem plain_yes {c : UInt8} (h : (97 ≤ (c.toNat : Int) ∧ (c.toNat : Int) ≤ 122) ∨ (48 ≤ (c.toNat : Int) ∧ (c.toNat : Int) ≤ 57)) : true = plainB c := by
  rw [plainB_nat, eq_comm]
  simpa using h
theorem plain_no {c : UInt8} (h : ¬ ((97 ≤ (c.toNat : Int) ∧ (c.toNat : Int) ≤ 122) ∨ (48 ≤ (c.toNat : Int) ∧ (c.toNat : Int) ≤ 57))) : false = plainB c := by
  rw [plainB_nat, eq_comm]
  simpa using h
theorem plain_dec {c : UInt8} (h : 97 ≤ (c.toNat : Int)) (_ : 48 ≤ (c.toNat : Int)) : (decide ((c.toNat : Int) ≤ 122) || decide ((c.toNat : Int) ≤ 57)) = plainB c := by
  rw [plainB_nat, Bool.eq_iff_iff]
  simp only [Bool.or_eq_true, Bool.and_eq_true, decide_eq_true_eq]
  omega
theorem plain_dec' {c : UInt8} (h' : 48 ≤ (c.toNat : Int)) (h : (c.toNat : Int) < 97) : decide ((c.toNat : Int) ≤ 57) = plainB c := by
  rw [plainB_nat, Bool.eq_iff_iff]
  simp only [Bool.or_eq_true, Bool.and_eq_true, decide_eq_true_eq]
  omega
theorem wrd_plain (c : UInt8) (w : World) : Calls Tryd.prog 17 #[.int .u8 (c.toNat : Int)] w fun e w' => e = .returned (.bool (plainB c)) ∧ w = w' := by
  go_enter Tryd.func17, Tryd.ntmps17
  go_wp2
  all_goals
    go_ret
    exact ⟨ret_bool (by first | exact plain_yes (by omega) | exact plain_no (by omega) | exact plain_dec ‹_› ‹_› | exact plain_dec' ‹_› ‹_›), rfl⟩
theorem rwd_plain (c : UInt8) (w : World) : Calls Tryd.prog 18 #[.int .u8 (c.toNat : Int)] w fun e w' => e = .returned (.bool (plainB c)) ∧ w = w' := by
  go_enter Tryd.func18, Tryd.ntmps18
  go_wp2
  all_goals
    go_ret
    exact ⟨ret_bool (by first | exact plain_yes (by omega) | exact plain_no (by omega) | exact plain_dec ‹_› ‹_› | exact plain_dec' ‹_› ‹_›), rfl⟩
theorem hexD_nat : ∀ n, n < 16 → ((hexD n).toNat : Int) = if n < 10 then 48 + (n : Int) else 87 + (n : Int) := by decide +kernel
theorem rwd_hex (n : Nat) (hn : n < 16) (w : World) : Calls Tryd.prog 19 #[.int .i64 (n : Int)] w fun e w' => e = .returned (.int .u8 ((hexD n).toNat : Int)) ∧ w = w' := by
  have H := Lib.hid (hexD_nat n hn)
  go_enter Tryd.func19, Tryd.ntmps19
  go_wp2
  all_goals
    go_ret
    refine ⟨ret_int ?_, rfl⟩
    rw [H.out]
    first | rw [if_pos (by omega)] | rw [if_neg (by omega)]
end Go.Proofs.YtkdepcfnipihhaaDoor
