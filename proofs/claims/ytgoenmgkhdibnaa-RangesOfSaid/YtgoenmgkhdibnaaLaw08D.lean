/-
  The laws of layer 8: RangesOf.
-/
import Derived.Test.YtgoenmgkhdibnaaLaw08C
namespace Go.Proofs.Ytgoenmgkhdibnaa
open Go.RowKit

theorem same_n (A B : Option Addr) (c d n m : Nat) (a b : List Rng) (hn : n = a.length) (hm : m = b.length) (v : Bool) (hv : sameL a b = v) (w : World) (ha : kRng.Rd w w.heap.size A c a) (hb : kRng.Rd w w.heap.size B d b) :
    Calls Try.prog 14 #[.slice A n c, .slice B m d] w fun e w' => e = .returned (.bool v) ∧ Below w.heap.size w w' := by
  subst hn hm; exact same_is A B c d a b v hv w ha hb
set_option maxHeartbeats 1000000 in
theorem rangesOf_long (HOF : OneC 9 1) (HNO : OneC 19 4) (A : Option Addr) (c n : Nat) (a : List Rng) (s : List UInt8) (hn : n = a.length) (h : longL 30 a = true ∨ 300 < s.length) (w : World) (ha : kRng.Rd w w.heap.size A c a) :
    Calls Try.prog 3 #[.slice A n c, .string (str s)] w fun e w' => e = .returned (.bool true) ∧ Below w.heap.size w w' := by
  have A0 := fun w => Lib.hid (awake08 HOF HNO w)
  obtain ⟨v, hv⟩ : ∃ v, longL 30 a = v := ⟨_, rfl⟩
  have L1 := fun w hr => Lib.hid (long_is 30 A c n 30 rfl a hn (by omega) v hv w hr)
  have HZ := Lib.hid (str_size s)
  rw [hv] at h
  have HA := Lib.hid ha
  have HW := Lib.hid (Below.refl w.heap.size w)
  clear HOF HNO hv ha hn
  cases v
  · have hz : 300 < (str s).size := by rw [HZ.out]; rcases h with h | h; cases h; exact h
    clear h
    go_enter Try.func3, Try.ntmps3
    go_wp2_with (first | ((with_reducible refine (A0 _).out.mono ?_); rintro e w9 ⟨rfl, hq⟩; (try replace HA := Lib.hid (HA.out.call hq)); replace HW := Lib.hid (HW.out.trans (hq.mono HW.out.size)); clear hq) | ((with_reducible refine (L1 _ HA.out).out.mono ?_); rintro e w9 ⟨rfl, rfl⟩))
    go_ret
    exact ⟨rfl, HW.out⟩
  · clear h
    go_enter Try.func3, Try.ntmps3
    go_wp2_with (first | ((with_reducible refine (A0 _).out.mono ?_); rintro e w9 ⟨rfl, hq⟩; (try replace HA := Lib.hid (HA.out.call hq)); replace HW := Lib.hid (HW.out.trans (hq.mono HW.out.size)); clear hq) | ((with_reducible refine (L1 _ HA.out).out.mono ?_); rintro e w9 ⟨rfl, rfl⟩))
    go_ret
    exact ⟨rfl, HW.out⟩
end Go.Proofs.Ytgoenmgkhdibnaa
