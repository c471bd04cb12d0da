/-
  The laws of layer 8: RangesSets.
-/
import Derived.Test.YtgoenmgkhdibnaaLaw08D
namespace Go.Proofs.Ytgoenmgkhdibnaa
open Go.RowKit

set_option maxHeartbeats 1000000 in
theorem rangesSets_long (HOF : OneC 9 1) (HNO : OneC 19 4) (A : Option Addr) (c n : Nat) (a : List Rng) (hn : n = a.length) (B : Option Addr) (d m : Nat) (b : List Rng) (hm : m = b.length) (s : List UInt8) (h : longL 20 a = true ∨ longL 20 b = true ∨ 300 < s.length) (w : World) (ha : kRng.Rd w w.heap.size A c a) (hb : kRng.Rd w w.heap.size B d b) :
    Calls Try.prog 4 #[.slice A n c, .slice B m d, .string (str s)] w fun e w' => e = .returned (.bool true) ∧ Below w.heap.size w w' := by
  have A0 := fun w => Lib.hid (awake08 HOF HNO w)
  obtain ⟨va, hva⟩ : ∃ v, longL 20 a = v := ⟨_, rfl⟩
  have La := fun w hr => Lib.hid (long_is 20 A c n 20 rfl a hn (by omega) va hva w hr)
  obtain ⟨vb, hvb⟩ : ∃ v, longL 20 b = v := ⟨_, rfl⟩
  have Lb := fun w hr => Lib.hid (long_is 20 B d m 20 rfl b hm (by omega) vb hvb w hr)
  have HZ := Lib.hid (str_size s)
  rw [hva, hvb] at h
  have HA := Lib.hid ha
  have HB := Lib.hid hb
  have HW := Lib.hid (Below.refl w.heap.size w)
  clear HOF HNO hva ha hn hvb hb hm
  cases va
  case' true =>
    clear h
    go_enter Try.func4, Try.ntmps4
    go_wp2_with (first | ((with_reducible refine (A0 _).out.mono ?_); rintro e w9 ⟨rfl, hq⟩; (try replace HA := Lib.hid (HA.out.call hq)); (try replace HB := Lib.hid (HB.out.call hq)); replace HW := Lib.hid (HW.out.trans (hq.mono HW.out.size)); clear hq) | ((with_reducible refine (La _ HA.out).out.mono ?_); rintro e w9 ⟨rfl, rfl⟩) | ((with_reducible refine (Lb _ HB.out).out.mono ?_); rintro e w9 ⟨rfl, rfl⟩))
    go_ret
    exact ⟨rfl, HW.out⟩
  cases vb
  case' true =>
    clear h
    go_enter Try.func4, Try.ntmps4
    go_wp2_with (first | ((with_reducible refine (A0 _).out.mono ?_); rintro e w9 ⟨rfl, hq⟩; (try replace HA := Lib.hid (HA.out.call hq)); (try replace HB := Lib.hid (HB.out.call hq)); replace HW := Lib.hid (HW.out.trans (hq.mono HW.out.size)); clear hq) | ((with_reducible refine (La _ HA.out).out.mono ?_); rintro e w9 ⟨rfl, rfl⟩) | ((with_reducible refine (Lb _ HB.out).out.mono ?_); rintro e w9 ⟨rfl, rfl⟩))
    go_ret
    exact ⟨rfl, HW.out⟩
  have hz : 300 < (str s).size := by rw [HZ.out]; simpa using h
  clear h
  go_enter Try.func4, Try.ntmps4
  go_wp2_with (first | ((with_reducible refine (A0 _).out.mono ?_); rintro e w9 ⟨rfl, hq⟩; (try replace HA := Lib.hid (HA.out.call hq)); (try replace HB := Lib.hid (HB.out.call hq)); replace HW := Lib.hid (HW.out.trans (hq.mono HW.out.size)); clear hq) | ((with_reducible refine (La _ HA.out).out.mono ?_); rintro e w9 ⟨rfl, rfl⟩) | ((with_reducible refine (Lb _ HB.out).out.mono ?_); rintro e w9 ⟨rfl, rfl⟩))
  go_ret
  exact ⟨rfl, HW.out⟩
theorem rangesSets_walk (HOF : OneC 9 1) (HNO : OneC 19 4) (HUN : SetC 16 1) (HME : SetC 17 2) (HLE : SetC 18 3) (A B : Option Addr) (c d n m : Nat) (a b : List Rng) (s : List UInt8) (hn : n = a.length) (hm : m = b.length) (w : World) (ha : kRng.Rd w w.heap.size A c a) (hb : kRng.Rd w w.heap.size B d b) :
    Calls Try.prog 4 #[.slice A n c, .slice B m d, .string (str s)] w fun e w' => e = .returned (.bool true) ∧ Below w.heap.size w w' := by
  cases h1 : longL 20 a with
  | true => exact rangesSets_long HOF HNO A c n a hn B d m b hm s (.inl h1) w ha hb
  | false => cases h2 : longL 20 b with
    | true => exact rangesSets_long HOF HNO A c n a hn B d m b hm s (.inr (.inl h2)) w ha hb
    | false =>
      by_cases hs : s.length ≤ 300
      · exact rangesSets_short HOF HNO HUN HME HLE A B c d n m a b s hn hm hs h1 h2 w ha hb
      · exact rangesSets_long HOF HNO A c n a hn B d m b hm s (.inr (.inr (by omega))) w ha hb
end Go.Proofs.Ytgoenmgkhdibnaa
