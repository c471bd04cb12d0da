/-
  The laws of layer 8: RangesOf.
-/
import Derived.Test.YtgoenmgkhdibnaaLaw08C
namespace Go.Proofs.Ytgoenmgkhdibnaa
open Go.RowKit

theorem same_n (A B : Option Addr) (c d n m : Nat) (a b : List Rng) (hn : n = a.length) (hm : m = b.length) (v : Bool) (hv : sameL a b = v) (w : World) (ha : kRng.Rd w w.heap.size A c a) (hb : kRng.Rd w w.heap.size B d b) :
    Calls Try.prog 14 #[.slice A n c, .slice B m d] w fun e w' => e = .returned (.bool v) ∧ Below w.heap.size w w' := by
  subst hn hm; exact same_is A B c d a b v hv w ha hb
set_option maxHeartbeats 4000000 in
theorem rangesOf_short (HOF : OneC 9 1) (HNO : OneC 19 4) (HRI : RightC 10) (HHA : HasC 12)
    (A : Option Addr) (c n : Nat) (a : List Rng) (s : List UInt8) (hn : n = a.length) (hs : s.length ≤ 300) (h1 : longL 30 a = false) (w : World) (ha : kRng.Rd w w.heap.size A c a) :
    Calls Try.prog 3 #[.slice A n c, .string (str s)] w fun e w' => e = .returned (.bool true) ∧ Below w.heap.size w w' := by
  have A0 := fun w => Lib.hid (awake08 HOF HNO w)
  have L1 := fun w hr => Lib.hid (long_is 30 A c n 30 rfl a hn (by omega) false h1 w hr)
  have sa := (longL_small h1).mono (show 30 ≤ 400 by omega)
  have hz : (str s).size ≤ 300 := by rw [str_size]; exact hs
  obtain ⟨O, hO⟩ : ∃ U, makeV 1 a [] = U := ⟨_, rfl⟩
  have sO := (makeV_small 1 (longL_small h1) (smallL_nil 0)).mono (show 2 * (30 + 0) + 2 ≤ 400 by omega)
  rw [hO] at sO
  have OF := fun w ha => Lib.hid (one_is HOF A c n a O hO hn sa w ha)
  have RO := fun w ha => Lib.hid (ref_lof A c n a O hO hn sa w ha)
  obtain ⟨v, hv⟩ : ∃ v, rightL a = v := ⟨_, rfl⟩
  have R1 := fun w ha => Lib.hid (HRI A c n a hn sa v hv w ha)
  have R2 := fun w ha => Lib.hid (ref_lright A c n a hn (fun r hr => Nat.le_trans (sa.2 r hr).2 (by decide)) v hv w ha)
  have R3 := fun A c w ha => Lib.hid (HRI A c _ O rfl sO true (by rw [← hO]; exact makeV_right _ _ _) w ha)
  obtain ⟨x, hx⟩ : ∃ x, hasL a s = x := ⟨_, rfl⟩
  have X1 := fun w ha => Lib.hid (HHA A c n a s hn sa (by omega) x hx w ha)
  have X2 := fun w ha => Lib.hid (ref_lhas A c n a s _ hn rfl (by omega) x hx w ha)
  have S1 := fun A B c d w ha hb => Lib.hid (same_is A B c d O O true (sameL_self O) w ha hb)
  have S2 := fun (h : v = true) A1 c1 w ha hb => Lib.hid (same_n A1 A c1 c _ n O a rfl hn true (by rw [← hO, ← normV, normV_right (hv.trans h)]; exact sameL_self a) w ha hb)
  have HA := Lib.hid ha
  have HW := Lib.hid (Below.refl w.heap.size w)
  clear HOF HNO HRI HHA hO hv hx sa sO ha h1 hn hs
  cases v
  case' true => replace S2 := S2 rfl
  all_goals
    go_enter Try.func3, Try.ntmps3
    go_wp2_with (first
          | ((with_reducible refine (A0 _).out.mono ?_); rintro e w9 ⟨rfl, hq⟩; (try replace HA := Lib.hid (HA.out.call hq)); (try replace HO := Lib.hid (HO.out.call hq)); (try replace HQ := Lib.hid (HQ.out.call hq)); replace HW := Lib.hid (HW.out.trans (hq.mono HW.out.size)); clear hq)
          | ((with_reducible refine (L1 _ HA.out).out.mono ?_); rintro e w9 ⟨rfl, rfl⟩)
          | ((with_reducible refine (OF _ HA.out).out.mono ?_); rintro e w9 ⟨AO, cO, rfl, hrd, hq⟩; (try replace HA := Lib.hid (HA.out.call hq)); (try replace HO := Lib.hid (HO.out.call hq)); (try replace HQ := Lib.hid (HQ.out.call hq)); replace HW := Lib.hid (HW.out.trans (hq.mono HW.out.size)); have HO := Lib.hid hrd; clear hrd hq)
          | ((with_reducible refine (R1 _ HA.out).out.mono ?_); rintro e w9 ⟨rfl, hq⟩; (try replace HA := Lib.hid (HA.out.call hq)); (try replace HO := Lib.hid (HO.out.call hq)); (try replace HQ := Lib.hid (HQ.out.call hq)); replace HW := Lib.hid (HW.out.trans (hq.mono HW.out.size)); clear hq)
          | ((with_reducible refine (R2 _ HA.out).out.mono ?_); rintro e w9 ⟨rfl, hq⟩; (try replace HA := Lib.hid (HA.out.call hq)); (try replace HO := Lib.hid (HO.out.call hq)); (try replace HQ := Lib.hid (HQ.out.call hq)); replace HW := Lib.hid (HW.out.trans (hq.mono HW.out.size)); clear hq)
          | ((with_reducible refine (X1 _ HA.out).out.mono ?_); rintro e w9 ⟨rfl, hq⟩; (try replace HA := Lib.hid (HA.out.call hq)); (try replace HO := Lib.hid (HO.out.call hq)); (try replace HQ := Lib.hid (HQ.out.call hq)); replace HW := Lib.hid (HW.out.trans (hq.mono HW.out.size)); clear hq)
          | ((with_reducible refine (X2 _ HA.out).out.mono ?_); rintro e w9 ⟨rfl, hq⟩; (try replace HA := Lib.hid (HA.out.call hq)); (try replace HO := Lib.hid (HO.out.call hq)); (try replace HQ := Lib.hid (HQ.out.call hq)); replace HW := Lib.hid (HW.out.trans (hq.mono HW.out.size)); clear hq)
          | ((with_reducible refine (RO _ HA.out).out.mono ?_); rintro e w9 ⟨AQ, cQ, rfl, hrd, hq⟩; (try replace HA := Lib.hid (HA.out.call hq)); (try replace HO := Lib.hid (HO.out.call hq)); (try replace HQ := Lib.hid (HQ.out.call hq)); replace HW := Lib.hid (HW.out.trans (hq.mono HW.out.size)); have HQ := Lib.hid hrd; clear hrd hq)
          | ((with_reducible refine (S1 _ _ _ _ _ HO.out HQ.out).out.mono ?_); rintro e w9 ⟨rfl, hq⟩; (try replace HA := Lib.hid (HA.out.call hq)); (try replace HO := Lib.hid (HO.out.call hq)); (try replace HQ := Lib.hid (HQ.out.call hq)); replace HW := Lib.hid (HW.out.trans (hq.mono HW.out.size)); clear hq)
          | ((with_reducible refine (R3 _ _ _ HO.out).out.mono ?_); rintro e w9 ⟨rfl, hq⟩; (try replace HA := Lib.hid (HA.out.call hq)); (try replace HO := Lib.hid (HO.out.call hq)); (try replace HQ := Lib.hid (HQ.out.call hq)); replace HW := Lib.hid (HW.out.trans (hq.mono HW.out.size)); clear hq)
          | ((with_reducible refine (S2 _ _ _ HO.out HA.out).out.mono ?_); rintro e w9 ⟨rfl, hq⟩; (try replace HA := Lib.hid (HA.out.call hq)); (try replace HO := Lib.hid (HO.out.call hq)); (try replace HQ := Lib.hid (HQ.out.call hq)); replace HW := Lib.hid (HW.out.trans (hq.mono HW.out.size)); clear hq))
    go_ret
    exact ⟨rfl, HW.out⟩
set_option maxHeartbeats 1000000 in
theorem rangesOf_long (HOF : OneC 9 1) (HNO : OneC 19 4) (A : Option Addr) (c n : Nat) (a : List Rng) (s : List UInt8) (hn : n = a.length) (h : longL 30 a = true ∨ 300 < s.length) (w : World) (ha : kRng.Rd w w.heap.size A c a) :
    Calls Try.prog 3 #[.slice A n c, .string (str s)] w fun e w' => e = .returned (.bool true) ∧ Below w.heap.size w w' := by
  have A0 := fun w => Lib.hid (awake08 HOF HNO w)
  obtain ⟨v, hv⟩ : ∃ v, longL 30 a = v := ⟨_, rfl⟩
  have L1 := fun w hr => Lib.hid (long_is 30 A c n 30 rfl a hn (by omega) v hv w hr)
  have HZ := Lib.hid (str_size s)
  rw [hv] at h
  have HA := Lib.hid ha
  have HW := Lib.hid (Below.refl w.heap.size w)
  clear HOF HNO hv ha hn
  cases v
  · have hz : 300 < (str s).size := by rw [HZ.out]; rcases h with h | h; cases h; exact h
    clear h
    go_enter Try.func3, Try.ntmps3
    go_wp2_with (first | ((with_reducible refine (A0 _).out.mono ?_); rintro e w9 ⟨rfl, hq⟩; (try replace HA := Lib.hid (HA.out.call hq)); replace HW := Lib.hid (HW.out.trans (hq.mono HW.out.size)); clear hq) | ((with_reducible refine (L1 _ HA.out).out.mono ?_); rintro e w9 ⟨rfl, rfl⟩))
    go_ret
    exact ⟨rfl, HW.out⟩
  · clear h
    go_enter Try.func3, Try.ntmps3
    go_wp2_with (first | ((with_reducible refine (A0 _).out.mono ?_); rintro e w9 ⟨rfl, hq⟩; (try replace HA := Lib.hid (HA.out.call hq)); replace HW := Lib.hid (HW.out.trans (hq.mono HW.out.size)); clear hq) | ((with_reducible refine (L1 _ HA.out).out.mono ?_); rintro e w9 ⟨rfl, rfl⟩))
    go_ret
    exact ⟨rfl, HW.out⟩
theorem rangesOf_walk (HOF : OneC 9 1) (HNO : OneC 19 4) (HRI : RightC 10) (HHA : HasC 12) (A : Option Addr) (c n : Nat) (a : List Rng) (s : List UInt8) (hn : n = a.length) (w : World) (ha : kRng.Rd w w.heap.size A c a) :
    Calls Try.prog 3 #[.slice A n c, .string (str s)] w fun e w' => e = .returned (.bool true) ∧ Below w.heap.size w w' := by
  cases h1 : longL 30 a with
  | true => exact rangesOf_long HOF HNO A c n a s hn (.inl h1) w ha
  | false =>
    by_cases hs : s.length ≤ 300
    · exact rangesOf_short HOF HNO HRI HHA A c n a s hn hs h1 w ha
    · exact rangesOf_long HOF HNO A c n a s hn (.inr (by omega)) w ha
end Go.Proofs.Ytgoenmgkhdibnaa
