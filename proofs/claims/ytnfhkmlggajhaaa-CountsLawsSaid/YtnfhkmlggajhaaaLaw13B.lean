/-
  The laws of layer 13: CountsSets.
-/
import Derived.Test.YtnfhkmlggajhaaaLaw13A
import Derived.Deep.DeepCutAuto
namespace Go.Proofs.Ytnfhkmlggajhaaa
open Go.RowKit

set_option maxRecDepth 100000 in
set_option maxHeartbeats 8000000 in
theorem countsSets_walk (HAD : CAddC 15) (HBA : CNumC 20 baseC) (HMO : CNumC 21 mostC) (HMA : CNumC 22 manyC)
    (HUN : CSetC 16 1) (HME : CSetC 17 2) (HLE : CSetC 18 3)
    (A B : Option Addr) (c d n m : Nat) (a b : List Rn) (s : Int) (hn : n = a.length) (hm : m = b.length) (w : World) (ha : kRn.Rd w w.heap.size A c a) (hb : kRn.Rd w w.heap.size B d b) :
    Calls Try.prog 4 #[.slice A n c, .slice B m d, .int .i64 s] w fun e w' => e = .returned (.bool true) ∧ Below w.heap.size w w' := by
  have A0 := fun w => Lib.hid (awake13 HAD HBA HMO HMA w)
  have HA := Lib.hid ha
  have HB := Lib.hid hb
  have HW := Lib.hid (Below.refl w.heap.size w)
  have hn9 := rd_maxC ha hn
  have hm9 := rd_maxC hb hm
  by_cases h1 : n ≤ 40
  · have hnd : decide ((40 : Int) < (n : Int)) = false := decide_eq_false (by omega)
    by_cases h2 : m ≤ 40
    · have hmd : decide ((40 : Int) < (m : Int)) = false := decide_eq_false (by omega)
      obtain ⟨U, hU⟩ : ∃ U, makeC 1 a b = U := ⟨_, rfl⟩
      obtain ⟨M, hM⟩ : ∃ U, makeC 2 a b = U := ⟨_, rfl⟩
      obtain ⟨D, hD⟩ : ∃ U, makeC 3 a b = U := ⟨_, rfl⟩
      obtain ⟨NU, hNU⟩ : ∃ N, U.length = N := ⟨_, rfl⟩
      obtain ⟨NM, hNM⟩ : ∃ N, M.length = N := ⟨_, rfl⟩
      obtain ⟨ND, hND⟩ : ∃ N, D.length = N := ⟨_, rfl⟩
      have UN := fun w ha hb => Lib.hid (HUN A B c d n m a b hn hm (by omega) (by omega) U hU NU hNU w ha hb)
      have ME := fun w ha hb => Lib.hid (HME A B c d n m a b hn hm (by omega) (by omega) M hM NM hNM w ha hb)
      have LE := fun w ha hb => Lib.hid (HLE A B c d n m a b hn hm (by omega) (by omega) D hD ND hND w ha hb)
      have K1 := fun w ha hb => Lib.hid (ref_cmake 1 A B c d n m a b hn hm (by omega) (by omega) U hU NU hNU w ha hb)
      have K2 := fun w ha hb => Lib.hid (ref_cmake 2 A B c d n m a b hn hm (by omega) (by omega) M hM NM hNM w ha hb)
      have K3 := fun w ha hb => Lib.hid (ref_cmake 3 A B c d n m a b hn hm (by omega) (by omega) D hD ND hND w ha hb)
      have S1 := fun A B c d w ha hb => Lib.hid (csame_is A B c d NU NU U hNU.symm hNU.symm w ha hb)
      have S2 := fun A B c d w ha hb => Lib.hid (csame_is A B c d NM NM M hNM.symm hNM.symm w ha hb)
      have S3 := fun A B c d w ha hb => Lib.hid (csame_is A B c d ND ND D hND.symm hND.symm w ha hb)
      obtain ⟨x, hx⟩ : ∃ x, hasC a s = x := ⟨_, rfl⟩
      obtain ⟨y, hy⟩ : ∃ y, hasC b s = y := ⟨_, rfl⟩
      have X1 := fun w hr => Lib.hid (ref_chas A c n a s hn x hx w hr)
      have X2 := fun w hr => Lib.hid (ref_chas B d m b s hm y hy w hr)
      have X3 := fun A c w hr => Lib.hid (ref_chas A c NU U s hNU.symm (x || y) (by rw [← hU, makeC_has, hx, hy, gC1]) w hr)
      have X4 := fun A c w hr => Lib.hid (ref_chas A c NM M s hNM.symm (x && y) (by rw [← hM, makeC_has, hx, hy, gC2]) w hr)
      have X5 := fun A c w hr => Lib.hid (ref_chas A c ND D s hND.symm (x && !y) (by rw [← hD, makeC_has, hx, hy, gC3]) w hr)
      clear HAD HBA HMO HMA HUN HME HLE hU hM hD hNU hNM hND hx hy ha hb hn hm h1 h2
      cases x <;> cases y
      all_goals
        go_enter Try.func4, Try.ntmps4
        go_wp2_with (first
    | ((with_reducible refine (A0 _).out.mono ?_); rintro e w9 ⟨rfl, hq⟩; (try replace HA := Lib.hid (HA.out.call hq)); (try replace HB := Lib.hid (HB.out.call hq)); (try replace HU := Lib.hid (HU.out.call hq)); (try replace HM := Lib.hid (HM.out.call hq)); (try replace HD := Lib.hid (HD.out.call hq)); (try replace HQ := Lib.hid (HQ.out.call hq)); replace HW := Lib.hid (HW.out.trans (hq.mono HW.out.size));  clear hq)
    | ((with_reducible refine (UN _ HA.out HB.out).out.mono ?_); rintro e w9 ⟨AU, cU, rfl, hrd, hq⟩; (try replace HA := Lib.hid (HA.out.call hq)); (try replace HB := Lib.hid (HB.out.call hq)); (try replace HU := Lib.hid (HU.out.call hq)); (try replace HM := Lib.hid (HM.out.call hq)); (try replace HD := Lib.hid (HD.out.call hq)); (try replace HQ := Lib.hid (HQ.out.call hq)); replace HW := Lib.hid (HW.out.trans (hq.mono HW.out.size)); have HU := Lib.hid hrd; clear hrd hq)
    | ((with_reducible refine (ME _ HA.out HB.out).out.mono ?_); rintro e w9 ⟨AM, cM, rfl, hrd, hq⟩; (try replace HA := Lib.hid (HA.out.call hq)); (try replace HB := Lib.hid (HB.out.call hq)); (try replace HU := Lib.hid (HU.out.call hq)); (try replace HM := Lib.hid (HM.out.call hq)); (try replace HD := Lib.hid (HD.out.call hq)); (try replace HQ := Lib.hid (HQ.out.call hq)); replace HW := Lib.hid (HW.out.trans (hq.mono HW.out.size)); have HM := Lib.hid hrd; clear hrd hq)
    | ((with_reducible refine (LE _ HA.out HB.out).out.mono ?_); rintro e w9 ⟨AD, cD, rfl, hrd, hq⟩; (try replace HA := Lib.hid (HA.out.call hq)); (try replace HB := Lib.hid (HB.out.call hq)); (try replace HU := Lib.hid (HU.out.call hq)); (try replace HM := Lib.hid (HM.out.call hq)); (try replace HD := Lib.hid (HD.out.call hq)); (try replace HQ := Lib.hid (HQ.out.call hq)); replace HW := Lib.hid (HW.out.trans (hq.mono HW.out.size)); have HD := Lib.hid hrd; clear hrd hq)
    | ((with_reducible refine (K1 _ HA.out HB.out).out.mono ?_); rintro e w9 ⟨AQ, cQ, rfl, hrd, hq⟩; (try replace HA := Lib.hid (HA.out.call hq)); (try replace HB := Lib.hid (HB.out.call hq)); (try replace HU := Lib.hid (HU.out.call hq)); (try replace HM := Lib.hid (HM.out.call hq)); (try replace HD := Lib.hid (HD.out.call hq)); (try replace HQ := Lib.hid (HQ.out.call hq)); replace HW := Lib.hid (HW.out.trans (hq.mono HW.out.size)); have HQ := Lib.hid hrd; clear hrd hq)
    | ((with_reducible refine (K2 _ HA.out HB.out).out.mono ?_); rintro e w9 ⟨AQ, cQ, rfl, hrd, hq⟩; (try replace HA := Lib.hid (HA.out.call hq)); (try replace HB := Lib.hid (HB.out.call hq)); (try replace HU := Lib.hid (HU.out.call hq)); (try replace HM := Lib.hid (HM.out.call hq)); (try replace HD := Lib.hid (HD.out.call hq)); (try replace HQ := Lib.hid (HQ.out.call hq)); replace HW := Lib.hid (HW.out.trans (hq.mono HW.out.size)); have HQ := Lib.hid hrd; clear hrd hq)
    | ((with_reducible refine (K3 _ HA.out HB.out).out.mono ?_); rintro e w9 ⟨AQ, cQ, rfl, hrd, hq⟩; (try replace HA := Lib.hid (HA.out.call hq)); (try replace HB := Lib.hid (HB.out.call hq)); (try replace HU := Lib.hid (HU.out.call hq)); (try replace HM := Lib.hid (HM.out.call hq)); (try replace HD := Lib.hid (HD.out.call hq)); (try replace HQ := Lib.hid (HQ.out.call hq)); replace HW := Lib.hid (HW.out.trans (hq.mono HW.out.size)); have HQ := Lib.hid hrd; clear hrd hq)
    | ((with_reducible refine (S1 _ _ _ _ _ HU.out HQ.out).out.mono ?_); rintro e w9 ⟨rfl, hq⟩; (try replace HA := Lib.hid (HA.out.call hq)); (try replace HB := Lib.hid (HB.out.call hq)); (try replace HU := Lib.hid (HU.out.call hq)); (try replace HM := Lib.hid (HM.out.call hq)); (try replace HD := Lib.hid (HD.out.call hq)); (try replace HQ := Lib.hid (HQ.out.call hq)); replace HW := Lib.hid (HW.out.trans (hq.mono HW.out.size));  clear hq)
    | ((with_reducible refine (S2 _ _ _ _ _ HM.out HQ.out).out.mono ?_); rintro e w9 ⟨rfl, hq⟩; (try replace HA := Lib.hid (HA.out.call hq)); (try replace HB := Lib.hid (HB.out.call hq)); (try replace HU := Lib.hid (HU.out.call hq)); (try replace HM := Lib.hid (HM.out.call hq)); (try replace HD := Lib.hid (HD.out.call hq)); (try replace HQ := Lib.hid (HQ.out.call hq)); replace HW := Lib.hid (HW.out.trans (hq.mono HW.out.size));  clear hq)
    | ((with_reducible refine (S3 _ _ _ _ _ HD.out HQ.out).out.mono ?_); rintro e w9 ⟨rfl, hq⟩; (try replace HA := Lib.hid (HA.out.call hq)); (try replace HB := Lib.hid (HB.out.call hq)); (try replace HU := Lib.hid (HU.out.call hq)); (try replace HM := Lib.hid (HM.out.call hq)); (try replace HD := Lib.hid (HD.out.call hq)); (try replace HQ := Lib.hid (HQ.out.call hq)); replace HW := Lib.hid (HW.out.trans (hq.mono HW.out.size));  clear hq)
    | ((with_reducible refine (X1 _ HA.out).out.mono ?_); rintro e w9 ⟨rfl, hq⟩; (try replace HA := Lib.hid (HA.out.call hq)); (try replace HB := Lib.hid (HB.out.call hq)); (try replace HU := Lib.hid (HU.out.call hq)); (try replace HM := Lib.hid (HM.out.call hq)); (try replace HD := Lib.hid (HD.out.call hq)); (try replace HQ := Lib.hid (HQ.out.call hq)); replace HW := Lib.hid (HW.out.trans (hq.mono HW.out.size));  clear hq)
    | ((with_reducible refine (X2 _ HB.out).out.mono ?_); rintro e w9 ⟨rfl, hq⟩; (try replace HA := Lib.hid (HA.out.call hq)); (try replace HB := Lib.hid (HB.out.call hq)); (try replace HU := Lib.hid (HU.out.call hq)); (try replace HM := Lib.hid (HM.out.call hq)); (try replace HD := Lib.hid (HD.out.call hq)); (try replace HQ := Lib.hid (HQ.out.call hq)); replace HW := Lib.hid (HW.out.trans (hq.mono HW.out.size));  clear hq)
    | ((with_reducible refine (X3 _ _ _ HU.out).out.mono ?_); rintro e w9 ⟨rfl, hq⟩; (try replace HA := Lib.hid (HA.out.call hq)); (try replace HB := Lib.hid (HB.out.call hq)); (try replace HU := Lib.hid (HU.out.call hq)); (try replace HM := Lib.hid (HM.out.call hq)); (try replace HD := Lib.hid (HD.out.call hq)); (try replace HQ := Lib.hid (HQ.out.call hq)); replace HW := Lib.hid (HW.out.trans (hq.mono HW.out.size));  clear hq)
    | ((with_reducible refine (X4 _ _ _ HM.out).out.mono ?_); rintro e w9 ⟨rfl, hq⟩; (try replace HA := Lib.hid (HA.out.call hq)); (try replace HB := Lib.hid (HB.out.call hq)); (try replace HU := Lib.hid (HU.out.call hq)); (try replace HM := Lib.hid (HM.out.call hq)); (try replace HD := Lib.hid (HD.out.call hq)); (try replace HQ := Lib.hid (HQ.out.call hq)); replace HW := Lib.hid (HW.out.trans (hq.mono HW.out.size));  clear hq)
    | ((with_reducible refine (X5 _ _ _ HD.out).out.mono ?_); rintro e w9 ⟨rfl, hq⟩; (try replace HA := Lib.hid (HA.out.call hq)); (try replace HB := Lib.hid (HB.out.call hq)); (try replace HU := Lib.hid (HU.out.call hq)); (try replace HM := Lib.hid (HM.out.call hq)); (try replace HD := Lib.hid (HD.out.call hq)); (try replace HQ := Lib.hid (HQ.out.call hq)); replace HW := Lib.hid (HW.out.trans (hq.mono HW.out.size));  clear hq))
        go_ret
        exact ⟨rfl, HW.out⟩
    · have hmd : decide ((40 : Int) < (m : Int)) = true := decide_eq_true (by omega)
      clear HAD HBA HMO HMA HUN HME HLE ha hb hn hm
      go_enter Try.func4, Try.ntmps4
      go_wp2_with (first
    | ((with_reducible refine (A0 _).out.mono ?_); rintro e w9 ⟨rfl, hq⟩; (try replace HA := Lib.hid (HA.out.call hq)); (try replace HB := Lib.hid (HB.out.call hq)); (try replace HU := Lib.hid (HU.out.call hq)); (try replace HM := Lib.hid (HM.out.call hq)); (try replace HD := Lib.hid (HD.out.call hq)); (try replace HQ := Lib.hid (HQ.out.call hq)); replace HW := Lib.hid (HW.out.trans (hq.mono HW.out.size));  clear hq))
      go_ret
      exact ⟨rfl, HW.out⟩
  · have hnd : decide ((40 : Int) < (n : Int)) = true := decide_eq_true (by omega)
    clear HAD HBA HMO HMA HUN HME HLE ha hb hn hm
    go_enter Try.func4, Try.ntmps4
    go_wp2_with (first
    | ((with_reducible refine (A0 _).out.mono ?_); rintro e w9 ⟨rfl, hq⟩; (try replace HA := Lib.hid (HA.out.call hq)); (try replace HB := Lib.hid (HB.out.call hq)); (try replace HU := Lib.hid (HU.out.call hq)); (try replace HM := Lib.hid (HM.out.call hq)); (try replace HD := Lib.hid (HD.out.call hq)); (try replace HQ := Lib.hid (HQ.out.call hq)); replace HW := Lib.hid (HW.out.trans (hq.mono HW.out.size));  clear hq))
    go_ret
    exact ⟨rfl, HW.out⟩
end Go.Proofs.Ytnfhkmlggajhaaa
