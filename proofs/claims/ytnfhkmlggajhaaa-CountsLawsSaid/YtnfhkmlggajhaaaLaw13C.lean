/-
  The laws of layer 13: CountsLaws.
-/
import Derived.Test.YtnfhkmlggajhaaaLaw13B
namespace Go.Proofs.Ytnfhkmlggajhaaa
open Go.RowKit

theorem makeC_back1 (a b : List Rn) : makeC 1 b a = makeC 1 a b := (makeC_unique (makeC_right 1 a b) fun n => by rw [makeC_has, gC1, gC1, Bool.or_comm]).symm
theorem makeC_back2 (a b : List Rn) : makeC 2 b a = makeC 2 a b := (makeC_unique (makeC_right 2 a b) fun n => by rw [makeC_has, gC2, gC2, Bool.and_comm]).symm
theorem makeC_parts (a b : List Rn) : makeC 1 (makeC 3 a b) (makeC 2 a b) = ofC a := (makeC_unique (ofC_right a) fun n => by
  rw [makeC_has, makeC_has, gC1, gC2, gC3, ofC_has]
  cases hasC a n <;> cases hasC b n <;> rfl).symm
theorem makeC_joined (a b : List Rn) : makeC 1 (makeC 3 a b) b = makeC 1 a b := (makeC_unique (makeC_right 1 a b) fun n => by
  rw [makeC_has, makeC_has, gC1, gC1, gC3]
  cases hasC a n <;> cases hasC b n <;> rfl).symm
theorem makeC_apart (a b : List Rn) : makeC 2 (makeC 3 a b) b = [] := (makeC_unique (by rfl) fun n => by
  rw [hasC_nil, makeC_has, gC2, gC3]
  cases hasC a n <;> cases hasC b n <;> rfl).symm
theorem manyC_range (l : List Rn) : 0 ≤ manyC l ∧ manyC l ≤ 1099511627776 := by
  have h1 := many_ok l
  have h2 := base_ok l
  have h3 := most_ok l
  omega
set_option maxRecDepth 100000 in
set_option maxHeartbeats 8000000 in
theorem countsLaws_walk (HOF : COfC 13) (HAD : CAddC 15) (HBA : CNumC 20 baseC) (HMO : CNumC 21 mostC) (HMA : CNumC 22 manyC)
    (HUN : CSetC 16 1) (HME : CSetC 17 2) (HLE : CSetC 18 3)
    (A B : Option Addr) (c d n m : Nat) (a b : List Rn) (hn : n = a.length) (hm : m = b.length) (w : World) (ha : kRn.Rd w w.heap.size A c a) (hb : kRn.Rd w w.heap.size B d b) :
    Calls Try.prog 6 #[.slice A n c, .slice B m d] w fun e w' => e = .returned (.bool true) ∧ Below w.heap.size w w' := by
  have A0 := fun w => Lib.hid (awake13 HAD HBA HMO HMA w)
  have HA := Lib.hid ha
  have HB := Lib.hid hb
  have HW := Lib.hid (Below.refl w.heap.size w)
  have hn9 := rd_maxC ha hn
  have hm9 := rd_maxC hb hm
  by_cases h1 : n ≤ 30
  · have hnd : decide ((30 : Int) < (n : Int)) = false := decide_eq_false (by omega)
    by_cases h2 : m ≤ 30
    · have hmd : decide ((30 : Int) < (m : Int)) = false := decide_eq_false (by omega)
      obtain ⟨U, hU⟩ : ∃ U, makeC 1 a b = U := ⟨_, rfl⟩
      obtain ⟨M, hM⟩ : ∃ U, makeC 2 a b = U := ⟨_, rfl⟩
      obtain ⟨D, hD⟩ : ∃ U, makeC 3 a b = U := ⟨_, rfl⟩
      obtain ⟨O, hO⟩ : ∃ U, ofC a = U := ⟨_, rfl⟩
      obtain ⟨NU, hNU⟩ : ∃ N, U.length = N := ⟨_, rfl⟩
      obtain ⟨NM, hNM⟩ : ∃ N, M.length = N := ⟨_, rfl⟩
      obtain ⟨ND, hND⟩ : ∃ N, D.length = N := ⟨_, rfl⟩
      obtain ⟨NO, hNO⟩ : ∃ N, O.length = N := ⟨_, rfl⟩
      have LU : NU ≤ 200 := by rw [← hNU, ← hU]; have := makeC_len 1 a b; omega
      have LM : NM ≤ 200 := by rw [← hNM, ← hM]; have := makeC_len 2 a b; omega
      have LD : ND ≤ 200 := by rw [← hND, ← hD]; have := makeC_len 3 a b; omega
      have UN := fun w ha hb => Lib.hid (HUN A B c d n m a b hn hm (by omega) (by omega) U hU NU hNU w ha hb)
      have ME := fun w ha hb => Lib.hid (HME A B c d n m a b hn hm (by omega) (by omega) M hM NM hNM w ha hb)
      have LE := fun w ha hb => Lib.hid (HLE A B c d n m a b hn hm (by omega) (by omega) D hD ND hND w ha hb)
      have K1 := fun w hb ha => Lib.hid (HUN B A d c m n b a hm hn (by omega) (by omega) U (by rw [makeC_back1]; exact hU) NU hNU w hb ha)
      have K2 := fun w hb ha => Lib.hid (HME B A d c m n b a hm hn (by omega) (by omega) M (by rw [makeC_back2]; exact hM) NM hNM w hb ha)
      have K3 := fun A1 A2 c1 c2 w h1 h2 => Lib.hid (HUN A1 A2 c1 c2 ND NM D M hND.symm hNM.symm (by omega) (by omega) O (by rw [← hD, ← hM, makeC_parts]; exact hO) NO hNO w h1 h2)
      have K4 := fun w ha => Lib.hid (HOF A c n a hn (by omega) O hO NO hNO w ha)
      have K5 := fun A1 c1 w h1 h2 => Lib.hid (HUN A1 B c1 d ND m D b hND.symm hm (by omega) (by omega) U (by rw [← hD, makeC_joined]; exact hU) NU hNU w h1 h2)
      have K6 := fun A1 c1 w h1 h2 => Lib.hid (HME A1 B c1 d ND m D b hND.symm hm (by omega) (by omega) [] (by rw [← hD, makeC_apart]) 0 rfl w h1 h2)
      have S1 := fun A B c d w ha hb => Lib.hid (csame_is A B c d NU NU U hNU.symm hNU.symm w ha hb)
      have S2 := fun A B c d w ha hb => Lib.hid (csame_is A B c d NM NM M hNM.symm hNM.symm w ha hb)
      have S3 := fun A B c d w ha hb => Lib.hid (csame_is A B c d NO NO O hNO.symm hNO.symm w ha hb)
      obtain ⟨ka, hka⟩ : ∃ k, manyC a = k := ⟨_, rfl⟩
      obtain ⟨kb, hkb⟩ : ∃ k, manyC b = k := ⟨_, rfl⟩
      obtain ⟨km, hkm⟩ : ∃ k, manyC M = k := ⟨_, rfl⟩
      obtain ⟨ma, hma⟩ : ∃ k, mostC a = k := ⟨_, rfl⟩
      obtain ⟨mb, hmb⟩ : ∃ k, mostC b = k := ⟨_, rfl⟩
      have R1 := manyC_range a
      have R2 := manyC_range b
      have R3 := manyC_range M
      have T2 := many_two a b
      rw [hU, hM, hD] at T2
      rw [hka] at R1 T2
      rw [hkb] at R2 T2
      rw [hkm] at R3 T2
      have W1 : IntKind.i64.wrap (ka + kb) = ka + kb := IntWalk.i64_in _ (by omega)
      have W2 : IntKind.i64.wrap (ka + kb - km) = ka + kb - km := IntWalk.i64_in _ (by omega)
      have W3 : IntKind.i64.wrap (ka - km) = ka - km := IntWalk.i64_in _ (by omega)
      have Y1 := fun A c w hr => Lib.hid (HMA A c NU U hNU.symm (by omega) _ T2.1 w hr)
      have Y2 := fun w hr => Lib.hid (HMA A c n a hn (by omega) ka hka w hr)
      have Y3 := fun w hr => Lib.hid (HMA B d m b hm (by omega) kb hkb w hr)
      have Y4 := fun A c w hr => Lib.hid (HMA A c NM M hNM.symm (by omega) km hkm w hr)
      have Y5 := fun A c w hr => Lib.hid (HMA A c ND D hND.symm (by omega) _ T2.2 w hr)
      have Z2 := fun w hr => Lib.hid (HMO A c n a hn (by omega) ma hma w hr)
      have Z3 := fun w hr => Lib.hid (HMO B d m b hm (by omega) mb hmb w hr)
      have T1 := most_two a b
      rw [hU, hma, hmb] at T1
      rcases Int.lt_or_le ma mb with hmx | hmx
      · have Z1 := fun A c w hr => Lib.hid (HMO A c NU U hNU.symm (by omega) mb (by rw [T1]; omega) w hr)
        clear HOF HAD HBA HMO HMA HUN HME HLE hU hM hD hO hNU hNM hND hNO hka hkb hkm hma hmb T1 T2 ha hb hn hm h1 h2
        go_enter Try.func6, Try.ntmps6
        go_wp2_with (first
    | ((with_reducible refine (A0 _).out.mono ?_); rintro e w9 ⟨rfl, hq⟩; (try replace HA := Lib.hid (HA.out.call hq)); (try replace HB := Lib.hid (HB.out.call hq)); (try replace HU := Lib.hid (HU.out.call hq)); (try replace HM := Lib.hid (HM.out.call hq)); (try replace HD := Lib.hid (HD.out.call hq)); (try replace HQ := Lib.hid (HQ.out.call hq)); replace HW := Lib.hid (HW.out.trans (hq.mono HW.out.size));  clear hq)
    | ((with_reducible refine (UN _ HA.out HB.out).out.mono ?_); rintro e w9 ⟨AU, cU, rfl, hrd, hq⟩; (try replace HA := Lib.hid (HA.out.call hq)); (try replace HB := Lib.hid (HB.out.call hq)); (try replace HU := Lib.hid (HU.out.call hq)); (try replace HM := Lib.hid (HM.out.call hq)); (try replace HD := Lib.hid (HD.out.call hq)); (try replace HQ := Lib.hid (HQ.out.call hq)); replace HW := Lib.hid (HW.out.trans (hq.mono HW.out.size)); have HU := Lib.hid hrd; clear hrd hq)
    | ((with_reducible refine (ME _ HA.out HB.out).out.mono ?_); rintro e w9 ⟨AM, cM, rfl, hrd, hq⟩; (try replace HA := Lib.hid (HA.out.call hq)); (try replace HB := Lib.hid (HB.out.call hq)); (try replace HU := Lib.hid (HU.out.call hq)); (try replace HM := Lib.hid (HM.out.call hq)); (try replace HD := Lib.hid (HD.out.call hq)); (try replace HQ := Lib.hid (HQ.out.call hq)); replace HW := Lib.hid (HW.out.trans (hq.mono HW.out.size)); have HM := Lib.hid hrd; clear hrd hq)
    | ((with_reducible refine (LE _ HA.out HB.out).out.mono ?_); rintro e w9 ⟨AD, cD, rfl, hrd, hq⟩; (try replace HA := Lib.hid (HA.out.call hq)); (try replace HB := Lib.hid (HB.out.call hq)); (try replace HU := Lib.hid (HU.out.call hq)); (try replace HM := Lib.hid (HM.out.call hq)); (try replace HD := Lib.hid (HD.out.call hq)); (try replace HQ := Lib.hid (HQ.out.call hq)); replace HW := Lib.hid (HW.out.trans (hq.mono HW.out.size)); have HD := Lib.hid hrd; clear hrd hq)
    | ((with_reducible refine (K1 _ HB.out HA.out).out.mono ?_); rintro e w9 ⟨AQ, cQ, rfl, hrd, hq⟩; (try replace HA := Lib.hid (HA.out.call hq)); (try replace HB := Lib.hid (HB.out.call hq)); (try replace HU := Lib.hid (HU.out.call hq)); (try replace HM := Lib.hid (HM.out.call hq)); (try replace HD := Lib.hid (HD.out.call hq)); (try replace HQ := Lib.hid (HQ.out.call hq)); replace HW := Lib.hid (HW.out.trans (hq.mono HW.out.size)); have HQ := Lib.hid hrd; clear hrd hq)
    | ((with_reducible refine (K2 _ HB.out HA.out).out.mono ?_); rintro e w9 ⟨AQ, cQ, rfl, hrd, hq⟩; (try replace HA := Lib.hid (HA.out.call hq)); (try replace HB := Lib.hid (HB.out.call hq)); (try replace HU := Lib.hid (HU.out.call hq)); (try replace HM := Lib.hid (HM.out.call hq)); (try replace HD := Lib.hid (HD.out.call hq)); (try replace HQ := Lib.hid (HQ.out.call hq)); replace HW := Lib.hid (HW.out.trans (hq.mono HW.out.size)); have HQ := Lib.hid hrd; clear hrd hq)
    | ((with_reducible refine (K3 _ _ _ _ _ HD.out HM.out).out.mono ?_); rintro e w9 ⟨AQ, cQ, rfl, hrd, hq⟩; (try replace HA := Lib.hid (HA.out.call hq)); (try replace HB := Lib.hid (HB.out.call hq)); (try replace HU := Lib.hid (HU.out.call hq)); (try replace HM := Lib.hid (HM.out.call hq)); (try replace HD := Lib.hid (HD.out.call hq)); (try replace HQ := Lib.hid (HQ.out.call hq)); replace HW := Lib.hid (HW.out.trans (hq.mono HW.out.size)); have HQ := Lib.hid hrd; clear hrd hq)
    | ((with_reducible refine (K4 _ HA.out).out.mono ?_); rintro e w9 ⟨AR, cR, rfl, hrd, hq⟩; (try replace HA := Lib.hid (HA.out.call hq)); (try replace HB := Lib.hid (HB.out.call hq)); (try replace HU := Lib.hid (HU.out.call hq)); (try replace HM := Lib.hid (HM.out.call hq)); (try replace HD := Lib.hid (HD.out.call hq)); (try replace HQ := Lib.hid (HQ.out.call hq)); replace HW := Lib.hid (HW.out.trans (hq.mono HW.out.size)); have HR := Lib.hid hrd; clear hrd hq)
    | ((with_reducible refine (K5 _ _ _ HD.out HB.out).out.mono ?_); rintro e w9 ⟨AQ, cQ, rfl, hrd, hq⟩; (try replace HA := Lib.hid (HA.out.call hq)); (try replace HB := Lib.hid (HB.out.call hq)); (try replace HU := Lib.hid (HU.out.call hq)); (try replace HM := Lib.hid (HM.out.call hq)); (try replace HD := Lib.hid (HD.out.call hq)); (try replace HQ := Lib.hid (HQ.out.call hq)); replace HW := Lib.hid (HW.out.trans (hq.mono HW.out.size)); have HQ := Lib.hid hrd; clear hrd hq)
    | ((with_reducible refine (K6 _ _ _ HD.out HB.out).out.mono ?_); rintro e w9 ⟨AR, cR, rfl, hrd, hq⟩; (try replace HA := Lib.hid (HA.out.call hq)); (try replace HB := Lib.hid (HB.out.call hq)); (try replace HU := Lib.hid (HU.out.call hq)); (try replace HM := Lib.hid (HM.out.call hq)); (try replace HD := Lib.hid (HD.out.call hq)); (try replace HQ := Lib.hid (HQ.out.call hq)); replace HW := Lib.hid (HW.out.trans (hq.mono HW.out.size)); have HR := Lib.hid hrd; clear hrd hq)
    | ((with_reducible refine (S1 _ _ _ _ _ HU.out HQ.out).out.mono ?_); rintro e w9 ⟨rfl, hq⟩; (try replace HA := Lib.hid (HA.out.call hq)); (try replace HB := Lib.hid (HB.out.call hq)); (try replace HU := Lib.hid (HU.out.call hq)); (try replace HM := Lib.hid (HM.out.call hq)); (try replace HD := Lib.hid (HD.out.call hq)); (try replace HQ := Lib.hid (HQ.out.call hq)); replace HW := Lib.hid (HW.out.trans (hq.mono HW.out.size));  clear hq)
    | ((with_reducible refine (S1 _ _ _ _ _ HQ.out HU.out).out.mono ?_); rintro e w9 ⟨rfl, hq⟩; (try replace HA := Lib.hid (HA.out.call hq)); (try replace HB := Lib.hid (HB.out.call hq)); (try replace HU := Lib.hid (HU.out.call hq)); (try replace HM := Lib.hid (HM.out.call hq)); (try replace HD := Lib.hid (HD.out.call hq)); (try replace HQ := Lib.hid (HQ.out.call hq)); replace HW := Lib.hid (HW.out.trans (hq.mono HW.out.size));  clear hq)
    | ((with_reducible refine (S2 _ _ _ _ _ HM.out HQ.out).out.mono ?_); rintro e w9 ⟨rfl, hq⟩; (try replace HA := Lib.hid (HA.out.call hq)); (try replace HB := Lib.hid (HB.out.call hq)); (try replace HU := Lib.hid (HU.out.call hq)); (try replace HM := Lib.hid (HM.out.call hq)); (try replace HD := Lib.hid (HD.out.call hq)); (try replace HQ := Lib.hid (HQ.out.call hq)); replace HW := Lib.hid (HW.out.trans (hq.mono HW.out.size));  clear hq)
    | ((with_reducible refine (S3 _ _ _ _ _ HQ.out HR.out).out.mono ?_); rintro e w9 ⟨rfl, hq⟩; (try replace HA := Lib.hid (HA.out.call hq)); (try replace HB := Lib.hid (HB.out.call hq)); (try replace HU := Lib.hid (HU.out.call hq)); (try replace HM := Lib.hid (HM.out.call hq)); (try replace HD := Lib.hid (HD.out.call hq)); (try replace HQ := Lib.hid (HQ.out.call hq)); replace HW := Lib.hid (HW.out.trans (hq.mono HW.out.size));  clear hq)
    | ((with_reducible refine (Y1 _ _ _ HU.out).out.mono ?_); rintro e w9 ⟨rfl, hq⟩; (try replace HA := Lib.hid (HA.out.call hq)); (try replace HB := Lib.hid (HB.out.call hq)); (try replace HU := Lib.hid (HU.out.call hq)); (try replace HM := Lib.hid (HM.out.call hq)); (try replace HD := Lib.hid (HD.out.call hq)); (try replace HQ := Lib.hid (HQ.out.call hq)); replace HW := Lib.hid (HW.out.trans (hq.mono HW.out.size));  clear hq)
    | ((with_reducible refine (Y2 _ HA.out).out.mono ?_); rintro e w9 ⟨rfl, hq⟩; (try replace HA := Lib.hid (HA.out.call hq)); (try replace HB := Lib.hid (HB.out.call hq)); (try replace HU := Lib.hid (HU.out.call hq)); (try replace HM := Lib.hid (HM.out.call hq)); (try replace HD := Lib.hid (HD.out.call hq)); (try replace HQ := Lib.hid (HQ.out.call hq)); replace HW := Lib.hid (HW.out.trans (hq.mono HW.out.size));  clear hq)
    | ((with_reducible refine (Y3 _ HB.out).out.mono ?_); rintro e w9 ⟨rfl, hq⟩; (try replace HA := Lib.hid (HA.out.call hq)); (try replace HB := Lib.hid (HB.out.call hq)); (try replace HU := Lib.hid (HU.out.call hq)); (try replace HM := Lib.hid (HM.out.call hq)); (try replace HD := Lib.hid (HD.out.call hq)); (try replace HQ := Lib.hid (HQ.out.call hq)); replace HW := Lib.hid (HW.out.trans (hq.mono HW.out.size));  clear hq)
    | ((with_reducible refine (Y4 _ _ _ HM.out).out.mono ?_); rintro e w9 ⟨rfl, hq⟩; (try replace HA := Lib.hid (HA.out.call hq)); (try replace HB := Lib.hid (HB.out.call hq)); (try replace HU := Lib.hid (HU.out.call hq)); (try replace HM := Lib.hid (HM.out.call hq)); (try replace HD := Lib.hid (HD.out.call hq)); (try replace HQ := Lib.hid (HQ.out.call hq)); replace HW := Lib.hid (HW.out.trans (hq.mono HW.out.size));  clear hq)
    | ((with_reducible refine (Y5 _ _ _ HD.out).out.mono ?_); rintro e w9 ⟨rfl, hq⟩; (try replace HA := Lib.hid (HA.out.call hq)); (try replace HB := Lib.hid (HB.out.call hq)); (try replace HU := Lib.hid (HU.out.call hq)); (try replace HM := Lib.hid (HM.out.call hq)); (try replace HD := Lib.hid (HD.out.call hq)); (try replace HQ := Lib.hid (HQ.out.call hq)); replace HW := Lib.hid (HW.out.trans (hq.mono HW.out.size));  clear hq)
    | ((with_reducible refine (Z1 _ _ _ HU.out).out.mono ?_); rintro e w9 ⟨rfl, hq⟩; (try replace HA := Lib.hid (HA.out.call hq)); (try replace HB := Lib.hid (HB.out.call hq)); (try replace HU := Lib.hid (HU.out.call hq)); (try replace HM := Lib.hid (HM.out.call hq)); (try replace HD := Lib.hid (HD.out.call hq)); (try replace HQ := Lib.hid (HQ.out.call hq)); replace HW := Lib.hid (HW.out.trans (hq.mono HW.out.size));  clear hq)
    | ((with_reducible refine (Z2 _ HA.out).out.mono ?_); rintro e w9 ⟨rfl, hq⟩; (try replace HA := Lib.hid (HA.out.call hq)); (try replace HB := Lib.hid (HB.out.call hq)); (try replace HU := Lib.hid (HU.out.call hq)); (try replace HM := Lib.hid (HM.out.call hq)); (try replace HD := Lib.hid (HD.out.call hq)); (try replace HQ := Lib.hid (HQ.out.call hq)); replace HW := Lib.hid (HW.out.trans (hq.mono HW.out.size));  clear hq)
    | ((with_reducible refine (Z3 _ HB.out).out.mono ?_); rintro e w9 ⟨rfl, hq⟩; (try replace HA := Lib.hid (HA.out.call hq)); (try replace HB := Lib.hid (HB.out.call hq)); (try replace HU := Lib.hid (HU.out.call hq)); (try replace HM := Lib.hid (HM.out.call hq)); (try replace HD := Lib.hid (HD.out.call hq)); (try replace HQ := Lib.hid (HQ.out.call hq)); replace HW := Lib.hid (HW.out.trans (hq.mono HW.out.size));  clear hq))
        go_ret
        exact ⟨rfl, HW.out⟩
      · have Z1 := fun A c w hr => Lib.hid (HMO A c NU U hNU.symm (by omega) ma (by rw [T1]; omega) w hr)
        have hmx := Int.not_lt.2 hmx
        clear HOF HAD HBA HMO HMA HUN HME HLE hU hM hD hO hNU hNM hND hNO hka hkb hkm hma hmb T1 T2 ha hb hn hm h1 h2
        go_enter Try.func6, Try.ntmps6
        go_wp2_with (first
    | ((with_reducible refine (A0 _).out.mono ?_); rintro e w9 ⟨rfl, hq⟩; (try replace HA := Lib.hid (HA.out.call hq)); (try replace HB := Lib.hid (HB.out.call hq)); (try replace HU := Lib.hid (HU.out.call hq)); (try replace HM := Lib.hid (HM.out.call hq)); (try replace HD := Lib.hid (HD.out.call hq)); (try replace HQ := Lib.hid (HQ.out.call hq)); replace HW := Lib.hid (HW.out.trans (hq.mono HW.out.size));  clear hq)
    | ((with_reducible refine (UN _ HA.out HB.out).out.mono ?_); rintro e w9 ⟨AU, cU, rfl, hrd, hq⟩; (try replace HA := Lib.hid (HA.out.call hq)); (try replace HB := Lib.hid (HB.out.call hq)); (try replace HU := Lib.hid (HU.out.call hq)); (try replace HM := Lib.hid (HM.out.call hq)); (try replace HD := Lib.hid (HD.out.call hq)); (try replace HQ := Lib.hid (HQ.out.call hq)); replace HW := Lib.hid (HW.out.trans (hq.mono HW.out.size)); have HU := Lib.hid hrd; clear hrd hq)
    | ((with_reducible refine (ME _ HA.out HB.out).out.mono ?_); rintro e w9 ⟨AM, cM, rfl, hrd, hq⟩; (try replace HA := Lib.hid (HA.out.call hq)); (try replace HB := Lib.hid (HB.out.call hq)); (try replace HU := Lib.hid (HU.out.call hq)); (try replace HM := Lib.hid (HM.out.call hq)); (try replace HD := Lib.hid (HD.out.call hq)); (try replace HQ := Lib.hid (HQ.out.call hq)); replace HW := Lib.hid (HW.out.trans (hq.mono HW.out.size)); have HM := Lib.hid hrd; clear hrd hq)
    | ((with_reducible refine (LE _ HA.out HB.out).out.mono ?_); rintro e w9 ⟨AD, cD, rfl, hrd, hq⟩; (try replace HA := Lib.hid (HA.out.call hq)); (try replace HB := Lib.hid (HB.out.call hq)); (try replace HU := Lib.hid (HU.out.call hq)); (try replace HM := Lib.hid (HM.out.call hq)); (try replace HD := Lib.hid (HD.out.call hq)); (try replace HQ := Lib.hid (HQ.out.call hq)); replace HW := Lib.hid (HW.out.trans (hq.mono HW.out.size)); have HD := Lib.hid hrd; clear hrd hq)
    | ((with_reducible refine (K1 _ HB.out HA.out).out.mono ?_); rintro e w9 ⟨AQ, cQ, rfl, hrd, hq⟩; (try replace HA := Lib.hid (HA.out.call hq)); (try replace HB := Lib.hid (HB.out.call hq)); (try replace HU := Lib.hid (HU.out.call hq)); (try replace HM := Lib.hid (HM.out.call hq)); (try replace HD := Lib.hid (HD.out.call hq)); (try replace HQ := Lib.hid (HQ.out.call hq)); replace HW := Lib.hid (HW.out.trans (hq.mono HW.out.size)); have HQ := Lib.hid hrd; clear hrd hq)
    | ((with_reducible refine (K2 _ HB.out HA.out).out.mono ?_); rintro e w9 ⟨AQ, cQ, rfl, hrd, hq⟩; (try replace HA := Lib.hid (HA.out.call hq)); (try replace HB := Lib.hid (HB.out.call hq)); (try replace HU := Lib.hid (HU.out.call hq)); (try replace HM := Lib.hid (HM.out.call hq)); (try replace HD := Lib.hid (HD.out.call hq)); (try replace HQ := Lib.hid (HQ.out.call hq)); replace HW := Lib.hid (HW.out.trans (hq.mono HW.out.size)); have HQ := Lib.hid hrd; clear hrd hq)
    | ((with_reducible refine (K3 _ _ _ _ _ HD.out HM.out).out.mono ?_); rintro e w9 ⟨AQ, cQ, rfl, hrd, hq⟩; (try replace HA := Lib.hid (HA.out.call hq)); (try replace HB := Lib.hid (HB.out.call hq)); (try replace HU := Lib.hid (HU.out.call hq)); (try replace HM := Lib.hid (HM.out.call hq)); (try replace HD := Lib.hid (HD.out.call hq)); (try replace HQ := Lib.hid (HQ.out.call hq)); replace HW := Lib.hid (HW.out.trans (hq.mono HW.out.size)); have HQ := Lib.hid hrd; clear hrd hq)
    | ((with_reducible refine (K4 _ HA.out).out.mono ?_); rintro e w9 ⟨AR, cR, rfl, hrd, hq⟩; (try replace HA := Lib.hid (HA.out.call hq)); (try replace HB := Lib.hid (HB.out.call hq)); (try replace HU := Lib.hid (HU.out.call hq)); (try replace HM := Lib.hid (HM.out.call hq)); (try replace HD := Lib.hid (HD.out.call hq)); (try replace HQ := Lib.hid (HQ.out.call hq)); replace HW := Lib.hid (HW.out.trans (hq.mono HW.out.size)); have HR := Lib.hid hrd; clear hrd hq)
    | ((with_reducible refine (K5 _ _ _ HD.out HB.out).out.mono ?_); rintro e w9 ⟨AQ, cQ, rfl, hrd, hq⟩; (try replace HA := Lib.hid (HA.out.call hq)); (try replace HB := Lib.hid (HB.out.call hq)); (try replace HU := Lib.hid (HU.out.call hq)); (try replace HM := Lib.hid (HM.out.call hq)); (try replace HD := Lib.hid (HD.out.call hq)); (try replace HQ := Lib.hid (HQ.out.call hq)); replace HW := Lib.hid (HW.out.trans (hq.mono HW.out.size)); have HQ := Lib.hid hrd; clear hrd hq)
    | ((with_reducible refine (K6 _ _ _ HD.out HB.out).out.mono ?_); rintro e w9 ⟨AR, cR, rfl, hrd, hq⟩; (try replace HA := Lib.hid (HA.out.call hq)); (try replace HB := Lib.hid (HB.out.call hq)); (try replace HU := Lib.hid (HU.out.call hq)); (try replace HM := Lib.hid (HM.out.call hq)); (try replace HD := Lib.hid (HD.out.call hq)); (try replace HQ := Lib.hid (HQ.out.call hq)); replace HW := Lib.hid (HW.out.trans (hq.mono HW.out.size)); have HR := Lib.hid hrd; clear hrd hq)
    | ((with_reducible refine (S1 _ _ _ _ _ HU.out HQ.out).out.mono ?_); rintro e w9 ⟨rfl, hq⟩; (try replace HA := Lib.hid (HA.out.call hq)); (try replace HB := Lib.hid (HB.out.call hq)); (try replace HU := Lib.hid (HU.out.call hq)); (try replace HM := Lib.hid (HM.out.call hq)); (try replace HD := Lib.hid (HD.out.call hq)); (try replace HQ := Lib.hid (HQ.out.call hq)); replace HW := Lib.hid (HW.out.trans (hq.mono HW.out.size));  clear hq)
    | ((with_reducible refine (S1 _ _ _ _ _ HQ.out HU.out).out.mono ?_); rintro e w9 ⟨rfl, hq⟩; (try replace HA := Lib.hid (HA.out.call hq)); (try replace HB := Lib.hid (HB.out.call hq)); (try replace HU := Lib.hid (HU.out.call hq)); (try replace HM := Lib.hid (HM.out.call hq)); (try replace HD := Lib.hid (HD.out.call hq)); (try replace HQ := Lib.hid (HQ.out.call hq)); replace HW := Lib.hid (HW.out.trans (hq.mono HW.out.size));  clear hq)
    | ((with_reducible refine (S2 _ _ _ _ _ HM.out HQ.out).out.mono ?_); rintro e w9 ⟨rfl, hq⟩; (try replace HA := Lib.hid (HA.out.call hq)); (try replace HB := Lib.hid (HB.out.call hq)); (try replace HU := Lib.hid (HU.out.call hq)); (try replace HM := Lib.hid (HM.out.call hq)); (try replace HD := Lib.hid (HD.out.call hq)); (try replace HQ := Lib.hid (HQ.out.call hq)); replace HW := Lib.hid (HW.out.trans (hq.mono HW.out.size));  clear hq)
    | ((with_reducible refine (S3 _ _ _ _ _ HQ.out HR.out).out.mono ?_); rintro e w9 ⟨rfl, hq⟩; (try replace HA := Lib.hid (HA.out.call hq)); (try replace HB := Lib.hid (HB.out.call hq)); (try replace HU := Lib.hid (HU.out.call hq)); (try replace HM := Lib.hid (HM.out.call hq)); (try replace HD := Lib.hid (HD.out.call hq)); (try replace HQ := Lib.hid (HQ.out.call hq)); replace HW := Lib.hid (HW.out.trans (hq.mono HW.out.size));  clear hq)
    | ((with_reducible refine (Y1 _ _ _ HU.out).out.mono ?_); rintro e w9 ⟨rfl, hq⟩; (try replace HA := Lib.hid (HA.out.call hq)); (try replace HB := Lib.hid (HB.out.call hq)); (try replace HU := Lib.hid (HU.out.call hq)); (try replace HM := Lib.hid (HM.out.call hq)); (try replace HD := Lib.hid (HD.out.call hq)); (try replace HQ := Lib.hid (HQ.out.call hq)); replace HW := Lib.hid (HW.out.trans (hq.mono HW.out.size));  clear hq)
    | ((with_reducible refine (Y2 _ HA.out).out.mono ?_); rintro e w9 ⟨rfl, hq⟩; (try replace HA := Lib.hid (HA.out.call hq)); (try replace HB := Lib.hid (HB.out.call hq)); (try replace HU := Lib.hid (HU.out.call hq)); (try replace HM := Lib.hid (HM.out.call hq)); (try replace HD := Lib.hid (HD.out.call hq)); (try replace HQ := Lib.hid (HQ.out.call hq)); replace HW := Lib.hid (HW.out.trans (hq.mono HW.out.size));  clear hq)
    | ((with_reducible refine (Y3 _ HB.out).out.mono ?_); rintro e w9 ⟨rfl, hq⟩; (try replace HA := Lib.hid (HA.out.call hq)); (try replace HB := Lib.hid (HB.out.call hq)); (try replace HU := Lib.hid (HU.out.call hq)); (try replace HM := Lib.hid (HM.out.call hq)); (try replace HD := Lib.hid (HD.out.call hq)); (try replace HQ := Lib.hid (HQ.out.call hq)); replace HW := Lib.hid (HW.out.trans (hq.mono HW.out.size));  clear hq)
    | ((with_reducible refine (Y4 _ _ _ HM.out).out.mono ?_); rintro e w9 ⟨rfl, hq⟩; (try replace HA := Lib.hid (HA.out.call hq)); (try replace HB := Lib.hid (HB.out.call hq)); (try replace HU := Lib.hid (HU.out.call hq)); (try replace HM := Lib.hid (HM.out.call hq)); (try replace HD := Lib.hid (HD.out.call hq)); (try replace HQ := Lib.hid (HQ.out.call hq)); replace HW := Lib.hid (HW.out.trans (hq.mono HW.out.size));  clear hq)
    | ((with_reducible refine (Y5 _ _ _ HD.out).out.mono ?_); rintro e w9 ⟨rfl, hq⟩; (try replace HA := Lib.hid (HA.out.call hq)); (try replace HB := Lib.hid (HB.out.call hq)); (try replace HU := Lib.hid (HU.out.call hq)); (try replace HM := Lib.hid (HM.out.call hq)); (try replace HD := Lib.hid (HD.out.call hq)); (try replace HQ := Lib.hid (HQ.out.call hq)); replace HW := Lib.hid (HW.out.trans (hq.mono HW.out.size));  clear hq)
    | ((with_reducible refine (Z1 _ _ _ HU.out).out.mono ?_); rintro e w9 ⟨rfl, hq⟩; (try replace HA := Lib.hid (HA.out.call hq)); (try replace HB := Lib.hid (HB.out.call hq)); (try replace HU := Lib.hid (HU.out.call hq)); (try replace HM := Lib.hid (HM.out.call hq)); (try replace HD := Lib.hid (HD.out.call hq)); (try replace HQ := Lib.hid (HQ.out.call hq)); replace HW := Lib.hid (HW.out.trans (hq.mono HW.out.size));  clear hq)
    | ((with_reducible refine (Z2 _ HA.out).out.mono ?_); rintro e w9 ⟨rfl, hq⟩; (try replace HA := Lib.hid (HA.out.call hq)); (try replace HB := Lib.hid (HB.out.call hq)); (try replace HU := Lib.hid (HU.out.call hq)); (try replace HM := Lib.hid (HM.out.call hq)); (try replace HD := Lib.hid (HD.out.call hq)); (try replace HQ := Lib.hid (HQ.out.call hq)); replace HW := Lib.hid (HW.out.trans (hq.mono HW.out.size));  clear hq)
    | ((with_reducible refine (Z3 _ HB.out).out.mono ?_); rintro e w9 ⟨rfl, hq⟩; (try replace HA := Lib.hid (HA.out.call hq)); (try replace HB := Lib.hid (HB.out.call hq)); (try replace HU := Lib.hid (HU.out.call hq)); (try replace HM := Lib.hid (HM.out.call hq)); (try replace HD := Lib.hid (HD.out.call hq)); (try replace HQ := Lib.hid (HQ.out.call hq)); replace HW := Lib.hid (HW.out.trans (hq.mono HW.out.size));  clear hq))
        go_ret
        exact ⟨rfl, HW.out⟩
    · have hmd : decide ((30 : Int) < (m : Int)) = true := decide_eq_true (by omega)
      clear HOF HAD HBA HMO HMA HUN HME HLE ha hb hn hm
      go_enter Try.func6, Try.ntmps6
      go_wp2_with (first
    | ((with_reducible refine (A0 _).out.mono ?_); rintro e w9 ⟨rfl, hq⟩; (try replace HA := Lib.hid (HA.out.call hq)); (try replace HB := Lib.hid (HB.out.call hq)); (try replace HU := Lib.hid (HU.out.call hq)); (try replace HM := Lib.hid (HM.out.call hq)); (try replace HD := Lib.hid (HD.out.call hq)); (try replace HQ := Lib.hid (HQ.out.call hq)); replace HW := Lib.hid (HW.out.trans (hq.mono HW.out.size));  clear hq))
      go_ret
      exact ⟨rfl, HW.out⟩
  · have hnd : decide ((30 : Int) < (n : Int)) = true := decide_eq_true (by omega)
    clear HOF HAD HBA HMO HMA HUN HME HLE ha hb hn hm
    go_enter Try.func6, Try.ntmps6
    go_wp2_with (first
    | ((with_reducible refine (A0 _).out.mono ?_); rintro e w9 ⟨rfl, hq⟩; (try replace HA := Lib.hid (HA.out.call hq)); (try replace HB := Lib.hid (HB.out.call hq)); (try replace HU := Lib.hid (HU.out.call hq)); (try replace HM := Lib.hid (HM.out.call hq)); (try replace HD := Lib.hid (HD.out.call hq)); (try replace HQ := Lib.hid (HQ.out.call hq)); replace HW := Lib.hid (HW.out.trans (hq.mono HW.out.size));  clear hq))
    go_ret
    exact ⟨rfl, HW.out⟩
end Go.Proofs.Ytnfhkmlggajhaaa
