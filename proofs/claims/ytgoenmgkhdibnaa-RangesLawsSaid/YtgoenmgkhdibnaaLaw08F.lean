/-
  The laws of layer 8: RangesSame.
-/
import Derived.Test.YtgoenmgkhdibnaaLaw08E
namespace Go.Proofs.Ytgoenmgkhdibnaa
open Go.RowKit

theorem tell_is {F : FuncId} {f : List Rng → List Rng → Bool} (h : TellC F f) (A B : Option Addr) (c d n m : Nat) (a b : List Rng) (hn : n = a.length) (hm : m = b.length) (ha' : SmallL 400 a) (hb' : SmallL 400 b) (v : Bool) (hv : f a b = v) (w : World) (ha : kRng.Rd w w.heap.size A c a) (hb : kRng.Rd w w.heap.size B d b) :
    Calls Try.prog F #[.slice A n c, .slice B m d] w fun e w' => e = .returned (.bool v) ∧ Below w.heap.size w w' := h A B c d n m a b hn hm ha' hb' v hv w ha hb
theorem sameL_sameV (a b : List Rng) : sameL (makeV 1 a []) (makeV 1 b []) = sameV a b := by
  rw [Bool.eq_iff_iff, sameL_iff]; unfold sameV normV; rw [decide_eq_true_eq]
theorem within_len (a b : List Rng) : (((makeV 3 a b).length : Int) == 0) = withinV a b := by
  unfold withinV
  cases makeV 3 a b with
  | nil => rfl
  | cons x l => rw [beq_eq_false_iff_ne.2 (by simp; omega)]; rfl
set_option maxHeartbeats 4000000 in
theorem rangesSame_short (HOF : OneC 9 1) (HNO : OneC 19 4) (HUN : SetC 16 1) (HME : SetC 17 2) (HLE : SetC 18 3) (HSA : TellC 21 sameV) (HWI : TellC 22 withinV)
    (A B : Option Addr) (c d n m : Nat) (a b : List Rng) (hn : n = a.length) (hm : m = b.length) (h1 : longL 20 a = false) (h2 : longL 20 b = false) (w : World) (ha : kRng.Rd w w.heap.size A c a) (hb : kRng.Rd w w.heap.size B d b) :
    Calls Try.prog 5 #[.slice A n c, .slice B m d] w fun e w' => e = .returned (.bool true) ∧ Below w.heap.size w w' := by
  have A0 := fun w => Lib.hid (awake08 HOF HNO w)
  have L1 := fun w hr => Lib.hid (long_is 20 A c n 20 rfl a hn (by omega) false h1 w hr)
  have L2 := fun w hr => Lib.hid (long_is 20 B d m 20 rfl b hm (by omega) false h2 w hr)
  have ta := longL_small h1
  have tb := longL_small h2
  have sa := ta.mono (show 20 ≤ 400 by omega)
  have sb := tb.mono (show 20 ≤ 400 by omega)
  have t0 := smallL_nil 0
  have tU := makeV_small 1 ta tb
  have tD := makeV_small 3 ta tb
  have tE := makeV_small 2 ta tb
  have tN := makeV_small 4 ta t0
  have tP := makeV_small 4 tb t0
  have tNN := (makeV_small 4 tN t0).mono (show 2 * (2 * (20 + 0) + 2 + 0) + 2 ≤ 400 by omega)
  have tV := (makeV_small 4 tU t0).mono (show 2 * (2 * (20 + 20) + 2 + 0) + 2 ≤ 400 by omega)
  have tM := (makeV_small 2 tN tP).mono (show 2 * (2 * (20 + 0) + 2 + (2 * (20 + 0) + 2)) + 2 ≤ 400 by omega)
  have tF := (makeV_small 1 tD tE).mono (show 2 * (2 * (20 + 20) + 2 + (2 * (20 + 20) + 2)) + 2 ≤ 400 by omega)
  replace tU := tU.mono (show 2 * (20 + 20) + 2 ≤ 400 by omega)
  replace tD := tD.mono (show 2 * (20 + 20) + 2 ≤ 400 by omega)
  replace tE := tE.mono (show 2 * (20 + 20) + 2 ≤ 400 by omega)
  replace tN := tN.mono (show 2 * (20 + 0) + 2 ≤ 400 by omega)
  replace tP := tP.mono (show 2 * (20 + 0) + 2 ≤ 400 by omega)
  have e1 := notV_notV a
  have e2 := not_union a b
  have e3 := less_meet a b
  have e4 := sameV_within a b
  have e5 := sameL_sameV a b
  have e6 := within_len a b
  unfold notV at e1 e2
  obtain ⟨OA, hOA⟩ : ∃ U, makeV 1 a [] = U := ⟨_, rfl⟩
  obtain ⟨OB, hOB⟩ : ∃ U, makeV 1 b [] = U := ⟨_, rfl⟩
  obtain ⟨U, hU⟩ : ∃ U, makeV 1 a b = U := ⟨_, rfl⟩
  obtain ⟨D, hD⟩ : ∃ U, makeV 3 a b = U := ⟨_, rfl⟩
  obtain ⟨E, hE⟩ : ∃ U, makeV 2 a b = U := ⟨_, rfl⟩
  obtain ⟨N, hN⟩ : ∃ U, makeV 4 a [] = U := ⟨_, rfl⟩
  obtain ⟨P, hP⟩ : ∃ U, makeV 4 b [] = U := ⟨_, rfl⟩
  rw [hU] at tU tV e2
  rw [hD] at tD tF e3 e6
  rw [hE] at tE tF e3
  rw [hN] at tN tNN tM e1 e2
  rw [hP] at tP tM e2
  rw [hOA, hOB] at e5
  obtain ⟨NN, hNN⟩ : ∃ U, makeV 4 N [] = U := ⟨_, rfl⟩
  obtain ⟨V, hV⟩ : ∃ V, makeV 4 U [] = V := ⟨_, rfl⟩
  obtain ⟨M, hM⟩ : ∃ V, makeV 2 N P = V := ⟨_, rfl⟩
  obtain ⟨F, hF⟩ : ∃ V, makeV 1 D E = V := ⟨_, rfl⟩
  rw [hNN] at tNN e1
  rw [hV] at tV e2
  rw [hM] at tM e2
  rw [hF] at tF e3
  obtain ⟨w1, hw1⟩ : ∃ v, withinV a b = v := ⟨_, rfl⟩
  obtain ⟨w2, hw2⟩ : ∃ v, withinV b a = v := ⟨_, rfl⟩
  rw [hw1] at e6
  rw [hw1, hw2] at e4
  rw [e4] at e5
  have SA := fun w ha hb => Lib.hid (tell_is HSA A B c d n m a b hn hm sa sb _ e4 w ha hb)
  have W1 := fun w ha hb => Lib.hid (tell_is HWI A B c d n m a b hn hm sa sb w1 hw1 w ha hb)
  have W2 := fun w hb ha => Lib.hid (tell_is HWI B A d c m n b a hm hn sb sa w2 hw2 w hb ha)
  have OFA := fun w ha => Lib.hid (one_is HOF A c n a OA hOA hn sa w ha)
  have OFB := fun w hb => Lib.hid (one_is HOF B d m b OB hOB hm sb w hb)
  have SO := fun A B c d w ha hb => Lib.hid (same_is A B c d OA OB _ e5 w ha hb)
  have K3 := fun w ha hb => Lib.hid (make_is 3 A B c d n m a b D hD hn hm sa sb w ha hb)
  have UN := fun w ha hb => Lib.hid (set_is HUN A B c d n m a b U hU hn hm sa sb w ha hb)
  have ME := fun w ha hb => Lib.hid (set_is HME A B c d n m a b E hE hn hm sa sb w ha hb)
  have LE := fun w ha hb => Lib.hid (set_is HLE A B c d n m a b D hD hn hm sa sb w ha hb)
  have NA := fun w ha => Lib.hid (one_is HNO A c n a N hN hn sa w ha)
  have NB := fun w hb => Lib.hid (one_is HNO B d m b P hP hm sb w hb)
  have NNA := fun A c w ha => Lib.hid (one_is HNO A c _ N NN hNN rfl tN w ha)
  have NU := fun A c w ha => Lib.hid (one_is HNO A c _ U V hV rfl tU w ha)
  have MNP := fun A B c d w ha hb => Lib.hid (set_is HME A B c d _ _ N P M hM rfl rfl tN tP w ha hb)
  have UDE := fun A B c d w ha hb => Lib.hid (set_is HUN A B c d _ _ D E F hF rfl rfl tD tE w ha hb)
  have S2 := fun A1 c1 w ha hb => Lib.hid (tell_is HSA A1 A c1 c _ n NN a rfl hn tNN sa true e1 w ha hb)
  have S3 := fun A B c d w ha hb => Lib.hid (tell_is HSA A B c d _ _ V M rfl rfl tV tM true e2 w ha hb)
  have S4 := fun A1 c1 w ha hb => Lib.hid (tell_is HSA A1 A c1 c _ n F a rfl hn tF sa true e3 w ha hb)
  have HA := Lib.hid ha
  have HB := Lib.hid hb
  have HW := Lib.hid (Below.refl w.heap.size w)
  clear HOF HNO HUN HME HLE HSA HWI hU hD hE hN hP hNN hV hM hF hOA hOB hw1 hw2 e1 e2 e3 e4 e5 sa sb ta tb t0 tU tD tE tN tP tNN tV tM tF ha hb h1 h2 hn hm
  cases w1 <;> cases w2
  all_goals
    go_enter Try.func5, Try.ntmps5
    go_wp2_with (first
          | ((with_reducible refine (A0 _).out.mono ?_); rintro e w9 ⟨rfl, hq⟩; (try replace HA := Lib.hid (HA.out.call hq)); (try replace HB := Lib.hid (HB.out.call hq)); (try replace HOA := Lib.hid (HOA.out.call hq)); (try replace HOB := Lib.hid (HOB.out.call hq)); (try replace HD := Lib.hid (HD.out.call hq)); (try replace HN := Lib.hid (HN.out.call hq)); (try replace HNN := Lib.hid (HNN.out.call hq)); (try replace HU := Lib.hid (HU.out.call hq)); (try replace HV := Lib.hid (HV.out.call hq)); (try replace HP := Lib.hid (HP.out.call hq)); (try replace HM := Lib.hid (HM.out.call hq)); (try replace HE := Lib.hid (HE.out.call hq)); (try replace HF := Lib.hid (HF.out.call hq)); replace HW := Lib.hid (HW.out.trans (hq.mono HW.out.size)); clear hq)
          | ((with_reducible refine (L1 _ HA.out).out.mono ?_); rintro e w9 ⟨rfl, rfl⟩)
          | ((with_reducible refine (L2 _ HB.out).out.mono ?_); rintro e w9 ⟨rfl, rfl⟩)
          | ((with_reducible refine (SA _ HA.out HB.out).out.mono ?_); rintro e w9 ⟨rfl, hq⟩; (try replace HA := Lib.hid (HA.out.call hq)); (try replace HB := Lib.hid (HB.out.call hq)); (try replace HOA := Lib.hid (HOA.out.call hq)); (try replace HOB := Lib.hid (HOB.out.call hq)); (try replace HD := Lib.hid (HD.out.call hq)); (try replace HN := Lib.hid (HN.out.call hq)); (try replace HNN := Lib.hid (HNN.out.call hq)); (try replace HU := Lib.hid (HU.out.call hq)); (try replace HV := Lib.hid (HV.out.call hq)); (try replace HP := Lib.hid (HP.out.call hq)); (try replace HM := Lib.hid (HM.out.call hq)); (try replace HE := Lib.hid (HE.out.call hq)); (try replace HF := Lib.hid (HF.out.call hq)); replace HW := Lib.hid (HW.out.trans (hq.mono HW.out.size)); clear hq)
          | ((with_reducible refine (OFA _ HA.out).out.mono ?_); rintro e w9 ⟨AOA, cOA, rfl, hrd, hq⟩; (try replace HA := Lib.hid (HA.out.call hq)); (try replace HB := Lib.hid (HB.out.call hq)); (try replace HOA := Lib.hid (HOA.out.call hq)); (try replace HOB := Lib.hid (HOB.out.call hq)); (try replace HD := Lib.hid (HD.out.call hq)); (try replace HN := Lib.hid (HN.out.call hq)); (try replace HNN := Lib.hid (HNN.out.call hq)); (try replace HU := Lib.hid (HU.out.call hq)); (try replace HV := Lib.hid (HV.out.call hq)); (try replace HP := Lib.hid (HP.out.call hq)); (try replace HM := Lib.hid (HM.out.call hq)); (try replace HE := Lib.hid (HE.out.call hq)); (try replace HF := Lib.hid (HF.out.call hq)); replace HW := Lib.hid (HW.out.trans (hq.mono HW.out.size)); have HOA := Lib.hid hrd; clear hrd hq)
          | ((with_reducible refine (OFB _ HB.out).out.mono ?_); rintro e w9 ⟨AOB, cOB, rfl, hrd, hq⟩; (try replace HA := Lib.hid (HA.out.call hq)); (try replace HB := Lib.hid (HB.out.call hq)); (try replace HOA := Lib.hid (HOA.out.call hq)); (try replace HOB := Lib.hid (HOB.out.call hq)); (try replace HD := Lib.hid (HD.out.call hq)); (try replace HN := Lib.hid (HN.out.call hq)); (try replace HNN := Lib.hid (HNN.out.call hq)); (try replace HU := Lib.hid (HU.out.call hq)); (try replace HV := Lib.hid (HV.out.call hq)); (try replace HP := Lib.hid (HP.out.call hq)); (try replace HM := Lib.hid (HM.out.call hq)); (try replace HE := Lib.hid (HE.out.call hq)); (try replace HF := Lib.hid (HF.out.call hq)); replace HW := Lib.hid (HW.out.trans (hq.mono HW.out.size)); have HOB := Lib.hid hrd; clear hrd hq)
          | ((with_reducible refine (SO _ _ _ _ _ HOA.out HOB.out).out.mono ?_); rintro e w9 ⟨rfl, hq⟩; (try replace HA := Lib.hid (HA.out.call hq)); (try replace HB := Lib.hid (HB.out.call hq)); (try replace HOA := Lib.hid (HOA.out.call hq)); (try replace HOB := Lib.hid (HOB.out.call hq)); (try replace HD := Lib.hid (HD.out.call hq)); (try replace HN := Lib.hid (HN.out.call hq)); (try replace HNN := Lib.hid (HNN.out.call hq)); (try replace HU := Lib.hid (HU.out.call hq)); (try replace HV := Lib.hid (HV.out.call hq)); (try replace HP := Lib.hid (HP.out.call hq)); (try replace HM := Lib.hid (HM.out.call hq)); (try replace HE := Lib.hid (HE.out.call hq)); (try replace HF := Lib.hid (HF.out.call hq)); replace HW := Lib.hid (HW.out.trans (hq.mono HW.out.size)); clear hq)
          | ((with_reducible refine (W1 _ HA.out HB.out).out.mono ?_); rintro e w9 ⟨rfl, hq⟩; (try replace HA := Lib.hid (HA.out.call hq)); (try replace HB := Lib.hid (HB.out.call hq)); (try replace HOA := Lib.hid (HOA.out.call hq)); (try replace HOB := Lib.hid (HOB.out.call hq)); (try replace HD := Lib.hid (HD.out.call hq)); (try replace HN := Lib.hid (HN.out.call hq)); (try replace HNN := Lib.hid (HNN.out.call hq)); (try replace HU := Lib.hid (HU.out.call hq)); (try replace HV := Lib.hid (HV.out.call hq)); (try replace HP := Lib.hid (HP.out.call hq)); (try replace HM := Lib.hid (HM.out.call hq)); (try replace HE := Lib.hid (HE.out.call hq)); (try replace HF := Lib.hid (HF.out.call hq)); replace HW := Lib.hid (HW.out.trans (hq.mono HW.out.size)); clear hq)
          | ((with_reducible refine (W2 _ HB.out HA.out).out.mono ?_); rintro e w9 ⟨rfl, hq⟩; (try replace HA := Lib.hid (HA.out.call hq)); (try replace HB := Lib.hid (HB.out.call hq)); (try replace HOA := Lib.hid (HOA.out.call hq)); (try replace HOB := Lib.hid (HOB.out.call hq)); (try replace HD := Lib.hid (HD.out.call hq)); (try replace HN := Lib.hid (HN.out.call hq)); (try replace HNN := Lib.hid (HNN.out.call hq)); (try replace HU := Lib.hid (HU.out.call hq)); (try replace HV := Lib.hid (HV.out.call hq)); (try replace HP := Lib.hid (HP.out.call hq)); (try replace HM := Lib.hid (HM.out.call hq)); (try replace HE := Lib.hid (HE.out.call hq)); (try replace HF := Lib.hid (HF.out.call hq)); replace HW := Lib.hid (HW.out.trans (hq.mono HW.out.size)); clear hq)
          | ((with_reducible refine (K3 _ HA.out HB.out).out.mono ?_); rintro e w9 ⟨AD, cD, rfl, hrd, hq⟩; (try replace HA := Lib.hid (HA.out.call hq)); (try replace HB := Lib.hid (HB.out.call hq)); (try replace HOA := Lib.hid (HOA.out.call hq)); (try replace HOB := Lib.hid (HOB.out.call hq)); (try replace HD := Lib.hid (HD.out.call hq)); (try replace HN := Lib.hid (HN.out.call hq)); (try replace HNN := Lib.hid (HNN.out.call hq)); (try replace HU := Lib.hid (HU.out.call hq)); (try replace HV := Lib.hid (HV.out.call hq)); (try replace HP := Lib.hid (HP.out.call hq)); (try replace HM := Lib.hid (HM.out.call hq)); (try replace HE := Lib.hid (HE.out.call hq)); (try replace HF := Lib.hid (HF.out.call hq)); replace HW := Lib.hid (HW.out.trans (hq.mono HW.out.size)); have HD := Lib.hid hrd; clear hrd hq)
          | ((with_reducible refine (NA _ HA.out).out.mono ?_); rintro e w9 ⟨AN, cN, rfl, hrd, hq⟩; (try replace HA := Lib.hid (HA.out.call hq)); (try replace HB := Lib.hid (HB.out.call hq)); (try replace HOA := Lib.hid (HOA.out.call hq)); (try replace HOB := Lib.hid (HOB.out.call hq)); (try replace HD := Lib.hid (HD.out.call hq)); (try replace HN := Lib.hid (HN.out.call hq)); (try replace HNN := Lib.hid (HNN.out.call hq)); (try replace HU := Lib.hid (HU.out.call hq)); (try replace HV := Lib.hid (HV.out.call hq)); (try replace HP := Lib.hid (HP.out.call hq)); (try replace HM := Lib.hid (HM.out.call hq)); (try replace HE := Lib.hid (HE.out.call hq)); (try replace HF := Lib.hid (HF.out.call hq)); replace HW := Lib.hid (HW.out.trans (hq.mono HW.out.size)); have HN := Lib.hid hrd; clear hrd hq)
          | ((with_reducible refine (NB _ HB.out).out.mono ?_); rintro e w9 ⟨AP, cP, rfl, hrd, hq⟩; (try replace HA := Lib.hid (HA.out.call hq)); (try replace HB := Lib.hid (HB.out.call hq)); (try replace HOA := Lib.hid (HOA.out.call hq)); (try replace HOB := Lib.hid (HOB.out.call hq)); (try replace HD := Lib.hid (HD.out.call hq)); (try replace HN := Lib.hid (HN.out.call hq)); (try replace HNN := Lib.hid (HNN.out.call hq)); (try replace HU := Lib.hid (HU.out.call hq)); (try replace HV := Lib.hid (HV.out.call hq)); (try replace HP := Lib.hid (HP.out.call hq)); (try replace HM := Lib.hid (HM.out.call hq)); (try replace HE := Lib.hid (HE.out.call hq)); (try replace HF := Lib.hid (HF.out.call hq)); replace HW := Lib.hid (HW.out.trans (hq.mono HW.out.size)); have HP := Lib.hid hrd; clear hrd hq)
          | ((with_reducible refine (NNA _ _ _ HN.out).out.mono ?_); rintro e w9 ⟨ANN, cNN, rfl, hrd, hq⟩; (try replace HA := Lib.hid (HA.out.call hq)); (try replace HB := Lib.hid (HB.out.call hq)); (try replace HOA := Lib.hid (HOA.out.call hq)); (try replace HOB := Lib.hid (HOB.out.call hq)); (try replace HD := Lib.hid (HD.out.call hq)); (try replace HN := Lib.hid (HN.out.call hq)); (try replace HNN := Lib.hid (HNN.out.call hq)); (try replace HU := Lib.hid (HU.out.call hq)); (try replace HV := Lib.hid (HV.out.call hq)); (try replace HP := Lib.hid (HP.out.call hq)); (try replace HM := Lib.hid (HM.out.call hq)); (try replace HE := Lib.hid (HE.out.call hq)); (try replace HF := Lib.hid (HF.out.call hq)); replace HW := Lib.hid (HW.out.trans (hq.mono HW.out.size)); have HNN := Lib.hid hrd; clear hrd hq)
          | ((with_reducible refine (S2 _ _ _ HNN.out HA.out).out.mono ?_); rintro e w9 ⟨rfl, hq⟩; (try replace HA := Lib.hid (HA.out.call hq)); (try replace HB := Lib.hid (HB.out.call hq)); (try replace HOA := Lib.hid (HOA.out.call hq)); (try replace HOB := Lib.hid (HOB.out.call hq)); (try replace HD := Lib.hid (HD.out.call hq)); (try replace HN := Lib.hid (HN.out.call hq)); (try replace HNN := Lib.hid (HNN.out.call hq)); (try replace HU := Lib.hid (HU.out.call hq)); (try replace HV := Lib.hid (HV.out.call hq)); (try replace HP := Lib.hid (HP.out.call hq)); (try replace HM := Lib.hid (HM.out.call hq)); (try replace HE := Lib.hid (HE.out.call hq)); (try replace HF := Lib.hid (HF.out.call hq)); replace HW := Lib.hid (HW.out.trans (hq.mono HW.out.size)); clear hq)
          | ((with_reducible refine (UN _ HA.out HB.out).out.mono ?_); rintro e w9 ⟨AU, cU, rfl, hrd, hq⟩; (try replace HA := Lib.hid (HA.out.call hq)); (try replace HB := Lib.hid (HB.out.call hq)); (try replace HOA := Lib.hid (HOA.out.call hq)); (try replace HOB := Lib.hid (HOB.out.call hq)); (try replace HD := Lib.hid (HD.out.call hq)); (try replace HN := Lib.hid (HN.out.call hq)); (try replace HNN := Lib.hid (HNN.out.call hq)); (try replace HU := Lib.hid (HU.out.call hq)); (try replace HV := Lib.hid (HV.out.call hq)); (try replace HP := Lib.hid (HP.out.call hq)); (try replace HM := Lib.hid (HM.out.call hq)); (try replace HE := Lib.hid (HE.out.call hq)); (try replace HF := Lib.hid (HF.out.call hq)); replace HW := Lib.hid (HW.out.trans (hq.mono HW.out.size)); have HU := Lib.hid hrd; clear hrd hq)
          | ((with_reducible refine (NU _ _ _ HU.out).out.mono ?_); rintro e w9 ⟨AV, cV, rfl, hrd, hq⟩; (try replace HA := Lib.hid (HA.out.call hq)); (try replace HB := Lib.hid (HB.out.call hq)); (try replace HOA := Lib.hid (HOA.out.call hq)); (try replace HOB := Lib.hid (HOB.out.call hq)); (try replace HD := Lib.hid (HD.out.call hq)); (try replace HN := Lib.hid (HN.out.call hq)); (try replace HNN := Lib.hid (HNN.out.call hq)); (try replace HU := Lib.hid (HU.out.call hq)); (try replace HV := Lib.hid (HV.out.call hq)); (try replace HP := Lib.hid (HP.out.call hq)); (try replace HM := Lib.hid (HM.out.call hq)); (try replace HE := Lib.hid (HE.out.call hq)); (try replace HF := Lib.hid (HF.out.call hq)); replace HW := Lib.hid (HW.out.trans (hq.mono HW.out.size)); have HV := Lib.hid hrd; clear hrd hq)
          | ((with_reducible refine (MNP _ _ _ _ _ HN.out HP.out).out.mono ?_); rintro e w9 ⟨AM, cM, rfl, hrd, hq⟩; (try replace HA := Lib.hid (HA.out.call hq)); (try replace HB := Lib.hid (HB.out.call hq)); (try replace HOA := Lib.hid (HOA.out.call hq)); (try replace HOB := Lib.hid (HOB.out.call hq)); (try replace HD := Lib.hid (HD.out.call hq)); (try replace HN := Lib.hid (HN.out.call hq)); (try replace HNN := Lib.hid (HNN.out.call hq)); (try replace HU := Lib.hid (HU.out.call hq)); (try replace HV := Lib.hid (HV.out.call hq)); (try replace HP := Lib.hid (HP.out.call hq)); (try replace HM := Lib.hid (HM.out.call hq)); (try replace HE := Lib.hid (HE.out.call hq)); (try replace HF := Lib.hid (HF.out.call hq)); replace HW := Lib.hid (HW.out.trans (hq.mono HW.out.size)); have HM := Lib.hid hrd; clear hrd hq)
          | ((with_reducible refine (S3 _ _ _ _ _ HV.out HM.out).out.mono ?_); rintro e w9 ⟨rfl, hq⟩; (try replace HA := Lib.hid (HA.out.call hq)); (try replace HB := Lib.hid (HB.out.call hq)); (try replace HOA := Lib.hid (HOA.out.call hq)); (try replace HOB := Lib.hid (HOB.out.call hq)); (try replace HD := Lib.hid (HD.out.call hq)); (try replace HN := Lib.hid (HN.out.call hq)); (try replace HNN := Lib.hid (HNN.out.call hq)); (try replace HU := Lib.hid (HU.out.call hq)); (try replace HV := Lib.hid (HV.out.call hq)); (try replace HP := Lib.hid (HP.out.call hq)); (try replace HM := Lib.hid (HM.out.call hq)); (try replace HE := Lib.hid (HE.out.call hq)); (try replace HF := Lib.hid (HF.out.call hq)); replace HW := Lib.hid (HW.out.trans (hq.mono HW.out.size)); clear hq)
          | ((with_reducible refine (LE _ HA.out HB.out).out.mono ?_); rintro e w9 ⟨AD, cD, rfl, hrd, hq⟩; (try replace HA := Lib.hid (HA.out.call hq)); (try replace HB := Lib.hid (HB.out.call hq)); (try replace HOA := Lib.hid (HOA.out.call hq)); (try replace HOB := Lib.hid (HOB.out.call hq)); (try replace HD := Lib.hid (HD.out.call hq)); (try replace HN := Lib.hid (HN.out.call hq)); (try replace HNN := Lib.hid (HNN.out.call hq)); (try replace HU := Lib.hid (HU.out.call hq)); (try replace HV := Lib.hid (HV.out.call hq)); (try replace HP := Lib.hid (HP.out.call hq)); (try replace HM := Lib.hid (HM.out.call hq)); (try replace HE := Lib.hid (HE.out.call hq)); (try replace HF := Lib.hid (HF.out.call hq)); replace HW := Lib.hid (HW.out.trans (hq.mono HW.out.size)); have HD := Lib.hid hrd; clear hrd hq)
          | ((with_reducible refine (ME _ HA.out HB.out).out.mono ?_); rintro e w9 ⟨AE, cE, rfl, hrd, hq⟩; (try replace HA := Lib.hid (HA.out.call hq)); (try replace HB := Lib.hid (HB.out.call hq)); (try replace HOA := Lib.hid (HOA.out.call hq)); (try replace HOB := Lib.hid (HOB.out.call hq)); (try replace HD := Lib.hid (HD.out.call hq)); (try replace HN := Lib.hid (HN.out.call hq)); (try replace HNN := Lib.hid (HNN.out.call hq)); (try replace HU := Lib.hid (HU.out.call hq)); (try replace HV := Lib.hid (HV.out.call hq)); (try replace HP := Lib.hid (HP.out.call hq)); (try replace HM := Lib.hid (HM.out.call hq)); (try replace HE := Lib.hid (HE.out.call hq)); (try replace HF := Lib.hid (HF.out.call hq)); replace HW := Lib.hid (HW.out.trans (hq.mono HW.out.size)); have HE := Lib.hid hrd; clear hrd hq)
          | ((with_reducible refine (UDE _ _ _ _ _ HD.out HE.out).out.mono ?_); rintro e w9 ⟨AF, cF, rfl, hrd, hq⟩; (try replace HA := Lib.hid (HA.out.call hq)); (try replace HB := Lib.hid (HB.out.call hq)); (try replace HOA := Lib.hid (HOA.out.call hq)); (try replace HOB := Lib.hid (HOB.out.call hq)); (try replace HD := Lib.hid (HD.out.call hq)); (try replace HN := Lib.hid (HN.out.call hq)); (try replace HNN := Lib.hid (HNN.out.call hq)); (try replace HU := Lib.hid (HU.out.call hq)); (try replace HV := Lib.hid (HV.out.call hq)); (try replace HP := Lib.hid (HP.out.call hq)); (try replace HM := Lib.hid (HM.out.call hq)); (try replace HE := Lib.hid (HE.out.call hq)); (try replace HF := Lib.hid (HF.out.call hq)); replace HW := Lib.hid (HW.out.trans (hq.mono HW.out.size)); have HF := Lib.hid hrd; clear hrd hq)
          | ((with_reducible refine (S4 _ _ _ HF.out HA.out).out.mono ?_); rintro e w9 ⟨rfl, hq⟩; (try replace HA := Lib.hid (HA.out.call hq)); (try replace HB := Lib.hid (HB.out.call hq)); (try replace HOA := Lib.hid (HOA.out.call hq)); (try replace HOB := Lib.hid (HOB.out.call hq)); (try replace HD := Lib.hid (HD.out.call hq)); (try replace HN := Lib.hid (HN.out.call hq)); (try replace HNN := Lib.hid (HNN.out.call hq)); (try replace HU := Lib.hid (HU.out.call hq)); (try replace HV := Lib.hid (HV.out.call hq)); (try replace HP := Lib.hid (HP.out.call hq)); (try replace HM := Lib.hid (HM.out.call hq)); (try replace HE := Lib.hid (HE.out.call hq)); (try replace HF := Lib.hid (HF.out.call hq)); replace HW := Lib.hid (HW.out.trans (hq.mono HW.out.size)); clear hq))
    go_ret
    exact ⟨rfl, HW.out⟩
set_option maxHeartbeats 1000000 in
theorem rangesSame_long (HOF : OneC 9 1) (HNO : OneC 19 4) (A : Option Addr) (c n : Nat) (a : List Rng) (hn : n = a.length) (B : Option Addr) (d m : Nat) (b : List Rng) (hm : m = b.length) (h : longL 20 a = true ∨ longL 20 b = true) (w : World) (ha : kRng.Rd w w.heap.size A c a) (hb : kRng.Rd w w.heap.size B d b) :
    Calls Try.prog 5 #[.slice A n c, .slice B m d] w fun e w' => e = .returned (.bool true) ∧ Below w.heap.size w w' := by
  have A0 := fun w => Lib.hid (awake08 HOF HNO w)
  obtain ⟨va, hva⟩ : ∃ v, longL 20 a = v := ⟨_, rfl⟩
  have La := fun w hr => Lib.hid (long_is 20 A c n 20 rfl a hn (by omega) va hva w hr)
  obtain ⟨vb, hvb⟩ : ∃ v, longL 20 b = v := ⟨_, rfl⟩
  have Lb := fun w hr => Lib.hid (long_is 20 B d m 20 rfl b hm (by omega) vb hvb w hr)
  rw [hva, hvb] at h
  have HA := Lib.hid ha
  have HB := Lib.hid hb
  have HW := Lib.hid (Below.refl w.heap.size w)
  clear HOF HNO hva ha hn hvb hb hm
  cases va
  case' true =>
    clear h
    go_enter Try.func5, Try.ntmps5
    go_wp2_with (first | ((with_reducible refine (A0 _).out.mono ?_); rintro e w9 ⟨rfl, hq⟩; (try replace HA := Lib.hid (HA.out.call hq)); (try replace HB := Lib.hid (HB.out.call hq)); replace HW := Lib.hid (HW.out.trans (hq.mono HW.out.size)); clear hq) | ((with_reducible refine (La _ HA.out).out.mono ?_); rintro e w9 ⟨rfl, rfl⟩) | ((with_reducible refine (Lb _ HB.out).out.mono ?_); rintro e w9 ⟨rfl, rfl⟩))
    go_ret
    exact ⟨rfl, HW.out⟩
  cases vb
  case' true =>
    clear h
    go_enter Try.func5, Try.ntmps5
    go_wp2_with (first | ((with_reducible refine (A0 _).out.mono ?_); rintro e w9 ⟨rfl, hq⟩; (try replace HA := Lib.hid (HA.out.call hq)); (try replace HB := Lib.hid (HB.out.call hq)); replace HW := Lib.hid (HW.out.trans (hq.mono HW.out.size)); clear hq) | ((with_reducible refine (La _ HA.out).out.mono ?_); rintro e w9 ⟨rfl, rfl⟩) | ((with_reducible refine (Lb _ HB.out).out.mono ?_); rintro e w9 ⟨rfl, rfl⟩))
    go_ret
    exact ⟨rfl, HW.out⟩
  simp at h
theorem rangesSame_walk (HOF : OneC 9 1) (HNO : OneC 19 4) (HUN : SetC 16 1) (HME : SetC 17 2) (HLE : SetC 18 3) (HSA : TellC 21 sameV) (HWI : TellC 22 withinV) (A B : Option Addr) (c d n m : Nat) (a b : List Rng) (hn : n = a.length) (hm : m = b.length) (w : World) (ha : kRng.Rd w w.heap.size A c a) (hb : kRng.Rd w w.heap.size B d b) :
    Calls Try.prog 5 #[.slice A n c, .slice B m d] w fun e w' => e = .returned (.bool true) ∧ Below w.heap.size w w' := by
  cases h1 : longL 20 a with
  | true => exact rangesSame_long HOF HNO A c n a hn B d m b hm (.inl h1) w ha hb
  | false => cases h2 : longL 20 b with
    | true => exact rangesSame_long HOF HNO A c n a hn B d m b hm (.inr h2) w ha hb
    | false => exact rangesSame_short HOF HNO HUN HME HLE HSA HWI A B c d n m a b hn hm h1 h2 w ha hb
end Go.Proofs.Ytgoenmgkhdibnaa
