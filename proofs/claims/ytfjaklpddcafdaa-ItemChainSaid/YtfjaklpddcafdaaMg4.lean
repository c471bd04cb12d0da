/-
  Several texts in one: RgsB, RgsC, Law18B, Law18C, Law18D.
-/
import Derived.BigRegion
import Derived.Deep.QuietTactic
import Derived.BigQuiet
import Derived.IntWalk
import Derived.Test.YtfjaklpddcafdaaMg3
namespace Go.Proofs.Ytfjaklpddcafdaa
open Go.RowKit

end Go.Proofs.Ytfjaklpddcafdaa

namespace Go.Proofs.Ytfjaklpddcafdaa
open Go.RowKit

def longL (most : Nat) (l : List Rng) : Bool := decide (most < l.length) || l.any fun r => decide (40 < r.lo.length) || decide (40 < r.hi.length)
set_option maxHeartbeats 1000000 in
theorem ref_long (A : Option Addr) (c n most : Nat) (l : List Rng) (hn : n = l.length) (hm : most ≤ 1000) (v : Bool) (hv : longL most l = v) (w : World) (hr : kRng.Rd w w.heap.size A c l) :
    Calls Try.prog 19 #[.slice A n c, .int .i64 most] w fun e w' => e = .returned (.bool v) ∧ w = w' := by
  have HN := Lib.hid hn
  have HR := Lib.hid hr
  have hmx : n ≤ 9223372036854775807 := rd_max hr hn
  have hcx : n ≤ c := by rw [hn]; exact hr.room
  subst hv
  by_cases h1 : most < n
  · have HE : Hid (longL most l = true) := by unfold longL; rw [decide_eq_true (by omega)]; rfl
    clear hn hr
    go_enter Try.func19, Try.ntmps19
    go_wp2_with fail
    go_ret
    exact ⟨ret_bool HE.out.symm, rfl⟩
  · have h1' : n ≤ most := by omega
    have HE : Hid (longL most l = l.any fun r => decide (40 < r.lo.length) || decide (40 < r.hi.length)) := by unfold longL; rw [decide_eq_false (by omega), Bool.false_or]; rfl
    clear hn hr h1
    go_enter Try.func19, Try.ntmps19
    go_wp2_with fail
    go_loop [5] (fun i => ∃ k : Nat, k ≤ n ∧ Hid (longL most l = (l.drop k).any fun r => decide (40 < r.lo.length) || decide (40 < r.hi.length)) ∧ i = .int .i64 k) (fun i => n - (intOf i).toNat)
    case atStart => exact ⟨0, by omega, HE, rfl⟩
    case round =>
      obtain ⟨k, hk, HL, rfl⟩ := hrel
      by_cases hlt : k < n
      · obtain ⟨r, hg, hd, -⟩ := get_some (l := l) (k := k) (by have := HN.out; omega)
        obtain ⟨b1, o1, rfl, hb1, hcell1⟩ := rngs_at HR.out (by have := HN.out; omega)
        obtain ⟨a0, a1, a2⟩ := hcell1 k r hg
        have HL2 := Lib.hid (HL.out.trans (by rw [hd, List.any_cons]))
        have hz1 : (str r.lo).size = r.lo.length := str_size _
        have hz2 : (str r.hi).size = r.hi.length := str_size _
        clear hcell1 hg hd HE
        obtain ⟨S, hS⟩ : ∃ S, str r.lo = S := ⟨_, rfl⟩
        obtain ⟨T, hT⟩ : ∃ T, str r.hi = T := ⟨_, rfl⟩
        rw [hS] at a0 hz1
        rw [hT] at a1 hz2
        by_cases g1 : r.lo.length ≤ 40
        · by_cases g2 : r.hi.length ≤ 40
          · have k1 : S.size ≤ 40 := by omega
            have k2 : T.size ≤ 40 := by omega
            have HE := Lib.hid (HL2.out.trans (by rw [decide_eq_false (show ¬ 40 < r.lo.length by omega), decide_eq_false (show ¬ 40 < r.hi.length by omega), Bool.or_self, Bool.false_or]))
            clear hz1 hz2 hS hT g1 g2 HL2
            go_wp2_with fail
            go_round
            case rel => exact ⟨k + 1, by omega, HE, by go_num⟩
            case measure => simp [intOf]; omega
          · have k1 : S.size ≤ 40 := by omega
            have k2 : 40 < T.size := by omega
            have HE := Lib.hid (HL2.out.trans (by rw [decide_eq_true (show 40 < r.hi.length by omega), Bool.or_true, Bool.true_or]))
            clear hz1 hz2 hS hT g1 g2 HL2
            go_wp2_with fail
            go_ret
            exact ⟨ret_bool HE.out.symm, rfl⟩
        · have k1 : 40 < S.size := by omega
          have HE := Lib.hid (HL2.out.trans (by rw [decide_eq_true (show 40 < r.lo.length by omega), Bool.true_or, Bool.true_or]))
          clear hz1 hz2 hS hT g1 HL2
          go_wp2_with fail
          go_ret
          exact ⟨ret_bool HE.out.symm, rfl⟩
      · have HL2 := Lib.hid (HL.out.trans (by rw [List.drop_eq_nil_of_le (by have := HN.out; omega), List.any_nil]))
        clear HE
        go_wp2_with fail
        go_ret
        exact ⟨ret_bool HL2.out.symm, rfl⟩
end Go.Proofs.Ytfjaklpddcafdaa

namespace Go.Proofs.Ytfjaklpddcafdaa
open Go.RowKit

theorem iown_new (w : World) : kItm.Own (w.alloc (.cells #[] 26)) w.heap.size (.slice (some ⟨w.heap.size, 0, none⟩) 0 0) [] := own_none w _ _
theorem merge_two (HME : IMergeC 20) {L L' : Nat} (A1 B1 : Option Addr) (c d n m : Nat) (a b : List Itm) (hn : n = a.length) (hm : m = b.length) (ca : SmallI L a) (cb : SmallI L' b) (hL : L + L' ≤ 1000) (U : List Itm) (hU : mergeI (a ++ b) = U) (N : Nat) (hN : N = U.length)
    (w : World) (ha : kItm.Rd w w.heap.size A1 c a) (hb : kItm.Rd w w.heap.size B1 d b) : Calls Try.prog 20 #[.slice (some ⟨w.heap.size, 0, none⟩) 2 2] (w.alloc (.cells #[.slice A1 n c, .slice B1 m d] 22)) (RetIt w N U) :=
  (HME (some ⟨w.heap.size, 0, none⟩) 2 2 [a, b] rfl (by omega) (by rw [show [a, b].flatten = a ++ b by simp]; exact (ca.append cb).mono hL) U (by rw [show [a, b].flatten = a ++ b by simp]; exact hU) N hN _ (rdLI_two hn hm ha hb)).mono fun _ _ h => h.under
theorem merge_three (HME : IMergeC 20) {L L' L2 : Nat} (A1 B1 C1 : Option Addr) (c d e n m q : Nat) (a b l : List Itm) (hn : n = a.length) (hm : m = b.length) (hq : q = l.length) (ca : SmallI L a) (cb : SmallI L' b) (cl : SmallI L2 l) (hL : L + L' + L2 ≤ 1000) (U : List Itm) (hU : mergeI (a ++ b ++ l) = U) (N : Nat) (hN : N = U.length)
    (w : World) (ha : kItm.Rd w w.heap.size A1 c a) (hb : kItm.Rd w w.heap.size B1 d b) (hl : kItm.Rd w w.heap.size C1 e l) : Calls Try.prog 20 #[.slice (some ⟨w.heap.size, 0, none⟩) 3 3] (w.alloc (.cells #[.slice A1 n c, .slice B1 m d, .slice C1 q e] 22)) (RetIt w N U) :=
  (HME (some ⟨w.heap.size, 0, none⟩) 3 3 [a, b, l] rfl (by omega) (by rw [show [a, b, l].flatten = a ++ b ++ l by simp]; exact ((ca.append cb).append cl).mono hL) U (by rw [show [a, b, l].flatten = a ++ b ++ l by simp]; exact hU) N hN _ (rdLI_three hn hm hq ha hb hl)).mono fun _ _ h => h.under
theorem merge_four (HME : IMergeC 20) {L L' L2 L3 : Nat} (A1 B1 C1 D1 : Option Addr) (c d e f n m q r : Nat) (a b l k : List Itm) (hn : n = a.length) (hm : m = b.length) (hq : q = l.length) (hr : r = k.length) (ca : SmallI L a) (cb : SmallI L' b) (cl : SmallI L2 l) (ck : SmallI L3 k) (hL : L + (L' + (L2 + L3)) ≤ 1000) (U : List Itm) (hU : mergeI (a ++ (b ++ (l ++ k))) = U) (N : Nat) (hN : N = U.length)
    (w : World) (ha : kItm.Rd w w.heap.size A1 c a) (hb : kItm.Rd w w.heap.size B1 d b) (hl : kItm.Rd w w.heap.size C1 e l) (hk : kItm.Rd w w.heap.size D1 f k) : Calls Try.prog 20 #[.slice (some ⟨w.heap.size, 0, none⟩) 4 4] (w.alloc (.cells #[.slice A1 n c, .slice B1 m d, .slice C1 q e, .slice D1 r f] 22)) (RetIt w N U) :=
  (HME (some ⟨w.heap.size, 0, none⟩) 4 4 [a, b, l, k] rfl (by omega) (by rw [show [a, b, l, k].flatten = a ++ (b ++ (l ++ k)) by simp]; exact (ca.append (cb.append (cl.append ck))).mono hL) U (by rw [show [a, b, l, k].flatten = a ++ (b ++ (l ++ k)) by simp]; exact hU) N hN _ (rdLI_four hn hm hq hr ha hb hl hk)).mono fun _ _ h => h.under
theorem merge_none (HME : IMergeC 20) (w : World) : Calls Try.prog 20 #[.slice none 0 0] w (RetIt w 0 []) :=
  HME none 0 0 [] rfl (by omega) ⟨by simp, by simp⟩ [] rfl 0 rfl w ⟨[], Kind.Rd.nil _ _, rfl, fun i s l h => by cases h⟩
theorem isame_is (A B : Option Addr) (c d N : Nat) (U : List Itm) (hN : N = U.length) (w : World) (ha : kItm.Rd w w.heap.size A c U) (hb : kItm.Rd w w.heap.size B d U) :
    Calls Try.prog 21 #[.slice A N c, .slice B N d] w fun e w' => e = .returned (.bool true) ∧ Below w.heap.size w w' :=
  ref_isame A B c d N N U U hN hN true (sameI_iff.2 rfl) w ha hb
theorem ilong_small {m : Nat} {l : List Rng} (h : longL m l = false) : SmallL m l := by
  unfold longL at h
  simp only [Bool.or_eq_false_iff, decide_eq_false_iff_not, List.any_eq_false, Bool.not_eq_true] at h
  exact ⟨by omega, fun r hr => by have := h.2 r hr; omega⟩
theorem irl_long (A : Option Addr) (c n most : Nat) (x : Int) (hx : (most : Int) = x) (l : List Rng) (hn : n = l.length) (hm : most ≤ 1000) (v : Bool) (hv : longL most l = v) (w : World) (hr : kRng.Rd w w.heap.size A c l) :
    Calls Try.prog 19 #[.slice A n c, .int .i64 x] w fun e w' => e = .returned (.bool v) ∧ Below w.heap.size w w' := by
  subst hx
  exact (ref_long A c n most l hn hm v hv w hr).mono fun _ _ ⟨h1, h2⟩ => ⟨h1, h2 ▸ Below.refl _ _⟩
set_option maxRecDepth 100000 in
set_option maxHeartbeats 8000000 in
theorem itemChain_walk (HRI : IRightC 10) (HCM : ICmpC 12) (HWI : IWinsC 13) (HME : IMergeC 20)
    (A B D : Option Addr) (c d e n m q : Nat) (a b l : List Itm) (hn : n = a.length) (hm : m = b.length) (hq : q = l.length) (w : World) (ha : kItm.Rd w w.heap.size A c a) (hb : kItm.Rd w w.heap.size B d b) (hc : kItm.Rd w w.heap.size D e l) :
    Calls Try.prog 6 #[.slice A n c, .slice B m d, .slice D q e] w fun e w' => e = .returned (.bool true) ∧ Below w.heap.size w w' := by
  have A0 := fun w => Lib.hid (awake18 HRI HCM HWI HME w)
  have HW := Lib.hid (Below.refl w.heap.size w)
  have HA := Lib.hid ha
  have HB := Lib.hid hb
  have HC := Lib.hid hc
  obtain ⟨la, hla⟩ : ∃ z, longI 15 a = z := ⟨_, rfl⟩
  have LA := fun w hr => Lib.hid (ref_ilong 15 15 rfl (by omega) A c n a hn la hla w hr)
  obtain ⟨lb, hlb⟩ : ∃ z, longI 15 b = z := ⟨_, rfl⟩
  have LB := fun w hr => Lib.hid (ref_ilong 15 15 rfl (by omega) B d m b hm lb hlb w hr)
  obtain ⟨ll, hll⟩ : ∃ z, longI 15 l = z := ⟨_, rfl⟩
  have LD := fun w hr => Lib.hid (ref_ilong 15 15 rfl (by omega) D e q l hq ll hll w hr)
  by_cases hlong : la = true ∨ lb = true ∨ ll = true
  · clear HRI HCM HWI HME ha hb hc hn hm hq hla hlb hll
    cases la <;> cases lb <;> cases ll
    all_goals first
      | (exfalso; simp at hlong; done)
      | (clear hlong
         go_enter Try.func6, Try.ntmps6
         go_wp2_with (first
           | ((with_reducible refine (A0 _).out.mono ?_); rintro e w9 ⟨rfl, hq⟩; (try replace HA := Lib.hid (HA.out.call hq)); (try replace HB := Lib.hid (HB.out.call hq)); (try replace HC := Lib.hid (HC.out.call hq)); replace HW := Lib.hid (HW.out.trans (hq.mono HW.out.size)); clear hq)
           | ((with_reducible refine (LA _ HA.out).out.mono ?_); rintro e w9 ⟨rfl, hq⟩; (try replace HA := Lib.hid (HA.out.call hq)); (try replace HB := Lib.hid (HB.out.call hq)); (try replace HC := Lib.hid (HC.out.call hq)); replace HW := Lib.hid (HW.out.trans (hq.mono HW.out.size)); clear hq)
           | ((with_reducible refine (LB _ HB.out).out.mono ?_); rintro e w9 ⟨rfl, hq⟩; (try replace HA := Lib.hid (HA.out.call hq)); (try replace HB := Lib.hid (HB.out.call hq)); (try replace HC := Lib.hid (HC.out.call hq)); replace HW := Lib.hid (HW.out.trans (hq.mono HW.out.size)); clear hq)
           | ((with_reducible refine (LD _ HC.out).out.mono ?_); rintro e w9 ⟨rfl, hq⟩; (try replace HA := Lib.hid (HA.out.call hq)); (try replace HB := Lib.hid (HB.out.call hq)); (try replace HC := Lib.hid (HC.out.call hq)); replace HW := Lib.hid (HW.out.trans (hq.mono HW.out.size)); clear hq))
         go_ret
         exact ⟨rfl, HW.out⟩)
  · obtain rfl : la = false := by cases la; rfl; exact absurd (.inl rfl) hlong
    obtain rfl : lb = false := by cases lb; rfl; exact absurd (.inr (.inl rfl)) hlong
    obtain rfl : ll = false := by cases ll; rfl; exact absurd (.inr (.inr (rfl))) hlong
    clear hlong
    have sa := SmallI.long hla
    have sb := SmallI.long hlb
    have sl := SmallI.long hll
    obtain ⟨U, hU⟩ : ∃ U, mergeI (a ++ b ++ l) = U := ⟨_, rfl⟩
    obtain ⟨N, hN⟩ : ∃ N, N = U.length := ⟨_, rfl⟩
    have sU : SmallI 45 U := hU ▸ ((sa.append sb).append sl).merge
    obtain ⟨X, hX⟩ : ∃ U, mergeI (a ++ b) = U := ⟨_, rfl⟩
    obtain ⟨NX, hNX⟩ : ∃ N, N = X.length := ⟨_, rfl⟩
    have sX : SmallI 30 X := hX ▸ (sa.append sb).merge
    obtain ⟨Y, hY⟩ : ∃ U, mergeI (b ++ l) = U := ⟨_, rfl⟩
    obtain ⟨NY, hNY⟩ : ∃ N, N = Y.length := ⟨_, rfl⟩
    have sY : SmallI 30 Y := hY ▸ (sb.append sl).merge
    have C3 := fun w h1 h2 h3 => Lib.hid (merge_three HME A B D c d e n m q a b l hn hm hq sa sb sl (by omega) U hU N hN w h1 h2 h3)
    have CX := fun w h1 h2 => Lib.hid (merge_two HME A B c d n m a b hn hm sa sb (by omega) X hX NX hNX w h1 h2)
    have CXL := fun A1 c1 w h1 h2 => Lib.hid (merge_two HME A1 D c1 e NX q X l hNX hq sX sl (by omega) U (by rw [← hX, mergeI_left]; exact hU) N hN w h1 h2)
    have CY := fun w h1 h2 => Lib.hid (merge_two HME B D d e m q b l hm hq sb sl (by omega) Y hY NY hNY w h1 h2)
    have CAY := fun B1 d1 w h1 h2 => Lib.hid (merge_two HME A B1 c d1 n NY a Y hn hNY sa sY (by omega) U (by rw [← hY, mergeI_right, ← List.append_assoc]; exact hU) N hN w h1 h2)
    have CVV := fun A1 c1 w h1 h2 => Lib.hid (merge_two HME A1 A1 c1 c1 N N U U hN hN sU sU (by omega) U (by rw [← hU, mergeI_twice]) N hN w h1 h2)
    have SS := fun A1 B1 c1 d1 w h1 h2 => Lib.hid (isame_is A1 B1 c1 d1 N U hN w h1 h2)
    clear HRI HCM HWI HME ha hb hc hn hm hq hla hlb hll sa sb sl hU hN sU hX hNX sX hY hNY sY
    go_enter Try.func6, Try.ntmps6
    go_wp2_with (first
      | ((with_reducible refine (A0 _).out.mono ?_); rintro e w9 ⟨rfl, hq⟩; (try replace HA := Lib.hid (HA.out.call hq)); (try replace HB := Lib.hid (HB.out.call hq)); (try replace HC := Lib.hid (HC.out.call hq)); (try replace HV := Lib.hid (HV.out.call hq)); (try replace HP := Lib.hid (HP.out.call hq)); (try replace HQ := Lib.hid (HQ.out.call hq)); replace HW := Lib.hid (HW.out.trans (hq.mono HW.out.size)); clear hq)
      | ((with_reducible refine (LA _ HA.out).out.mono ?_); rintro e w9 ⟨rfl, hq⟩; (try replace HA := Lib.hid (HA.out.call hq)); (try replace HB := Lib.hid (HB.out.call hq)); (try replace HC := Lib.hid (HC.out.call hq)); (try replace HV := Lib.hid (HV.out.call hq)); (try replace HP := Lib.hid (HP.out.call hq)); (try replace HQ := Lib.hid (HQ.out.call hq)); replace HW := Lib.hid (HW.out.trans (hq.mono HW.out.size)); clear hq)
      | ((with_reducible refine (LB _ HB.out).out.mono ?_); rintro e w9 ⟨rfl, hq⟩; (try replace HA := Lib.hid (HA.out.call hq)); (try replace HB := Lib.hid (HB.out.call hq)); (try replace HC := Lib.hid (HC.out.call hq)); (try replace HV := Lib.hid (HV.out.call hq)); (try replace HP := Lib.hid (HP.out.call hq)); (try replace HQ := Lib.hid (HQ.out.call hq)); replace HW := Lib.hid (HW.out.trans (hq.mono HW.out.size)); clear hq)
      | ((with_reducible refine (LD _ HC.out).out.mono ?_); rintro e w9 ⟨rfl, hq⟩; (try replace HA := Lib.hid (HA.out.call hq)); (try replace HB := Lib.hid (HB.out.call hq)); (try replace HC := Lib.hid (HC.out.call hq)); (try replace HV := Lib.hid (HV.out.call hq)); (try replace HP := Lib.hid (HP.out.call hq)); (try replace HQ := Lib.hid (HQ.out.call hq)); replace HW := Lib.hid (HW.out.trans (hq.mono HW.out.size)); clear hq)
      | ((with_reducible refine (C3 _ HA.out HB.out HC.out).out.mono ?_); rintro e w9 ⟨AV, cV, rfl, hrd, hq⟩; (try replace HA := Lib.hid (HA.out.call hq)); (try replace HB := Lib.hid (HB.out.call hq)); (try replace HC := Lib.hid (HC.out.call hq)); (try replace HP := Lib.hid (HP.out.call hq)); (try replace HQ := Lib.hid (HQ.out.call hq)); replace HW := Lib.hid (HW.out.trans (hq.mono HW.out.size)); have HV := Lib.hid hrd; clear hrd hq)
      | ((with_reducible refine (CX _ HA.out HB.out).out.mono ?_); rintro e w9 ⟨AP, cP, rfl, hrd, hq⟩; (try clear HP); (try replace HA := Lib.hid (HA.out.call hq)); (try replace HB := Lib.hid (HB.out.call hq)); (try replace HC := Lib.hid (HC.out.call hq)); (try replace HV := Lib.hid (HV.out.call hq)); (try replace HQ := Lib.hid (HQ.out.call hq)); replace HW := Lib.hid (HW.out.trans (hq.mono HW.out.size)); have HP := Lib.hid hrd; clear hrd hq)
      | ((with_reducible refine (CXL _ _ _ HP.out HC.out).out.mono ?_); rintro e w9 ⟨AQ, cQ, rfl, hrd, hq⟩; (try clear HQ); (try replace HA := Lib.hid (HA.out.call hq)); (try replace HB := Lib.hid (HB.out.call hq)); (try replace HC := Lib.hid (HC.out.call hq)); (try replace HV := Lib.hid (HV.out.call hq)); (try replace HP := Lib.hid (HP.out.call hq)); replace HW := Lib.hid (HW.out.trans (hq.mono HW.out.size)); have HQ := Lib.hid hrd; clear hrd hq)
      | ((with_reducible refine (CY _ HB.out HC.out).out.mono ?_); rintro e w9 ⟨AP, cP, rfl, hrd, hq⟩; (try clear HP); (try replace HA := Lib.hid (HA.out.call hq)); (try replace HB := Lib.hid (HB.out.call hq)); (try replace HC := Lib.hid (HC.out.call hq)); (try replace HV := Lib.hid (HV.out.call hq)); (try replace HQ := Lib.hid (HQ.out.call hq)); replace HW := Lib.hid (HW.out.trans (hq.mono HW.out.size)); have HP := Lib.hid hrd; clear hrd hq)
      | ((with_reducible refine (CAY _ _ _ HA.out HP.out).out.mono ?_); rintro e w9 ⟨AQ, cQ, rfl, hrd, hq⟩; (try clear HQ); (try replace HA := Lib.hid (HA.out.call hq)); (try replace HB := Lib.hid (HB.out.call hq)); (try replace HC := Lib.hid (HC.out.call hq)); (try replace HV := Lib.hid (HV.out.call hq)); (try replace HP := Lib.hid (HP.out.call hq)); replace HW := Lib.hid (HW.out.trans (hq.mono HW.out.size)); have HQ := Lib.hid hrd; clear hrd hq)
      | ((with_reducible refine (CVV _ _ _ HV.out HV.out).out.mono ?_); rintro e w9 ⟨AQ, cQ, rfl, hrd, hq⟩; (try clear HQ); (try replace HA := Lib.hid (HA.out.call hq)); (try replace HB := Lib.hid (HB.out.call hq)); (try replace HC := Lib.hid (HC.out.call hq)); (try replace HV := Lib.hid (HV.out.call hq)); (try replace HP := Lib.hid (HP.out.call hq)); replace HW := Lib.hid (HW.out.trans (hq.mono HW.out.size)); have HQ := Lib.hid hrd; clear hrd hq)
      | ((with_reducible refine (SS _ _ _ _ _ HQ.out HV.out).out.mono ?_); rintro e w9 ⟨rfl, hq⟩; (try replace HA := Lib.hid (HA.out.call hq)); (try replace HB := Lib.hid (HB.out.call hq)); (try replace HC := Lib.hid (HC.out.call hq)); (try replace HV := Lib.hid (HV.out.call hq)); (try replace HP := Lib.hid (HP.out.call hq)); (try replace HQ := Lib.hid (HQ.out.call hq)); replace HW := Lib.hid (HW.out.trans (hq.mono HW.out.size)); clear hq))
    go_ret
    exact ⟨rfl, HW.out⟩
set_option maxRecDepth 100000 in
set_option maxHeartbeats 8000000 in
theorem itemMerges_walk (HRI : IRightC 10) (HCM : ICmpC 12) (HWI : IWinsC 13) (HME : IMergeC 20) (HIN : IInC 23)
    (A B D : Option Addr) (c d e n m q : Nat) (a b : List Itm) (l : List Rng) (hn : n = a.length) (hm : m = b.length) (hq : q = l.length) (w : World) (ha : kItm.Rd w w.heap.size A c a) (hb : kItm.Rd w w.heap.size B d b) (hr : kRng.Rd w w.heap.size D e l) :
    Calls Try.prog 5 #[.slice A n c, .slice B m d, .slice D q e] w fun e w' => e = .returned (.bool true) ∧ Below w.heap.size w w' := by
  have A0 := fun w => Lib.hid (awake18 HRI HCM HWI HME w)
  have HW := Lib.hid (Below.refl w.heap.size w)
  have HA := Lib.hid ha
  have HB := Lib.hid hb
  have HR := Lib.hid hr
  obtain ⟨la, hla⟩ : ∃ z, longI 20 a = z := ⟨_, rfl⟩
  have LA := fun w hr => Lib.hid (ref_ilong 20 20 rfl (by omega) A c n a hn la hla w hr)
  obtain ⟨lb, hlb⟩ : ∃ z, longI 20 b = z := ⟨_, rfl⟩
  have LB := fun w hr => Lib.hid (ref_ilong 20 20 rfl (by omega) B d m b hm lb hlb w hr)
  obtain ⟨ll, hll⟩ : ∃ z, longL 10 l = z := ⟨_, rfl⟩
  have LD := fun w hr => Lib.hid (irl_long D e q 10 10 rfl l hq (by omega) ll hll w hr)
  by_cases hlong : la = true ∨ lb = true ∨ ll = true
  · clear HRI HCM HWI HME HIN ha hb hr hn hm hq hla hlb hll
    cases la <;> cases lb <;> cases ll
    all_goals first
      | (exfalso; simp at hlong; done)
      | (clear hlong
         go_enter Try.func5, Try.ntmps5
         go_wp2_with (first
           | ((with_reducible refine (A0 _).out.mono ?_); rintro e w9 ⟨rfl, hq⟩; (try replace HA := Lib.hid (HA.out.call hq)); (try replace HB := Lib.hid (HB.out.call hq)); (try replace HR := Lib.hid (HR.out.call hq)); replace HW := Lib.hid (HW.out.trans (hq.mono HW.out.size)); clear hq)
           | ((with_reducible refine (LA _ HA.out).out.mono ?_); rintro e w9 ⟨rfl, hq⟩; (try replace HA := Lib.hid (HA.out.call hq)); (try replace HB := Lib.hid (HB.out.call hq)); (try replace HR := Lib.hid (HR.out.call hq)); replace HW := Lib.hid (HW.out.trans (hq.mono HW.out.size)); clear hq)
           | ((with_reducible refine (LB _ HB.out).out.mono ?_); rintro e w9 ⟨rfl, hq⟩; (try replace HA := Lib.hid (HA.out.call hq)); (try replace HB := Lib.hid (HB.out.call hq)); (try replace HR := Lib.hid (HR.out.call hq)); replace HW := Lib.hid (HW.out.trans (hq.mono HW.out.size)); clear hq)
           | ((with_reducible refine (LD _ HR.out).out.mono ?_); rintro e w9 ⟨rfl, hq⟩; (try replace HA := Lib.hid (HA.out.call hq)); (try replace HB := Lib.hid (HB.out.call hq)); (try replace HR := Lib.hid (HR.out.call hq)); replace HW := Lib.hid (HW.out.trans (hq.mono HW.out.size)); clear hq))
         go_ret
         exact ⟨rfl, HW.out⟩)
  · obtain rfl : la = false := by cases la; rfl; exact absurd (.inl rfl) hlong
    obtain rfl : lb = false := by cases lb; rfl; exact absurd (.inr (.inl rfl)) hlong
    obtain rfl : ll = false := by cases ll; rfl; exact absurd (.inr (.inr (rfl))) hlong
    clear hlong
    have sa := SmallI.long hla
    have sb := SmallI.long hlb
    have sl := ilong_small hll
    obtain ⟨U, hU⟩ : ∃ U, mergeI (a ++ b) = U := ⟨_, rfl⟩
    obtain ⟨N, hN⟩ : ∃ N, N = U.length := ⟨_, rfl⟩
    have sU : SmallI 40 U := hU ▸ (sa.append sb).merge
    obtain ⟨W1, hW1⟩ : ∃ U, inI a (hasL l) = U := ⟨_, rfl⟩
    obtain ⟨N1, hN1⟩ : ∃ N, N = W1.length := ⟨_, rfl⟩
    obtain ⟨W2, hW2⟩ : ∃ Z, inI U (hasL l) = Z := ⟨_, rfl⟩
    obtain ⟨N2, hN2⟩ : ∃ N, N = W2.length := ⟨_, rfl⟩
    obtain ⟨NS, hNS⟩ : ∃ N, N = (a ++ b).length := ⟨_, rfl⟩
    have CM := fun w h1 h2 => Lib.hid (merge_two HME A B c d n m a b hn hm sa sb (by omega) U hU N hN w h1 h2)
    have RM := fun A1 c1 w h1 => Lib.hid ((ref_imerge A1 c1 NS (a ++ b) hNS (by have := (sa.append sb).1; omega) (sa.append sb).keys U hU N hN.symm w h1).mono fun _ _ h => RetIm.to h)
    have SS := fun A1 B1 c1 d1 w h1 h2 => Lib.hid (isame_is A1 B1 c1 d1 N U hN w h1 h2)
    have RL := fun A1 c1 w h1 => Lib.hid (ref_ilist A1 c1 N U hN sU.keys true (hU ▸ mergeI_list _) w h1)
    have C4 := fun A1 c1 w h1 h2 h3 h4 => Lib.hid (merge_four HME A1 A B A1 c1 c d c1 N n m N U a b U hN hn hm hN sU sa sb sU (by omega) U (by rw [← hU, mergeI_again]) N hN w h1 h2 h3 h4)
    have I1 := fun w h1 h2 => Lib.hid (HIN A D c e n q a l hn hq (sa.mono (by omega)) (sl.mono (by omega)) W1 hW1 N1 hN1 w h1 h2)
    have J1 := fun w h1 h2 => Lib.hid ((ref_iin A D c e n q a l hn hq (by have := sa.1; omega) sa.keys W1 hW1 N1 hN1.symm w h1 h2).mono fun _ _ h => RetIm.to h)
    have S1 := fun A1 B1 c1 d1 w h1 h2 => Lib.hid (isame_is A1 B1 c1 d1 N1 W1 hN1 w h1 h2)
    have I2 := fun A1 c1 w h1 h2 => Lib.hid (HIN A1 D c1 e N q U l hN hq (sU.mono (by omega)) (sl.mono (by omega)) W2 hW2 N2 hN2 w h1 h2)
    have J2 := fun A1 c1 w h1 h2 => Lib.hid ((ref_iin A1 D c1 e N q U l hN hq (by have := sU.1; omega) sU.keys W2 hW2 N2 hN2.symm w h1 h2).mono fun _ _ h => RetIm.to h)
    have S2 := fun A1 B1 c1 d1 w h1 h2 => Lib.hid (isame_is A1 B1 c1 d1 N2 W2 hN2 w h1 h2)
    have C0 := fun w => Lib.hid (merge_none HME w)
    have HN := Lib.hid hn
    have HM := Lib.hid hm
    have HNS := Lib.hid hNS
    have HL1 := Lib.hid (show ([] : List Itm).length + a.length ≤ 1000000 by have := sa.1; rw [List.length_nil]; omega)
    have HL2 := Lib.hid (show a.length + b.length ≤ 1000000 by have := sa.1; have := sb.1; omega)
    clear HRI HCM HWI HME HIN ha hb hr hn hm hq hla hlb hll sa sb sl hU hN sU hW1 hN1 hW2 hN2 hNS
    go_enter Try.func5, Try.ntmps5
    go_wp2_with (first
      | ((with_reducible refine (A0 _).out.mono ?_); rintro e w9 ⟨rfl, hq⟩; (try replace HA := Lib.hid (HA.out.call hq)); (try replace HB := Lib.hid (HB.out.call hq)); (try replace HR := Lib.hid (HR.out.call hq)); (try replace HV := Lib.hid (HV.out.call hq)); (try replace HS := Lib.hid (HS.out.call hq)); (try replace HP := Lib.hid (HP.out.call hq)); (try replace HQ := Lib.hid (HQ.out.call hq)); (try replace HX := Lib.hid (HX.out.call hq)); (try replace HY := Lib.hid (HY.out.call hq)); replace HW := Lib.hid (HW.out.trans (hq.mono HW.out.size)); clear hq)
      | ((with_reducible refine (LA _ HA.out).out.mono ?_); rintro e w9 ⟨rfl, hq⟩; (try replace HA := Lib.hid (HA.out.call hq)); (try replace HB := Lib.hid (HB.out.call hq)); (try replace HR := Lib.hid (HR.out.call hq)); (try replace HV := Lib.hid (HV.out.call hq)); (try replace HS := Lib.hid (HS.out.call hq)); (try replace HP := Lib.hid (HP.out.call hq)); (try replace HQ := Lib.hid (HQ.out.call hq)); (try replace HX := Lib.hid (HX.out.call hq)); (try replace HY := Lib.hid (HY.out.call hq)); replace HW := Lib.hid (HW.out.trans (hq.mono HW.out.size)); clear hq)
      | ((with_reducible refine (LB _ HB.out).out.mono ?_); rintro e w9 ⟨rfl, hq⟩; (try replace HA := Lib.hid (HA.out.call hq)); (try replace HB := Lib.hid (HB.out.call hq)); (try replace HR := Lib.hid (HR.out.call hq)); (try replace HV := Lib.hid (HV.out.call hq)); (try replace HS := Lib.hid (HS.out.call hq)); (try replace HP := Lib.hid (HP.out.call hq)); (try replace HQ := Lib.hid (HQ.out.call hq)); (try replace HX := Lib.hid (HX.out.call hq)); (try replace HY := Lib.hid (HY.out.call hq)); replace HW := Lib.hid (HW.out.trans (hq.mono HW.out.size)); clear hq)
      | ((with_reducible refine (LD _ HR.out).out.mono ?_); rintro e w9 ⟨rfl, hq⟩; (try replace HA := Lib.hid (HA.out.call hq)); (try replace HB := Lib.hid (HB.out.call hq)); (try replace HR := Lib.hid (HR.out.call hq)); (try replace HV := Lib.hid (HV.out.call hq)); (try replace HS := Lib.hid (HS.out.call hq)); (try replace HP := Lib.hid (HP.out.call hq)); (try replace HQ := Lib.hid (HQ.out.call hq)); (try replace HX := Lib.hid (HX.out.call hq)); (try replace HY := Lib.hid (HY.out.call hq)); replace HW := Lib.hid (HW.out.trans (hq.mono HW.out.size)); clear hq)
      | ((with_reducible refine (CM _ HA.out HB.out).out.mono ?_); rintro e w9 ⟨AV, cV, rfl, hrd, hq⟩; (try replace HA := Lib.hid (HA.out.call hq)); (try replace HB := Lib.hid (HB.out.call hq)); (try replace HR := Lib.hid (HR.out.call hq)); (try replace HS := Lib.hid (HS.out.call hq)); (try replace HP := Lib.hid (HP.out.call hq)); (try replace HQ := Lib.hid (HQ.out.call hq)); (try replace HX := Lib.hid (HX.out.call hq)); (try replace HY := Lib.hid (HY.out.call hq)); replace HW := Lib.hid (HW.out.trans (hq.mono HW.out.size)); have HV := Lib.hid hrd; clear hrd hq)
      | (at_builtin; refine wpList_app_k kItm rfl (.tmp 25) (.tmp 26) rfl w9.heap.size (.slice (some ⟨w9.heap.size, 0, none⟩) 0 0) [] rfl (iown_new w9) _ A c n a HN.out rfl (HA.out.call (below_new w9 _)).row HL1.out (by decide) (it_alloc (Nat.le_refl _) _) ?_; intro v3 w3 hown3 _ hb3 _; have hq3 := (below_new w9 _).trans hb3; clear hb3; have HO3 := Lib.hid hown3; clear hown3)
      | (at_builtin; refine wpList_app_k kItm rfl (.tmp 27) (.tmp 28) rfl w9.heap.size _ a rfl HO3.out _ B d m b HM.out rfl (HB.out.below hq3).row HL2.out (by decide) hq3.size ?_; intro v4 w4 hown4 _ hb4 _; have hq := hq3.trans hb4; (try replace HA := Lib.hid (HA.out.call hq)); (try replace HB := Lib.hid (HB.out.call hq)); (try replace HR := Lib.hid (HR.out.call hq)); (try replace HV := Lib.hid (HV.out.call hq)); (try replace HP := Lib.hid (HP.out.call hq)); (try replace HQ := Lib.hid (HQ.out.call hq)); (try replace HX := Lib.hid (HX.out.call hq)); (try replace HY := Lib.hid (HY.out.call hq)); replace HW := Lib.hid (HW.out.trans (hq.mono HW.out.size)); obtain ⟨AS, cS, rfl, hrS⟩ := hown4.read_n HNS.out; have HS := Lib.hid hrS; clear hrS hown4 hq hq3 hb4 HO3)
      | ((with_reducible refine (RM _ _ _ HS.out).out.mono ?_); rintro e w9 ⟨AP, cP, rfl, hrd, hq⟩; (try clear HP); (try replace HA := Lib.hid (HA.out.call hq)); (try replace HB := Lib.hid (HB.out.call hq)); (try replace HR := Lib.hid (HR.out.call hq)); (try replace HV := Lib.hid (HV.out.call hq)); (try replace HS := Lib.hid (HS.out.call hq)); (try replace HQ := Lib.hid (HQ.out.call hq)); (try replace HX := Lib.hid (HX.out.call hq)); (try replace HY := Lib.hid (HY.out.call hq)); replace HW := Lib.hid (HW.out.trans (hq.mono HW.out.size)); have HP := Lib.hid hrd; clear hrd hq)
      | ((with_reducible refine (SS _ _ _ _ _ HV.out HP.out).out.mono ?_); rintro e w9 ⟨rfl, hq⟩; (try replace HA := Lib.hid (HA.out.call hq)); (try replace HB := Lib.hid (HB.out.call hq)); (try replace HR := Lib.hid (HR.out.call hq)); (try replace HV := Lib.hid (HV.out.call hq)); (try replace HS := Lib.hid (HS.out.call hq)); (try replace HP := Lib.hid (HP.out.call hq)); (try replace HQ := Lib.hid (HQ.out.call hq)); (try replace HX := Lib.hid (HX.out.call hq)); (try replace HY := Lib.hid (HY.out.call hq)); replace HW := Lib.hid (HW.out.trans (hq.mono HW.out.size)); clear hq)
      | ((with_reducible refine (RL _ _ _ HV.out).out.mono ?_); rintro e w9 ⟨rfl, hq⟩; (try replace HA := Lib.hid (HA.out.call hq)); (try replace HB := Lib.hid (HB.out.call hq)); (try replace HR := Lib.hid (HR.out.call hq)); (try replace HV := Lib.hid (HV.out.call hq)); (try replace HS := Lib.hid (HS.out.call hq)); (try replace HP := Lib.hid (HP.out.call hq)); (try replace HQ := Lib.hid (HQ.out.call hq)); (try replace HX := Lib.hid (HX.out.call hq)); (try replace HY := Lib.hid (HY.out.call hq)); replace HW := Lib.hid (HW.out.trans (hq.mono HW.out.size)); clear hq)
      | ((with_reducible refine (C4 _ _ _ HV.out HA.out HB.out HV.out).out.mono ?_); rintro e w9 ⟨AQ, cQ, rfl, hrd, hq⟩; (try clear HQ); (try replace HA := Lib.hid (HA.out.call hq)); (try replace HB := Lib.hid (HB.out.call hq)); (try replace HR := Lib.hid (HR.out.call hq)); (try replace HV := Lib.hid (HV.out.call hq)); (try replace HS := Lib.hid (HS.out.call hq)); (try replace HP := Lib.hid (HP.out.call hq)); (try replace HX := Lib.hid (HX.out.call hq)); (try replace HY := Lib.hid (HY.out.call hq)); replace HW := Lib.hid (HW.out.trans (hq.mono HW.out.size)); have HQ := Lib.hid hrd; clear hrd hq)
      | ((with_reducible refine (SS _ _ _ _ _ HQ.out HV.out).out.mono ?_); rintro e w9 ⟨rfl, hq⟩; (try replace HA := Lib.hid (HA.out.call hq)); (try replace HB := Lib.hid (HB.out.call hq)); (try replace HR := Lib.hid (HR.out.call hq)); (try replace HV := Lib.hid (HV.out.call hq)); (try replace HS := Lib.hid (HS.out.call hq)); (try replace HP := Lib.hid (HP.out.call hq)); (try replace HQ := Lib.hid (HQ.out.call hq)); (try replace HX := Lib.hid (HX.out.call hq)); (try replace HY := Lib.hid (HY.out.call hq)); replace HW := Lib.hid (HW.out.trans (hq.mono HW.out.size)); clear hq)
      | ((with_reducible refine (I1 _ HA.out HR.out).out.mono ?_); rintro e w9 ⟨AX, cX, rfl, hrd, hq⟩; (try clear HX); (try replace HA := Lib.hid (HA.out.call hq)); (try replace HB := Lib.hid (HB.out.call hq)); (try replace HR := Lib.hid (HR.out.call hq)); (try replace HV := Lib.hid (HV.out.call hq)); (try replace HS := Lib.hid (HS.out.call hq)); (try replace HP := Lib.hid (HP.out.call hq)); (try replace HQ := Lib.hid (HQ.out.call hq)); (try replace HY := Lib.hid (HY.out.call hq)); replace HW := Lib.hid (HW.out.trans (hq.mono HW.out.size)); have HX := Lib.hid hrd; clear hrd hq)
      | ((with_reducible refine (J1 _ HA.out HR.out).out.mono ?_); rintro e w9 ⟨AY, cY, rfl, hrd, hq⟩; (try clear HY); (try replace HA := Lib.hid (HA.out.call hq)); (try replace HB := Lib.hid (HB.out.call hq)); (try replace HR := Lib.hid (HR.out.call hq)); (try replace HV := Lib.hid (HV.out.call hq)); (try replace HS := Lib.hid (HS.out.call hq)); (try replace HP := Lib.hid (HP.out.call hq)); (try replace HQ := Lib.hid (HQ.out.call hq)); (try replace HX := Lib.hid (HX.out.call hq)); replace HW := Lib.hid (HW.out.trans (hq.mono HW.out.size)); have HY := Lib.hid hrd; clear hrd hq)
      | ((with_reducible refine (S1 _ _ _ _ _ HX.out HY.out).out.mono ?_); rintro e w9 ⟨rfl, hq⟩; (try replace HA := Lib.hid (HA.out.call hq)); (try replace HB := Lib.hid (HB.out.call hq)); (try replace HR := Lib.hid (HR.out.call hq)); (try replace HV := Lib.hid (HV.out.call hq)); (try replace HS := Lib.hid (HS.out.call hq)); (try replace HP := Lib.hid (HP.out.call hq)); (try replace HQ := Lib.hid (HQ.out.call hq)); (try replace HX := Lib.hid (HX.out.call hq)); (try replace HY := Lib.hid (HY.out.call hq)); replace HW := Lib.hid (HW.out.trans (hq.mono HW.out.size)); clear hq)
      | ((with_reducible refine (I2 _ _ _ HV.out HR.out).out.mono ?_); rintro e w9 ⟨AX, cX, rfl, hrd, hq⟩; (try clear HX); (try replace HA := Lib.hid (HA.out.call hq)); (try replace HB := Lib.hid (HB.out.call hq)); (try replace HR := Lib.hid (HR.out.call hq)); (try replace HV := Lib.hid (HV.out.call hq)); (try replace HS := Lib.hid (HS.out.call hq)); (try replace HP := Lib.hid (HP.out.call hq)); (try replace HQ := Lib.hid (HQ.out.call hq)); (try replace HY := Lib.hid (HY.out.call hq)); replace HW := Lib.hid (HW.out.trans (hq.mono HW.out.size)); have HX := Lib.hid hrd; clear hrd hq)
      | ((with_reducible refine (J2 _ _ _ HV.out HR.out).out.mono ?_); rintro e w9 ⟨AY, cY, rfl, hrd, hq⟩; (try clear HY); (try replace HA := Lib.hid (HA.out.call hq)); (try replace HB := Lib.hid (HB.out.call hq)); (try replace HR := Lib.hid (HR.out.call hq)); (try replace HV := Lib.hid (HV.out.call hq)); (try replace HS := Lib.hid (HS.out.call hq)); (try replace HP := Lib.hid (HP.out.call hq)); (try replace HQ := Lib.hid (HQ.out.call hq)); (try replace HX := Lib.hid (HX.out.call hq)); replace HW := Lib.hid (HW.out.trans (hq.mono HW.out.size)); have HY := Lib.hid hrd; clear hrd hq)
      | ((with_reducible refine (S2 _ _ _ _ _ HX.out HY.out).out.mono ?_); rintro e w9 ⟨rfl, hq⟩; (try replace HA := Lib.hid (HA.out.call hq)); (try replace HB := Lib.hid (HB.out.call hq)); (try replace HR := Lib.hid (HR.out.call hq)); (try replace HV := Lib.hid (HV.out.call hq)); (try replace HS := Lib.hid (HS.out.call hq)); (try replace HP := Lib.hid (HP.out.call hq)); (try replace HQ := Lib.hid (HQ.out.call hq)); (try replace HX := Lib.hid (HX.out.call hq)); (try replace HY := Lib.hid (HY.out.call hq)); replace HW := Lib.hid (HW.out.trans (hq.mono HW.out.size)); clear hq)
      | ((with_reducible refine (C0 _).out.mono ?_); rintro e w9 ⟨AX, cX, rfl, hrd, hq⟩; (try clear HX); (try replace HA := Lib.hid (HA.out.call hq)); (try replace HB := Lib.hid (HB.out.call hq)); (try replace HR := Lib.hid (HR.out.call hq)); (try replace HV := Lib.hid (HV.out.call hq)); (try replace HS := Lib.hid (HS.out.call hq)); (try replace HP := Lib.hid (HP.out.call hq)); (try replace HQ := Lib.hid (HQ.out.call hq)); (try replace HY := Lib.hid (HY.out.call hq)); replace HW := Lib.hid (HW.out.trans (hq.mono HW.out.size)); have HX := Lib.hid hrd; clear hrd hq))
    go_ret
    exact ⟨rfl, HW.out⟩
end Go.Proofs.Ytfjaklpddcafdaa

namespace Go.Proofs.Ytfjaklpddcafdaa
open Go.RowKit

theorem ItAt.cell {w : World} {g : Nat} {K : ByteArray} {r c k p : Int} {d : Bool} {B : ByteArray} (h : ItAt w g K r c k p d B) {W : World} {g2 : Nat} {K' : ByteArray} {r' c' k' p' : Int} {d' : Bool} {B' : ByteArray} (h2 : ItAt w g2 K' r' c' k' p' d' B') (hb : Below W.heap.size W w) :
    CellL W [(⟨g, 0, none⟩, .string K), (⟨g, 1, none⟩, .int .i64 r), (⟨g, 2, none⟩, .int .i64 c), (⟨g, 3, none⟩, .int .i64 k), (⟨g, 4, none⟩, .int .i64 p), (⟨g, 5, none⟩, .bool d), (⟨g, 6, none⟩, .string B), (⟨g2, 0, none⟩, .string K'), (⟨g2, 1, none⟩, .int .i64 r'), (⟨g2, 2, none⟩, .int .i64 c'), (⟨g2, 3, none⟩, .int .i64 k'), (⟨g2, 4, none⟩, .int .i64 p'), (⟨g2, 5, none⟩, .bool d'), (⟨g2, 6, none⟩, .string B')] w := by
  obtain ⟨h0, h1, h2', h3, h4, h5, h6⟩ := h
  obtain ⟨k0, k1, k2, k3, k4, k5, k6⟩ := h2
  exact ⟨h0, h1, h2', h3, h4, h5, h6, k0, k1, k2, k3, k4, k5, k6, hb⟩
theorem two_small {x y : Itm} (h : longI 2 [x, y] = false) : (x.key.length ≤ 1000 ∧ x.body.length ≤ 1000) ∧ (y.key.length ≤ 1000 ∧ y.body.length ≤ 1000) := by
  have h2 := (longI_no h).2
  have hx := h2 x (by simp)
  have hy := h2 y (by simp)
  omega
theorem two_row (w : World) (x y : Itm) (K : ByteArray) (r c' k p : Int) (d : Bool) (B : ByteArray) (hx : IsI x K r c' k p d B) (K' : ByteArray) (r' c2 k' p' : Int) (d' : Bool) (B' : ByteArray) (hy : IsI y K' r' c2 k' p' d' B') : kItm.Rd (w.alloc (.cells #[.string K, .int .i64 r, .int .i64 c', .int .i64 k, .int .i64 p, .bool d, .string B, .string K', .int .i64 r', .int .i64 c2, .int .i64 k', .int .i64 p', .bool d', .string B'] 26)) (w.heap.size + 1) (some ⟨w.heap.size, 0, none⟩) 2 [x, y] := by
  obtain ⟨rfl, rfl, rfl, rfl, rfl, rfl, rfl⟩ := hx
  obtain ⟨rfl, rfl, rfl, rfl, rfl, rfl, rfl⟩ := hy
  exact Kind.rd_new (k := kItm) (l := [x, y]) rfl rfl (by simp)
theorem two_long (x y : Itm) (K : ByteArray) (r c' k p : Int) (d : Bool) (B : ByteArray) (hx : IsI x K r c' k p d B) (K' : ByteArray) (r' c2 k' p' : Int) (d' : Bool) (B' : ByteArray) (hy : IsI y K' r' c2 k' p' d' B') (v : Bool) (hv : longI 2 [x, y] = v) (w : World) :
    Calls Try.prog 8 #[.slice (some ⟨w.heap.size, 0, none⟩) 2 2, .int .i64 2] (w.alloc (.cells #[.string K, .int .i64 r, .int .i64 c', .int .i64 k, .int .i64 p, .bool d, .string B, .string K', .int .i64 r', .int .i64 c2, .int .i64 k', .int .i64 p', .bool d', .string B'] 26)) fun e w' => e = .returned (.bool v) ∧ Below w.heap.size w w' :=
  (ref_ilong 2 2 rfl (by omega) (some ⟨w.heap.size, 0, none⟩) 2 2 [x, y] rfl v hv _ (by rw [size1]; exact two_row w x y K r c' k p d B hx K' r' c2 k' p' d' B' hy)).mono fun _ _ ⟨h1, h2⟩ => ⟨h1, (below_new w _).trans (h2.mono (by simp))⟩
theorem best_all {l : List Itm} {key : List UInt8} {n : Nat} {z : Int} {o : Option Itm} (h : BestAt (pickI true key) l n z) (hn : n = l.length) (ho : bestF rightI l = o) : (o = none ∧ z = -1) ∨ ∃ (q : Nat) (x : Itm), o = some x ∧ z = (q : Int) ∧ q < n ∧ l[q]? = some x := by
  have e : l.take n = l := List.take_of_length_le (by omega)
  unfold BestAt at h
  rw [e, pickI_all, ho] at h
  rcases h with ⟨h1, h2⟩ | ⟨q, x, h1, h2, h3, h4⟩
  · exact .inl ⟨h2, h1⟩
  · exact .inr ⟨q, x, h4, h1, h2, h3⟩
theorem eq_zero (w : World) : (Op.equalIn 10000 26 (itV ⟨#[]⟩ 0 0 0 0 false ⟨#[]⟩) (itV ⟨#[]⟩ 0 0 0 0 false ⟨#[]⟩)).run Try.prog w = .ok true w := by
  rw [eq_itm]; simp
theorem cmpIm_three (a b : Itm) : (beatsI a b = true ∧ beatsI b a = false ∧ cmpIm a b = 1 ∧ cmpIm b a = -1) ∨ (beatsI a b = false ∧ beatsI b a = true ∧ cmpIm a b = -1 ∧ cmpIm b a = 1) ∨ (beatsI a b = false ∧ beatsI b a = false ∧ cmpIm a b = 0 ∧ cmpIm b a = 0) := by
  unfold cmpIm
  cases h1 : beatsI a b <;> cases h2 : beatsI b a
  · exact .inr (.inr ⟨rfl, rfl, rfl, rfl⟩)
  · exact .inr (.inl ⟨rfl, rfl, rfl, rfl⟩)
  · exact .inl ⟨rfl, rfl, rfl, rfl⟩
  · rw [beatsI_asymm h1] at h2; cases h2
set_option maxRecDepth 100000 in
set_option maxHeartbeats 8000000 in
theorem itemWins_walk (HRI : IRightC 10) (HCM : ICmpC 12) (HWI : IWinsC 13) (HME : IMergeC 20)
    (A : Option Addr) (c n : Nat) (l : List Itm) (a b : Itm) (K : ByteArray) (r c' k p : Int) (d : Bool) (B : ByteArray) (ha : IsI a K r c' k p d B) (K' : ByteArray) (r' c2 k' p' : Int) (d' : Bool) (B' : ByteArray) (hb : IsI b K' r' c2 k' p' d' B') (hn : n = l.length) (w : World) (hl : kItm.Rd w w.heap.size A c l) :
    Calls Try.prog 3 #[.slice A n c, itV K r c' k p d B, itV K' r' c2 k' p' d' B'] w fun e w' => e = .returned (.bool true) ∧ Below w.heap.size w w' := by
  have A0 := fun w => Lib.hid (awake18 HRI HCM HWI HME w)
  obtain ⟨W, hW⟩ : ∃ W, (w.alloc (itO K r c' k p d B)).alloc (itO K' r' c2 k' p' d' B') = W := ⟨_, rfl⟩
  obtain ⟨g, hg⟩ : ∃ g, w.heap.size = g := ⟨_, rfl⟩
  have HA : Hid (ItAt W g K r c' k p d B) := hW ▸ hg ▸ (itAt_new w _ _ _ _ _ _ _).below (below_new _ _)
  have HB : Hid (ItAt W (g + 1) K' r' c2 k' p' d' B') := by
    have h := itAt_new (w.alloc (itO K r c' k p d B)) K' r' c2 k' p' d' B'
    rw [size1, hg] at h
    exact hW ▸ h
  have HW : Hid (Below w.heap.size w W) := hW ▸ itm_two w _ _
  have HL : Hid (kItm.Rd W W.heap.size A c l) := hW ▸ hl.call (itm_two w _ _)
  obtain ⟨la, hla⟩ : ∃ z, longI 30 l = z := ⟨_, rfl⟩
  obtain ⟨lb, hlb⟩ : ∃ z, longI 2 [a, b] = z := ⟨_, rfl⟩
  have LA := fun w hr => Lib.hid (ref_ilong 30 30 rfl (by omega) A c n l hn la hla w hr)
  have LB := fun w => Lib.hid (two_long a b K r c' k p d B ha K' r' c2 k' p' d' B' hb lb hlb w)
  by_cases hlong : la = true ∨ lb = true
  · clear HRI HCM HWI HME ha hb hn hla hlb hl
    cases la <;> cases lb
    all_goals first
      | (exfalso; simp at hlong; done)
      | (clear hlong
         go_enter Try.func3, Try.ntmps3
         obtain ⟨p0, p1, p2, p3, p4, p5, p6⟩ := HA.out
         obtain ⟨q0, q1, q2, q3, q4, q5, q6⟩ := HB.out
         go_wp2_with (first
           | ((with_reducible refine (A0 _).out.mono ?_); rintro e w9 ⟨rfl, hq⟩; (try replace HL := Lib.hid (HL.out.call hq)); replace HA := Lib.hid (HA.out.below hq); clear p0 p1 p2 p3 p4 p5 p6; obtain ⟨p0, p1, p2, p3, p4, p5, p6⟩ := HA.out; replace HB := Lib.hid (HB.out.below hq); clear q0 q1 q2 q3 q4 q5 q6; obtain ⟨q0, q1, q2, q3, q4, q5, q6⟩ := HB.out; replace HW := Lib.hid (HW.out.trans (hq.mono HW.out.size)); clear hq)
           | ((with_reducible refine (LA _ HL.out).out.mono ?_); rintro e w9 ⟨rfl, hq⟩; (try replace HL := Lib.hid (HL.out.call hq)); replace HA := Lib.hid (HA.out.below hq); clear p0 p1 p2 p3 p4 p5 p6; obtain ⟨p0, p1, p2, p3, p4, p5, p6⟩ := HA.out; replace HB := Lib.hid (HB.out.below hq); clear q0 q1 q2 q3 q4 q5 q6; obtain ⟨q0, q1, q2, q3, q4, q5, q6⟩ := HB.out; replace HW := Lib.hid (HW.out.trans (hq.mono HW.out.size)); clear hq)
           | ((with_reducible refine (LB _).out.mono ?_); rintro e w9 ⟨rfl, hq⟩; (try replace HL := Lib.hid (HL.out.call hq)); replace HA := Lib.hid (HA.out.below hq); clear p0 p1 p2 p3 p4 p5 p6; obtain ⟨p0, p1, p2, p3, p4, p5, p6⟩ := HA.out; replace HB := Lib.hid (HB.out.below hq); clear q0 q1 q2 q3 q4 q5 q6; obtain ⟨q0, q1, q2, q3, q4, q5, q6⟩ := HB.out; replace HW := Lib.hid (HW.out.trans (hq.mono HW.out.size)); clear hq))
         go_ret
         exact ⟨rfl, HW.out⟩)
  · obtain rfl : la = false := by cases la; rfl; exact absurd (.inl rfl) hlong
    obtain rfl : lb = false := by cases lb; rfl; exact absurd (.inr rfl) hlong
    clear hlong
    obtain ⟨sa, sb⟩ := two_small hlb
    have sl := (SmallI.long hla).mono (show 30 ≤ 1000 by omega)
    obtain ⟨v, hv⟩ : ∃ v, rightI a = v := ⟨_, rfl⟩
    obtain ⟨y1, hy1⟩ : ∃ v, beatsI a b = v := ⟨_, rfl⟩
    obtain ⟨y2, hy2⟩ : ∃ v, beatsI b a = v := ⟨_, rfl⟩
    obtain ⟨z1, hz1⟩ : ∃ v, cmpIm a b = v := ⟨_, rfl⟩
    obtain ⟨z2, hz2⟩ : ∃ v, cmpIm b a = v := ⟨_, rfl⟩
    have H3 := cmpIm_three a b
    rw [hy1, hy2, hz1, hz2] at H3
    have B1 := fun w => Lib.hid (ref_ibeats a b K r c' k p d B ha K' r' c2 k' p' d' B' hb y1 hy1 w)
    have B2 := fun w => Lib.hid (ref_ibeats b a K' r' c2 k' p' d' B' hb K r c' k p d B ha y2 hy2 w)
    have R1 := fun (WX : World) => Lib.hid (fun L => cellL_of (a := WX) (l := L) fun w => HRI a K r c' k p d B ha sa.1 sa.2 v hv w)
    have R2 := fun (WX : World) => Lib.hid (fun L => cellL_of (a := WX) (l := L) fun w => ref_iright a K r c' k p d B ha v hv w)
    have M1 := fun (WX : World) => Lib.hid (fun L => cellL_of (a := WX) (l := L) fun w => HCM a b K r c' k p d B ha K' r' c2 k' p' d' B' hb z1 hz1 w)
    have M2 := fun (WX : World) => Lib.hid (fun L => cellL_of (a := WX) (l := L) fun w => HCM b a K' r' c2 k' p' d' B' hb K r c' k p d B ha z2 hz2 w)
    have RB := fun w h => Lib.hid (ref_ibest A c n l [] ⟨#[]⟩ rfl true hn w h)
    have WI := HWI A c n l hn sl
    have HN := Lib.hid hn
    obtain ⟨o9, ho9⟩ : ∃ o, bestF rightI l = o := ⟨_, rfl⟩
    have HO := Lib.hid ho9
    clear HRI HCM HWI HME ha hb hn hla hlb hl sa sb sl hv hy1 hy2 hz1 hz2
    go_enter Try.func3, Try.ntmps3
    obtain ⟨p0, p1, p2, p3, p4, p5, p6⟩ := HA.out
    obtain ⟨q0, q1, q2, q3, q4, q5, q6⟩ := HB.out
    rcases H3 with ⟨rfl, rfl, rfl, rfl⟩ | ⟨rfl, rfl, rfl, rfl⟩ | ⟨rfl, rfl, rfl, rfl⟩
    all_goals
      go_wp2_with (first
        | ((with_reducible refine (A0 _).out.mono ?_); rintro e w9 ⟨rfl, hq⟩; (try replace HL := Lib.hid (HL.out.call hq)); replace HA := Lib.hid (HA.out.below hq); clear p0 p1 p2 p3 p4 p5 p6; obtain ⟨p0, p1, p2, p3, p4, p5, p6⟩ := HA.out; replace HB := Lib.hid (HB.out.below hq); clear q0 q1 q2 q3 q4 q5 q6; obtain ⟨q0, q1, q2, q3, q4, q5, q6⟩ := HB.out; replace HW := Lib.hid (HW.out.trans (hq.mono HW.out.size)); clear hq)
        | ((with_reducible refine (LA _ HL.out).out.mono ?_); rintro e w9 ⟨rfl, hq⟩; (try replace HL := Lib.hid (HL.out.call hq)); replace HA := Lib.hid (HA.out.below hq); clear p0 p1 p2 p3 p4 p5 p6; obtain ⟨p0, p1, p2, p3, p4, p5, p6⟩ := HA.out; replace HB := Lib.hid (HB.out.below hq); clear q0 q1 q2 q3 q4 q5 q6; obtain ⟨q0, q1, q2, q3, q4, q5, q6⟩ := HB.out; replace HW := Lib.hid (HW.out.trans (hq.mono HW.out.size)); clear hq)
        | ((with_reducible refine (LB _).out.mono ?_); rintro e w9 ⟨rfl, hq⟩; (try replace HL := Lib.hid (HL.out.call hq)); replace HA := Lib.hid (HA.out.below hq); clear p0 p1 p2 p3 p4 p5 p6; obtain ⟨p0, p1, p2, p3, p4, p5, p6⟩ := HA.out; replace HB := Lib.hid (HB.out.below hq); clear q0 q1 q2 q3 q4 q5 q6; obtain ⟨q0, q1, q2, q3, q4, q5, q6⟩ := HB.out; replace HW := Lib.hid (HW.out.trans (hq.mono HW.out.size)); clear hq)
        | ((with_reducible refine (B1 _).out.mono ?_); rintro e w9 ⟨rfl, hq⟩; (try replace HL := Lib.hid (HL.out.call hq)); replace HA := Lib.hid (HA.out.below hq); clear p0 p1 p2 p3 p4 p5 p6; obtain ⟨p0, p1, p2, p3, p4, p5, p6⟩ := HA.out; replace HB := Lib.hid (HB.out.below hq); clear q0 q1 q2 q3 q4 q5 q6; obtain ⟨q0, q1, q2, q3, q4, q5, q6⟩ := HB.out; replace HW := Lib.hid (HW.out.trans (hq.mono HW.out.size)); clear hq)
        | ((with_reducible refine (B2 _).out.mono ?_); rintro e w9 ⟨rfl, hq⟩; (try replace HL := Lib.hid (HL.out.call hq)); replace HA := Lib.hid (HA.out.below hq); clear p0 p1 p2 p3 p4 p5 p6; obtain ⟨p0, p1, p2, p3, p4, p5, p6⟩ := HA.out; replace HB := Lib.hid (HB.out.below hq); clear q0 q1 q2 q3 q4 q5 q6; obtain ⟨q0, q1, q2, q3, q4, q5, q6⟩ := HB.out; replace HW := Lib.hid (HW.out.trans (hq.mono HW.out.size)); clear hq))
      have HC := Lib.hid (HA.out.cell HB.out (Below.refl _ _))
      refine q_region (CellL w9 [(⟨g, 0, none⟩, .string K), (⟨g, 1, none⟩, .int .i64 r), (⟨g, 2, none⟩, .int .i64 c'), (⟨g, 3, none⟩, .int .i64 k), (⟨g, 4, none⟩, .int .i64 p), (⟨g, 5, none⟩, .bool d), (⟨g, 6, none⟩, .string B), (⟨g + 1, 0, none⟩, .string K'), (⟨g + 1, 1, none⟩, .int .i64 r'), (⟨g + 1, 2, none⟩, .int .i64 c2), (⟨g + 1, 3, none⟩, .int .i64 k'), (⟨g + 1, 4, none⟩, .int .i64 p'), (⟨g + 1, 5, none⟩, .bool d'), (⟨g + 1, 6, none⟩, .string B')]) (by kernel_rfl) (by kernel_rfl) (cellL_drew HC.out) ?_
      have R1 := R1 w9
      have R2 := R2 w9
      have M1 := M1 w9
      have M2 := M2 w9
      repeat (first
        | go_big_quiet_skip
        | (go_big_quiet_want; (first
          | (refine q_take (v := ?_) ?_ ?_; rotate_left; (focus (intro w hSw; (try simp only [CellL] at hSw); go_split_ands; go_simp; (try (rw [if_neg (by omega)])); (try with_reducible rfl); done)))
          | (refine q_call (R1.out _) ?_ ?_; (focus (intro w hSw; (try simp only [CellL] at hSw); go_split_ands; go_simp; (try (rw [if_neg (by omega)])); done)))
          | (refine q_call (R2.out _) ?_ ?_; (focus (intro w hSw; (try simp only [CellL] at hSw); go_split_ands; go_simp; (try (rw [if_neg (by omega)])); done)))
          | (refine q_call (M1.out _) ?_ ?_; (focus (intro w hSw; (try simp only [CellL] at hSw); go_split_ands; go_simp; (try (rw [if_neg (by omega)])); done)))
          | (refine q_call (M2.out _) ?_ ?_; (focus (intro w hSw; (try simp only [CellL] at hSw); go_split_ands; go_simp; (try (rw [if_neg (by omega)])); done)))); (try simp only [Act.put, List.setIfInBounds_toArray, List.set_cons_zero, List.set_cons_succ]); go_big_quiet_on))
      refine wpQuiet_nil ?_
      intro w2 hw2
      replace HW := Lib.hid (HW.out.trans ((cellL_size hw2).mono HW.out.size))
      replace HL := Lib.hid (HL.out.call (cellL_size hw2))
      clear hw2 HC HA HB p0 p1 p2 p3 p4 p5 p6 q0 q1 q2 q3 q4 q5 q6
      cases o9 with
      | none =>
        have WC := fun w h => Lib.hid (WI.2 HO.out w h)
        go_wp2_with (first
          | ((with_reducible refine (WC _ HL.out).out.mono ?_); rintro e w3 ⟨rfl, hq⟩; have HX3 := Lib.hid (itAt_new w3 ⟨#[]⟩ 0 0 0 0 false ⟨#[]⟩); have HL3 := Lib.hid ((HL.out.call hq).call (below_new w3 (itO ⟨#[]⟩ 0 0 0 0 false ⟨#[]⟩))); have HW3 := Lib.hid (HW.out.trans (hq.mono HW.out.size)); replace HW3 := Lib.hid (HW3.out.alloc HW3.out.size (itO ⟨#[]⟩ 0 0 0 0 false ⟨#[]⟩)); obtain ⟨g8, hg8⟩ : ∃ g8, w3.heap.size = g8 := ⟨_, rfl⟩; rw [hg8] at HX3; clear hq)
          | ((with_reducible refine (RB _ HL3.out).out.mono ?_); rintro e w4 ⟨z, rfl, hba, hq⟩; have HBA := Lib.hid hba; have HX4 := Lib.hid (HX3.out.below hq); have HL4 := Lib.hid (HL3.out.call hq); have HW4 := Lib.hid (HW3.out.trans (hq.mono HW3.out.size)); clear hba hq))
        rcases best_all HBA.out HN.out HO.out with ⟨-, rfl⟩ | ⟨q, x, h1, -, -, -⟩
        rotate_left
        · cases h1
        have EQ := eq_zero
        obtain ⟨x0', x1, x2, x3, x4, x5, x6⟩ := HX4.out
        have HC := Lib.hid (show CellL w4 [(⟨g8, 0, none⟩, .string ⟨#[]⟩), (⟨g8, 1, none⟩, .int .i64 0), (⟨g8, 2, none⟩, .int .i64 0), (⟨g8, 3, none⟩, .int .i64 0), (⟨g8, 4, none⟩, .int .i64 0), (⟨g8, 5, none⟩, .bool false), (⟨g8, 6, none⟩, .string ⟨#[]⟩)] w4 from ⟨x0', x1, x2, x3, x4, x5, x6, Below.refl _ _⟩)
        refine q_region (CellL w4 [(⟨g8, 0, none⟩, .string ⟨#[]⟩), (⟨g8, 1, none⟩, .int .i64 0), (⟨g8, 2, none⟩, .int .i64 0), (⟨g8, 3, none⟩, .int .i64 0), (⟨g8, 4, none⟩, .int .i64 0), (⟨g8, 5, none⟩, .bool false), (⟨g8, 6, none⟩, .string ⟨#[]⟩)]) (by kernel_rfl) (by kernel_rfl) (cellL_drew HC.out) ?_
        repeat (first
          | go_big_quiet_skip
          | (go_big_quiet_want; (first
            | (refine q_take (v := ?_) ?_ ?_; rotate_left; (focus (intro w hSw; (try simp only [CellL] at hSw); go_split_ands; go_simp; (try (rw [if_neg (by omega)])); (try with_reducible rfl); done)))); (try simp only [Act.put, List.setIfInBounds_toArray, List.set_cons_zero, List.set_cons_succ]); go_big_quiet_on))
        refine wpQuiet_nil ?_
        intro w5 hw5
        have HW5 := Lib.hid (HW4.out.trans ((cellL_size hw5).mono HW4.out.size))
        clear hw5
        go_wp2_with fail
        go_ret
        exact ⟨rfl, HW5.out⟩
      | some x0 =>
        obtain ⟨K8, r8, c8, k8, p8, d8, B8, hI⟩ : ∃ K r c k p d B, IsI x0 K r c k p d B := ⟨_, _, _, _, _, _, _, IsI.mk' x0⟩
        have WC := fun w h => Lib.hid (WI.1 x0 HO.out K8 r8 c8 k8 p8 d8 B8 hI w h)
        go_wp2_with (first
          | ((with_reducible refine (WC _ HL.out).out.mono ?_); rintro e w3 ⟨rfl, hq⟩; have HX3 := Lib.hid (itAt_new w3 K8 r8 c8 k8 p8 d8 B8); have HL3 := Lib.hid ((HL.out.call hq).call (below_new w3 (itO K8 r8 c8 k8 p8 d8 B8))); have HW3 := Lib.hid (HW.out.trans (hq.mono HW.out.size)); replace HW3 := Lib.hid (HW3.out.alloc HW3.out.size (itO K8 r8 c8 k8 p8 d8 B8)); obtain ⟨g8, hg8⟩ : ∃ g8, w3.heap.size = g8 := ⟨_, rfl⟩; rw [hg8] at HX3; clear hq)
          | ((with_reducible refine (RB _ HL3.out).out.mono ?_); rintro e w4 ⟨z, rfl, hba, hq⟩; have HBA := Lib.hid hba; have HX4 := Lib.hid (HX3.out.below hq); have HL4 := Lib.hid (HL3.out.call hq); have HW4 := Lib.hid (HW3.out.trans (hq.mono HW3.out.size)); clear hba hq))
        rcases best_all HBA.out HN.out HO.out with ⟨h1, -⟩ | ⟨q, x, h1, rfl, hqn, hgq⟩
        · cases h1
        injection h1 with h1
        subst h1
        obtain ⟨bq, oq, rfl, -, hcell⟩ := itms_at HL4.out (by have := HN.out; omega)
        obtain ⟨m0, m1, m2, m3, m4, m5, m6⟩ := hcell q x0 hgq
        rw [hI.key] at m0
        rw [hI.rep] at m1
        rw [hI.cnt] at m2
        rw [hI.rank] at m3
        rw [hI.prio] at m4
        rw [hI.dead] at m5
        rw [hI.body] at m6
        have hq0 : (0 : Int) ≤ (q : Int) := by omega
        have hqn' : (q : Int) < (n : Int) := by omega
        have hm1 : max (0 : Int) (q : Int) = (q : Int) := by omega
        have hm2 : (if (0 : Int) < (q : Int) then (q : Int) else 0) = (q : Int) := by split <;> omega
        have hqd : decide ((q : Int) ≥ 0) = true := decide_eq_true hq0
        have EQ := fun w => eq_itms x0 x0 K8 r8 c8 k8 p8 d8 B8 hI K8 r8 c8 k8 p8 d8 B8 hI true (eqI_iff.2 rfl) w
        obtain ⟨x0', x1, x2, x3, x4, x5, x6⟩ := HX4.out
        have HC := Lib.hid (show CellL w4 [(⟨g8, 0, none⟩, .string K8), (⟨g8, 1, none⟩, .int .i64 r8), (⟨g8, 2, none⟩, .int .i64 c8), (⟨g8, 3, none⟩, .int .i64 k8), (⟨g8, 4, none⟩, .int .i64 p8), (⟨g8, 5, none⟩, .bool d8), (⟨g8, 6, none⟩, .string B8), (⟨bq, oq + q * 7, none⟩, .string K8), (⟨bq, oq + q * 7 + 1, none⟩, .int .i64 r8), (⟨bq, oq + q * 7 + 2, none⟩, .int .i64 c8), (⟨bq, oq + q * 7 + 3, none⟩, .int .i64 k8), (⟨bq, oq + q * 7 + 4, none⟩, .int .i64 p8), (⟨bq, oq + q * 7 + 5, none⟩, .bool d8), (⟨bq, oq + q * 7 + 6, none⟩, .string B8)] w4 from ⟨x0', x1, x2, x3, x4, x5, x6, m0, m1, m2, m3, m4, m5, m6, Below.refl _ _⟩)
        refine q_region (CellL w4 [(⟨g8, 0, none⟩, .string K8), (⟨g8, 1, none⟩, .int .i64 r8), (⟨g8, 2, none⟩, .int .i64 c8), (⟨g8, 3, none⟩, .int .i64 k8), (⟨g8, 4, none⟩, .int .i64 p8), (⟨g8, 5, none⟩, .bool d8), (⟨g8, 6, none⟩, .string B8), (⟨bq, oq + q * 7, none⟩, .string K8), (⟨bq, oq + q * 7 + 1, none⟩, .int .i64 r8), (⟨bq, oq + q * 7 + 2, none⟩, .int .i64 c8), (⟨bq, oq + q * 7 + 3, none⟩, .int .i64 k8), (⟨bq, oq + q * 7 + 4, none⟩, .int .i64 p8), (⟨bq, oq + q * 7 + 5, none⟩, .bool d8), (⟨bq, oq + q * 7 + 6, none⟩, .string B8)]) (by kernel_rfl) (by kernel_rfl) (cellL_drew HC.out) ?_
        repeat (first
          | go_big_quiet_skip
          | (go_big_quiet_want; (first
            | (refine q_take (v := ?_) ?_ ?_; rotate_left; (focus (intro w hSw; (try simp only [CellL] at hSw); go_split_ands; go_simp; (try (rw [if_neg (by omega)])); (try with_reducible rfl); done)))); (try simp only [Act.put, List.setIfInBounds_toArray, List.set_cons_zero, List.set_cons_succ]); go_big_quiet_on))
        refine wpQuiet_nil ?_
        intro w5 hw5
        have HW5 := Lib.hid (HW4.out.trans ((cellL_size hw5).mono HW4.out.size))
        clear hw5
        go_wp2_with fail
        go_ret
        exact ⟨rfl, HW5.out⟩
end Go.Proofs.Ytfjaklpddcafdaa

namespace Go.Proofs.Ytfjaklpddcafdaa
open Go.RowKit

theorem place_facts (s : List UInt8) : ∀ (l : List Itm), placeI l s ≤ l.length ∧ (∀ j, j < placeI l s → ∃ x, l[j]? = some x ∧ ltB x.key s = true) ∧ (∀ x, l[placeI l s]? = some x → ltB x.key s = false)
  | [] => ⟨Nat.le_refl _, fun j h => absurd h (Nat.not_lt_zero _), fun x h => by cases h⟩
  | y :: l => by
    obtain ⟨h1, h2, h3⟩ := place_facts s l
    cases hy : ltB y.key s with
    | false =>
      have e : placeI (y :: l) s = 0 := by unfold placeI; simp only [List.takeWhile_cons, hy, Bool.false_eq_true, if_false, List.length_nil]
      rw [e]
      exact ⟨Nat.zero_le _, fun j h => absurd h (Nat.not_lt_zero _), fun x hx => by injection hx with hx; exact hx ▸ hy⟩
    | true =>
      have e : placeI (y :: l) s = placeI l s + 1 := by unfold placeI; simp only [List.takeWhile_cons, hy, if_true, List.length_cons]
      rw [e]
      refine ⟨Nat.succ_le_succ h1, fun j h => ?_, fun x hx => h3 x hx⟩
      cases j with
      | zero => exact ⟨y, rfl, hy⟩
      | succ j => exact h2 j (Nat.lt_of_succ_lt_succ h)
theorem iless (a b : List UInt8) (K U : ByteArray) (hK : str a = K) (hU : str b = U) (ha : a.length ≤ 1000000) (v : Bool) (hv : ltB a b = v) (w : World) : Calls Try.prog 18 #[.string K, .string U] w fun e w' => e = .returned (.bool v) ∧ Below w.heap.size w w' := by
  subst hK hU
  exact (ref_less a b (by omega) w).mono fun e w' ⟨h1, _, h2⟩ => ⟨h1.trans (by rw [hv]), h2 ▸ below_drewN (Below.refl _ _) _⟩
set_option maxRecDepth 100000 in
set_option maxHeartbeats 8000000 in
theorem itemFinds_walk (HRI : IRightC 10) (HCM : ICmpC 12) (HWI : IWinsC 13) (HME : IMergeC 20) (HLI : IListC 16) (HFI : IFindC 15)
    (A : Option Addr) (c n : Nat) (l : List Itm) (s : List UInt8) (U : ByteArray) (hn : n = l.length) (hU : str s = U) (w : World) (hl : kItm.Rd w w.heap.size A c l) :
    Calls Try.prog 4 #[.slice A n c, .string U] w fun e w' => e = .returned (.bool true) ∧ Below w.heap.size w w' := by
  have A0 := fun w => Lib.hid (awake18 HRI HCM HWI HME w)
  have HW := Lib.hid (Below.refl w.heap.size w)
  have HL := Lib.hid hl
  have hmx := rd_maxI hl hn
  have hcx : n ≤ c := by rw [hn]; exact hl.room
  obtain ⟨la, hla⟩ : ∃ z, longI 40 l = z := ⟨_, rfl⟩
  have hz : U.size = s.length := by rw [← hU]; exact str_size _
  obtain ⟨lb, hlb⟩ : ∃ z, decide (300 < s.length) = z := ⟨_, rfl⟩
  have hd1 : decide ((300 : Int) < (U.size : Int)) = lb := by rw [← hlb, hz]; exact decide_eq_decide.2 (by omega)
  have hd2 : decide ((U.size : Int) > 300) = lb := hd1
  have hd3 : decide (300 < U.size) = lb := by rw [← hlb, hz]
  have LA := fun w hr => Lib.hid (ref_ilong 40 40 rfl (by omega) A c n l hn la hla w hr)
  by_cases hlong : la = true ∨ lb = true
  · clear HRI HCM HWI HME HLI HFI hn hU hl hla hlb hz
    cases la <;> cases lb
    all_goals first
      | (exfalso; simp at hlong; done)
      | (clear hlong
         go_enter Try.func4, Try.ntmps4
         go_wp2_with (first
           | ((with_reducible refine (A0 _).out.mono ?_); rintro e w9 ⟨rfl, hq⟩; (try replace HL := Lib.hid (HL.out.call hq)); replace HW := Lib.hid (HW.out.trans (hq.mono HW.out.size)); clear hq)
           | ((with_reducible refine (LA _ HL.out).out.mono ?_); rintro e w9 ⟨rfl, hq⟩; (try replace HL := Lib.hid (HL.out.call hq)); replace HW := Lib.hid (HW.out.trans (hq.mono HW.out.size)); clear hq))
         go_ret
         exact ⟨rfl, HW.out⟩)
  · obtain rfl : la = false := by cases la; rfl; exact absurd (.inl rfl) hlong
    obtain rfl : lb = false := by cases lb; rfl; exact absurd (.inr rfl) hlong
    clear hlong
    have sl := (SmallI.long hla).mono (show 40 ≤ 1000 by omega)
    have hs3 : s.length ≤ 1000 := by have := of_decide_eq_false hlb; omega
    obtain ⟨v, hv⟩ : ∃ v, listI l = v := ⟨_, rfl⟩
    have C1 := fun w h => Lib.hid (HLI A c n l hn sl v hv w h)
    have C2 := fun w h => Lib.hid (ref_ilist A c n l hn sl.keys v hv w h)
    have F0 := HFI A c n l s U hn sl hU hs3
    cases v with
    | false =>
      have C3 := fun w h => Lib.hid (F0.2 hv w h)
      clear HRI HCM HWI HME HLI HFI hn hU hl hla hlb hz F0 hv sl hs3
      go_enter Try.func4, Try.ntmps4
      go_wp2_with (first
        | ((with_reducible refine (A0 _).out.mono ?_); rintro e w9 ⟨rfl, hq⟩; (try replace HL := Lib.hid (HL.out.call hq)); replace HW := Lib.hid (HW.out.trans (hq.mono HW.out.size)); clear hq)
        | ((with_reducible refine (LA _ HL.out).out.mono ?_); rintro e w9 ⟨rfl, hq⟩; (try replace HL := Lib.hid (HL.out.call hq)); replace HW := Lib.hid (HW.out.trans (hq.mono HW.out.size)); clear hq)
        | ((with_reducible refine (C3 _ HL.out).out.mono ?_); rintro e w9 ⟨rfl, hq⟩; (try replace HL := Lib.hid (HL.out.call hq)); replace HW := Lib.hid (HW.out.trans (hq.mono HW.out.size)); clear hq)
        | ((with_reducible refine (C1 _ HL.out).out.mono ?_); rintro e w9 ⟨rfl, hq⟩; (try replace HL := Lib.hid (HL.out.call hq)); replace HW := Lib.hid (HW.out.trans (hq.mono HW.out.size)); clear hq)
        | ((with_reducible refine (C2 _ HL.out).out.mono ?_); rintro e w9 ⟨rfl, hq⟩; (try replace HL := Lib.hid (HL.out.call hq)); replace HW := Lib.hid (HW.out.trans (hq.mono HW.out.size)); clear hq))
      go_ret
      exact ⟨rfl, HW.out⟩
    | true =>
      obtain ⟨q, hq⟩ : ∃ q, placeI l s = q := ⟨_, rfl⟩
      obtain ⟨o, ho⟩ : ∃ o, hereI l s = o := ⟨_, rfl⟩
      have C3 := fun w h => Lib.hid (F0.1 hv q hq o ho w h)
      obtain ⟨hp1, hp2, hp3⟩ := place_facts s l
      rw [hq] at hp1 hp2 hp3
      have hqn : q ≤ n := by omega
      have HN := Lib.hid hn
      have HU := Lib.hid hU
      have HP2 := Lib.hid hp2
      have HP3 := Lib.hid hp3
      have HK := Lib.hid sl.keys
      have HO : Hid (hereI l s = o ∧ placeI l s = q) := ⟨ho, hq⟩
      clear HRI HCM HWI HME HLI HFI hn hU hl hla hlb hz F0 hv sl hs3 hq ho hp1 hp2 hp3
      go_enter Try.func4, Try.ntmps4
      go_wp2_with (first
        | ((with_reducible refine (A0 _).out.mono ?_); rintro e w9 ⟨rfl, hq⟩; (try replace HL := Lib.hid (HL.out.call hq)); replace HW := Lib.hid (HW.out.trans (hq.mono HW.out.size)); clear hq)
        | ((with_reducible refine (LA _ HL.out).out.mono ?_); rintro e w9 ⟨rfl, hq⟩; (try replace HL := Lib.hid (HL.out.call hq)); replace HW := Lib.hid (HW.out.trans (hq.mono HW.out.size)); clear hq)
        | ((with_reducible refine (C3 _ HL.out).out.mono ?_); rintro e w9 ⟨rfl, hq⟩; (try replace HL := Lib.hid (HL.out.call hq)); replace HW := Lib.hid (HW.out.trans (hq.mono HW.out.size)); clear hq)
        | ((with_reducible refine (C1 _ HL.out).out.mono ?_); rintro e w9 ⟨rfl, hq⟩; (try replace HL := Lib.hid (HL.out.call hq)); replace HW := Lib.hid (HW.out.trans (hq.mono HW.out.size)); clear hq)
        | ((with_reducible refine (C2 _ HL.out).out.mono ?_); rintro e w9 ⟨rfl, hq⟩; (try replace HL := Lib.hid (HL.out.call hq)); replace HW := Lib.hid (HW.out.trans (hq.mono HW.out.size)); clear hq))
      go_loopw [7] (fun i wr => ∃ j : Nat, j ≤ q ∧ i = .int .i64 j ∧ Hid (kItm.Rd wr wr.heap.size A c l) ∧ Hid (Below w.heap.size w wr)) (fun i _ => n - (intOf i).toNat)
      case atStart => exact ⟨0, by omega, rfl, HL, HW⟩
      case round =>
        clear HW HL
        obtain ⟨j, hj, rfl, HL, HW⟩ := hrel
        by_cases hlt : j < n
        · obtain ⟨x, hg, hd, hxm⟩ := get_some (l := l) (k := j) (by have := HN.out; omega)
          obtain ⟨b, bo, rfl, hb1, hcell⟩ := itms_at HL.out (by have := HN.out; omega)
          obtain ⟨p0, -⟩ := hcell j x hg
          obtain ⟨K, hK⟩ : ∃ K, str x.key = K := ⟨_, rfl⟩
          rw [hK] at p0
          obtain ⟨y, hy⟩ : ∃ y, ltB x.key s = y := ⟨_, rfl⟩
          have CL := fun w => Lib.hid (iless x.key s K U hK HU.out (HK.out x hxm) y hy w)
          have hj0 : (0 : Int) ≤ (j : Int) := by omega
          have hjn : (j : Int) < (n : Int) := by omega
          by_cases hjq : j < q
          · obtain rfl : y = true := by
              obtain ⟨x', h1, h2⟩ := HP2.out j hjq
              rw [hg] at h1
              injection h1 with h1
              subst h1
              exact hy.symm.trans h2
            clear hcell hg hd hxm hK hy
            go_wp2_with (first
            | ((with_reducible refine (CL _).out.mono ?_); rintro e w9 ⟨rfl, hq⟩; (try replace HL := Lib.hid (HL.out.call hq)); replace HW := Lib.hid (HW.out.trans (hq.mono HW.out.size)); clear hq))
            go_roundw
            case rel => exact ⟨j + 1, by omega, by go_num, HL, HW⟩
            case measure => simp [intOf]; omega
          · obtain rfl : j = q := by omega
            obtain rfl : y = false := hy.symm.trans (HP3.out x hg)
            obtain ⟨o2, ho2⟩ : ∃ o2, decide (x.key = s) = o2 := ⟨_, rfl⟩
            obtain rfl : o = o2 := by
              have h := HO.out.1
              unfold hereI at h
              rw [HO.out.2, hg] at h
              exact h.symm.trans ho2
            have hkl : (K.toList == U.toList) = o := by
              rw [← ho2, ← hK, ← HU.out, str_toList, str_toList]
              exact Bool.eq_iff_iff.2 (by simp)
            have hw1 : IntKind.i64.wrap ((n : Int) - 1) = (n : Int) - 1 := IntWalk.i64_in _ (by omega)
            have hm1 : min (j : Int) ((n : Int) - 1) = (j : Int) := by omega
            have hm2 : (if (j : Int) < (n : Int) - 1 then (j : Int) else (n : Int) - 1) = (j : Int) := by split <;> omega
            have hm3 : (if (n : Int) - 1 < (j : Int) then (n : Int) - 1 else (j : Int)) = (j : Int) := by split <;> omega
            have hjd : decide ((j : Int) < (n : Int)) = true := decide_eq_true hjn
            clear hcell hg hd hxm hK hy ho2 HO
            go_wp2_with ((with_reducible refine (CL _).out.mono ?_); rintro e w9 ⟨rfl, hq⟩; have p0' := ((bcell hq).1 _ _ (World.block_lt_of_cell? _ _ p0)).trans p0; (try replace HL := Lib.hid (HL.out.call hq)); replace HW := Lib.hid (HW.out.trans (hq.mono HW.out.size)); clear hq)
            go_ret
            exact ⟨rfl, HW.out⟩
        · obtain rfl : j = n := by omega
          obtain rfl : q = j := by omega
          obtain rfl : o = false := by
            have h := HO.out.1
            unfold hereI at h
            rw [HO.out.2, List.getElem?_eq_none (by have := HN.out; omega)] at h
            exact h.symm
          clear HO
          go_wp2_with fail
          go_ret
          exact ⟨rfl, HW.out⟩
end Go.Proofs.Ytfjaklpddcafdaa
