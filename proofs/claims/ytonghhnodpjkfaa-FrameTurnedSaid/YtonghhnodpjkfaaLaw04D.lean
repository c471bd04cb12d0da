/-
  The walk of the fourth layer's law on turned bits.
-/
import Derived.Test.YtonghhnodpjkfaaLaw04A
import Derived.Test.YtonghhnodpjkfaaTurn
import Derived.BigRegion
import Derived.Laws.OwnMore
namespace Go.Proofs.Ytonghhnodpjkfaa
open Go.RowKit

set_option maxHeartbeats 4000000 in
set_option maxRecDepth 100000 in
theorem frameTurned_walk (A : Option Addr) (c : Nat) (x : List UInt8) (a t : Nat) (w : World) (h : RdB w w.heap.size A c x) (ha : a < 65536) (ht : t < 4294967296) :
    Calls Try.prog 5 #[.slice A x.length c, .int .u16 (a : Int), .int .u32 (t : Int)] w fun e w' => e = .returned (.bool true) ∧ Below w.heap.size w w' := by
  have hcap := h.cap
  have hroom := h.room
  unfold maxLen at hcap
  obtain ⟨n, hn⟩ : ∃ n, x.length = n := ⟨_, rfl⟩
  rw [hn] at hroom ⊢
  have HN := Lib.hid hn.symm
  have HNL := Lib.hid hn
  clear hn
  by_cases h400 : 400 < n
  · go_enter Try.func5, Try.ntmps5
    go_wp2_with fail
    refine (awake04 _).mono ?_; rintro e w1 ⟨rfl, hb⟩
    go_wp2
    go_ret
    exact ⟨rfl, hb⟩
  · by_cases hn0 : n = 0
    · subst hn0
      go_enter Try.func5, Try.ntmps5
      go_wp2_with fail
      refine (awake04 _).mono ?_; rintro e w1 ⟨rfl, hb⟩
      go_wp2
      go_ret
      exact ⟨rfl, hb⟩
    · have hn0' : 0 < n := by omega
      have hnz : ((n : Int) == 0) = false := by simp; omega
      obtain ⟨f, hf⟩ : ∃ f, a % (8 * n) = f := ⟨_, rfl⟩
      have hfl : f < 8 * n := by rw [← hf]; exact Nat.mod_lt _ (by omega)
      have hfi : (a : Int) % (8 * (n : Int)) = (f : Int) := by rw [← hf]; simp
      obtain ⟨p, hp⟩ : ∃ p, p = (putV n).length := ⟨_, rfl⟩
      obtain ⟨m, hm⟩ : ∃ m, m = (frameV x).length := ⟨_, rfl⟩
      have hmp : m = p + n + 4 := by rw [hm, frameV_len, HNL.out, hp]
      have hp3 : p ≤ 3 := by rw [hp]; exact putV_len 2 n (by omega)
      have hp0 : 0 < p := by rw [hp]; exact putV_pos n
      have HM := Lib.hid hm
      have HP := Lib.hid hp
      have HMP := Lib.hid hmp
      have hm5 : ¬ (m : Int) < (n : Int) + 5 := by omega
      have hm1 : m ≤ 500 := by omega
      have hmn : p + n ≤ m := by omega
      have hm0 : 0 < m := by omega
      have hhead : (m : Int) - 4 - (n : Int) = (p : Int) := by omega
      have h8 : (8 * (n : Int) == 0) = false := by simp; omega
      clear hn0 hf hm hp hmp
      go_enter Try.func5, Try.ntmps5
      go_wp2_with fail
      refine (awake04 _).mono ?_; rintro e w1 ⟨rfl, hb1⟩
      have hr := h.below hb1
      have hs := hb1.size
      replace hr := hr.quiet (World.grownBy_alloc w1 (.cells #[.slice A n c] 25) none) hs
      replace hb1 := hb1.alloc hs (.cells #[.slice A n c] 25)
      replace hs := hb1.size
      go_wp2_with fail
      refine (frm_make1 A c n w1.heap.size x _ HN.out (hr.more hs) (heap_new _ _ _ rfl) (by omega)).mono ?_; rintro e w5 ⟨v5, rfl, hown5, hb5⟩
      replace hown5 := hown5.mono hs
      replace hb1 := hb1.trans (hb5.mono hs)
      replace hr := h.below hb1
      obtain ⟨g, c5, rfl, hc5, hg5⟩ := own_some hown5 HM.out hm0
      have FE : Hid (frameV x = putV n ++ x ++ tailC (sumC (putV n ++ x))) := Lib.hid (by rw [frameV, HNL.out])
      rw [FE.out] at hown5
      clear hb5 h hs
      go_wp2_with fail
      simp only [hfi]
      go_loopw [11, 12] (fun tv i wr => ∃ (k : Nat) (cl : List UInt8) (r : Bool), k ≤ 32 ∧ f + k ≤ 8 * n ∧ i = .int .i64 (k : Int) ∧ tv = .bool r ∧ TurnSt x f t k cl r ∧ OwnB wr w.heap.size (.slice (some ⟨g, 0, none⟩) m c5) (putV n ++ cl ++ tailC (sumC (putV n ++ x))) ∧ Below w.heap.size w wr ∧ RdB wr w.heap.size A c x) (fun _ i _ => 32 - (intOf i).toNat)
      case atStart => exact ⟨0, x, false, by omega, by omega, rfl, rfl, .start x f t, hown5, hb1, hr⟩
      case round =>
        obtain ⟨k, cl, r, hk, hfk, rfl, rfl, st, hown, hbw, hrw⟩ := hrel
        have ST := Lib.hid st
        have HOW := Lib.hid hown
        have HBW := Lib.hid hbw
        have HRW := Lib.hid hrw
        clear hown5 hb1 hr
        by_cases hgo : k < 32 ∧ f + k < 8 * n
        · obtain ⟨hk32, hfk8⟩ := hgo
          obtain ⟨kk, hkk⟩ : ∃ kk, f + k = kk := ⟨_, rfl⟩
          have hkki : (f : Int) + (k : Int) = (kk : Int) := by omega
          have hkk8 : (kk : Int) < 8 * (n : Int) := by omega
          have HKK := Lib.hid hkk
          have hand := u32_and_nat (t / 2 ^ k) 1 (Nat.lt_of_le_of_lt (Nat.div_le_self _ _) ht) (by decide)
          rw [nat_mask1] at hand
          have hpow : ((t / 2 ^ k : Nat) : Int) = (t : Int) / 2 ^ k := by simp
          by_cases hbit : t / 2 ^ k % 2 = 1
          · have hnd : bits .and .u32 ((t : Int) / 2 ^ k) 1 = 1 := by rw [← hpow]; rw [hbit] at hand; exact hand
            obtain ⟨q, hq⟩ : ∃ q, kk / 8 = q := ⟨_, rfl⟩
            obtain ⟨s, hs8⟩ : ∃ s, kk % 8 = s := ⟨_, rfl⟩
            obtain ⟨u, hu⟩ : ∃ u, p + q = u := ⟨_, rfl⟩
            have hqi : (kk : Int) / 8 = (q : Int) := by omega
            have hsi : (kk : Int) % 8 = (s : Int) := by omega
            have hui : (p : Int) + (q : Int) = (u : Int) := by omega
            have hs8l : s < 8 := by omega
            have hqn : q < n := by omega
            have hum : u < m := by omega
            have hlen := st.inv.len
            have HCL : Hid (m = (putV n ++ cl ++ tailC (sumC (putV n ++ x))).length) := Lib.hid (by
              rw [List.length_append, List.length_append, tailC_len, hlen, HNL.out, ← HP.out]; exact HMP.out)
            have hcell := own_cells hown u (by rw [← HCL.out]; exact hum)
            have hfree := own_free hown u
            have HTN : Hid (∀ y, cl.getD q 0 = y → TurnSt x f t (k + 1) (cl.set q (flipB y kk)) true) := fun y hy => by
              have := st.turn hbit (by rw [HNL.out]; exact hfk8) (by rw [hkk]; exact hq) hy
              rwa [hkk] at this
            have HMID := Lib.hid (fun y => mid_set (a := putV n) (b := cl) (tailC (sumC (putV n ++ x))) (q := q) HP.out (by rw [hlen, HNL.out]; exact hqn) y)
            rw [← hu, mid_getD _ HP.out (by rw [hlen, HNL.out]; exact hqn), hu] at hcell
            rw [hu] at HMID
            obtain ⟨y, hy⟩ : ∃ y, cl.getD q 0 = y := ⟨_, rfl⟩
            rw [hy] at hcell
            have HX := Lib.hid (HTN.out y hy)
            have hxor := flip_int y (k := kk) hs8
            clear hown hbw hrw st hy HTN hlen hand hpow hbit hq hs8 hkk hfk hfk8 hu
            go_wp2
            go_region
            go_wp2
            go_roundw
            case rel => exact ⟨k + 1, _, true, by omega, by omega, by go_num, rfl, HX.out, by rw [← HMID.out]; exact World.ownsRow.drew (OwnB.stored HOW.out HCL.out u (flipB y kk)), below_store HBW.out hg5 HBW.out.size u _, HRW.out.below (below_store (Below.refl _ _) hg5 HBW.out.size u _)⟩
            case measure => simp [intOf]; omega
          · have hnd : bits .and .u32 ((t : Int) / 2 ^ k) 1 = 0 := by
              rw [← hpow]
              rw [show t / 2 ^ k % 2 = 0 by omega] at hand
              exact hand
            have HST := Lib.hid (ST.out.skip (by omega))
            clear hown hbw hrw st
            go_wp2
            go_roundw
            case rel =>
              exact ⟨k + 1, cl, r, by omega, by omega, by go_num, rfl, HST.out, HOW.out, HBW.out, HRW.out⟩
            case measure => simp [intOf]; omega
        · have hend : k = 32 ∨ (k < 32 ∧ (f : Int) + (k : Int) = 8 * (n : Int)) := by omega
          have HS := Lib.hid (st.inv.behind hk (by rw [HNL.out]; omega) (putV n))
          have HW := Lib.hid st.was
          have HSA := Lib.hid st.same
          have HCL : Hid (m = (putV n ++ cl ++ tailC (sumC (putV n ++ x))).length) := Lib.hid (by
              rw [List.length_append, List.length_append, tailC_len, st.inv.len, HNL.out, ← HP.out]; exact HMP.out)
          have HLEN := Lib.hid st.inv.len
          obtain ⟨A5, c6, hv5, hrc⟩ := OwnB.read_n hown HCL.out
          injection hv5 with hA5 _ hc6
          subst hA5 hc6
          have hsw := hbw.size
          clear hown st HOW HBW HRW
          cases r with
          | false =>
            obtain rfl := HSA.out rfl
            have HO : Hid (openV (putV n ++ cl ++ tailC (sumC (putV n ++ cl))) = (cl, 0)) := Lib.hid (by rw [← FE.out]; exact open_frame cl (by rw [HNL.out]; omega))
            clear HS HW HSA
            rcases hend with rfl | ⟨hk32, hfk2⟩
            all_goals
              go_wp2_with fail
              refine (frm_open_is _ c5 m _ _ cl 0 n _ HCL.out hrc (Nat.le_refl _) (by omega) HO.out HN.out).mono ?_; rintro e w6 ⟨A6, c6, rfl, hr6, hb6⟩
              have hrw2 := hrw.quiet (grown_of_below hb6 none) hsw
              have HB6 := Lib.hid (hbw.trans (hb6.mono hsw))
              clear hrc hrw hbw hb6
              go_wp2_with fail
              refine (ref_eq_same A6 A c6 c n n _ _ cl _ HN.out HN.out hr6.row hrw2.row (by rw [HNL.out]; omega)).mono ?_; rintro e w7 ⟨rfl, hg7⟩
              have fin := Lib.hid (HB6.out.trans ((grown_none hg7).mono HB6.out.size))
              clear hr6 hrw2 hg7
              go_wp2
              go_ret
              exact ⟨rfl, fin.out⟩
          | true =>
            have HO : Hid (openV (putV n ++ cl ++ tailC (sumC (putV n ++ x))) = ([], 13)) := Lib.hid (by
              have := open_turned x cl HLEN.out (by rw [HNL.out]; omega)
              rw [HNL.out] at this
              exact this fun e => HW.out.1 rfl (HS.out.1 e))
            clear HS HW HSA
            rcases hend with rfl | ⟨hk32, hfk2⟩
            all_goals
              go_wp2_with fail
              refine (frm_open_is _ c5 m _ _ [] 13 0 _ HCL.out hrc (Nat.le_refl _) (by omega) HO.out rfl).mono ?_; rintro e w6 ⟨A6, c6, rfl, -, hb6⟩
              have fin := Lib.hid (hbw.trans (hb6.mono hsw))
              clear hrc hrw hbw hb6
              go_wp2
              go_ret
              exact ⟨rfl, fin.out⟩
end Go.Proofs.Ytonghhnodpjkfaa
