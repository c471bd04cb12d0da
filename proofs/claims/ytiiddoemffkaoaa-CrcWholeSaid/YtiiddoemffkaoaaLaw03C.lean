/-
  The walk of the third layer's law on bytes that end in their sum.
-/
import Derived.Test.YtiiddoemffkaoaaLaw03A
namespace Go.Proofs.Ytiiddoemffkaoaa
open Go.RowKit

theorem crc_whole_yes (A : Option Addr) (c n B : Nat) (l : List UInt8) (w : World) (hn : n = l.length) (h : RdB w B A c l) (hB : B ≤ w.heap.size) (hm : n ≤ 1000000) (he : endsC l = true) (t : List UInt8) (ht : t = l.take (l.length - 4)) :
    Calls Try.prog 12 #[.slice A n c] w fun e w' => ∃ v, e = .returned (.tuple #[v, .bool true]) ∧ OwnB w' w.heap.size v t ∧ Below w.heap.size w w' :=
  (crc_whole A c n B l w hn h hB hm).mono fun e w' ⟨v, h1, h2, h3⟩ => ⟨v, by rw [h1, he], by rw [he, if_pos rfl, ← ht] at h2; exact h2, h3⟩
theorem crc_whole_no (A : Option Addr) (c n B : Nat) (l : List UInt8) (w : World) (hn : n = l.length) (h : RdB w B A c l) (hB : B ≤ w.heap.size) (hm : n ≤ 1000000) (he : endsC l = false) :
    Calls Try.prog 12 #[.slice A n c] w fun e w' => ∃ v, e = .returned (.tuple #[v, .bool false]) ∧ OwnB w' w.heap.size v [] ∧ Below w.heap.size w w' :=
  (crc_whole A c n B l w hn h hB hm).mono fun e w' ⟨v, h1, h2, h3⟩ => ⟨v, by rw [h1, he], by rw [he] at h2; exact h2, h3⟩
theorem ref_whole_yes (A : Option Addr) (c n B : Nat) (l : List UInt8) (w : World) (hn : n = l.length) (h : RdB w B A c l) (hB : B ≤ w.heap.size) (hm : n ≤ 1000000) (he : endsC l = true) (m : Nat) (hnm : n = m + 4) :
    Calls Try.prog 13 #[.slice A n c] w fun e w' => e = .returned (.int .i64 (m : Int)) ∧ Below w.heap.size w w' :=
  (ref_whole A c n B l w hn h hB hm).mono fun e w' ⟨h1, h2⟩ => ⟨by rw [h1, aheadC, he, if_pos rfl]; congr 2; omega, h2⟩
theorem ref_whole_no (A : Option Addr) (c n B : Nat) (l : List UInt8) (w : World) (hn : n = l.length) (h : RdB w B A c l) (hB : B ≤ w.heap.size) (hm : n ≤ 1000000) (he : endsC l = false) :
    Calls Try.prog 13 #[.slice A n c] w fun e w' => e = .returned (.int .i64 (-1)) ∧ Below w.heap.size w w' :=
  (ref_whole A c n B l w hn h hB hm).mono fun e w' ⟨h1, h2⟩ => ⟨by rw [h1, aheadC, he]; rfl, h2⟩
theorem OwnB.read_n {w : World} {base n : Nat} {v : Value} {l : List UInt8} (h : OwnB w base v l) (hn : n = l.length) : ∃ A c, v = .slice A n c ∧ RdB w w.heap.size A c l := by
  subst hn; exact h.read
theorem take_summed (b : List UInt8) : b = (b ++ tailC (sumC b)).take ((b ++ tailC (sumC b)).length - 4) := by
  rw [List.length_append, tailC_len, Nat.add_sub_cancel, List.take_left']
  rfl
theorem endsC_long {l : List UInt8} (h : endsC l = true) : 4 ≤ l.length := (of_decide_eq_true h).1

set_option maxHeartbeats 2000000 in
set_option maxRecDepth 100000 in
theorem crcWhole_walk (A : Option Addr) (c : Nat) (b : List UInt8) (w : World) (h : RdB w w.heap.size A c b) :
    Calls Try.prog 4 #[.slice A b.length c] w fun e w' => e = .returned (.bool true) ∧ Below w.heap.size w w' := by
  have hcap := h.cap
  have hroom := h.room
  unfold maxLen at hcap
  obtain ⟨n, hn⟩ : ∃ n, b.length = n := ⟨_, rfl⟩
  rw [hn] at hroom ⊢
  have HN := Lib.hid hn.symm
  have HNL := Lib.hid hn
  have HS := Lib.hid (endsC_summed b)
  have HTS := Lib.hid (take_summed b)
  have HLS : Hid (sumC b < 4294967296) := sumC_lt b
  obtain ⟨n8, hn8⟩ : ∃ n8, n8 = (b ++ tailC (sumC b)).length := ⟨_, rfl⟩
  have HN8 := Lib.hid hn8
  have hn84 : n8 = n + 4 := by rw [hn8, List.length_append, tailC_len, hn]
  have HN84 := Lib.hid hn84
  clear hn hn8 hn84
  by_cases h400 : 400 < n
  · go_enter Try.func4, Try.ntmps4
    go_wp2_with fail
    refine (awake03 _).mono ?_; rintro e w1 ⟨rfl, hb⟩
    go_wp2
    go_ret
    exact ⟨rfl, hb⟩
  · by_cases hends : endsC b = true
    · obtain ⟨m, hnm⟩ : ∃ m, n = m + 4 := ⟨n - 4, by have := endsC_long hends; rw [HNL.out] at this; omega⟩
      have HE := Lib.hid hends
      have HNM := Lib.hid hnm
      have HM : Hid (m = (b.take m).length) := Lib.hid (by rw [List.length_take, HNL.out]; omega)
      have HT : Hid (b.take m = b.take (b.length - 4)) := Lib.hid (by rw [HNL.out]; congr 1; omega)
      have hmc : m ≤ c := by omega
      have hmc' : (m : Int) ≤ c := by omega
      have hmx : (m : Int) ≤ 400 := by omega
      have hread := fun {w' : World} (h : RdB w' w.heap.size A c b) => h.take m
      generalize b.take m = t1 at *
      clear hends hnm
      go_enter Try.func4, Try.ntmps4
      go_wp2_with fail
      refine (awake03 _).mono ?_; rintro e w1 ⟨rfl, hb1⟩
      have hr := h.below hb1
      have hs := hb1.size
      go_wp2_with fail
      refine (crc_whole_yes A c n w.heap.size b _ HN.out hr hs (by omega) HE.out _ HT.out).mono ?_; rintro e w2 ⟨v2, rfl, hown2, hb2⟩
      replace hr := hr.below (hb2.mono hs)
      replace hb1 := hb1.trans (hb2.mono hs)
      have hs := hb1.size
      obtain ⟨A2, c2, rfl, hr2⟩ := hown2.read_n HM.out
      clear hown2 hb2
      go_wp2_with fail
      refine (ref_whole_yes A c n w.heap.size b _ HN.out hr hs (by omega) HE.out m HNM.out).mono ?_; rintro e w3 ⟨rfl, hb3⟩
      replace hr := hr.below (hb3.mono hs)
      replace hr2 := hr2.below hb3
      replace hb1 := hb1.trans (hb3.mono hs)
      have hs := hb1.size
      clear hb3
      have hrt := hread hr
      go_wp2_with fail
      all_goals
        refine (ref_eq_same A2 A c2 c m _ _ _ t1 _ HM.out (by first | exact HM.out | (rw [← HM.out]; omega)) hr2.row hrt.row (by rw [← HM.out]; omega)).mono ?_; rintro e w4 ⟨rfl, hg4⟩
        replace hr := hr.quiet hg4 hs
        replace hb1 := hb1.trans ((grown_none hg4).mono hs)
        have hs := hb1.size
        clear hg4 hr2 hrt hread
        have hown0 : OwnB (w4.alloc (.cells #[] 5)) w4.heap.size (.slice (some ⟨w4.heap.size, 0, none⟩) 0 0) [] := own_none w4 5 1
        replace hr := hr.quiet (World.grownBy_alloc w4 (.cells #[] 5) none) hs
        replace hb1 := hb1.alloc hs (.cells #[] 5)
        have hle : w4.heap.size ≤ (w4.alloc (.cells #[] 5)).heap.size := by simp
        have hlen0 : ([] : List UInt8).length + b.length ≤ 140737488355328 := by rw [HNL.out]; simp; omega
        go_wp2_with (at_builtin; refine wpList_app_row rfl (.tmp 46) (.tmp 47) rfl w4.heap.size _ [] rfl hown0 w.heap.size A c n b HN.out rfl hr.row hlen0 hle ?_; intro v5 w5 hown5 _ hb5 _)
        replace hr := hr.below (hb5.mono hs)
        replace hb1 := hb1.trans (hb5.mono hs)
        have hs5 := hb5.size
        rw [List.nil_append] at hown5
        replace hs5 := Nat.le_trans hle hs5
        have hsw := Nat.le_trans hs hs5
        replace hr := hr.quiet (World.grownBy_alloc w5 (.cells #[.slice A n c] 24) none) hsw
        replace hown5 := hown5.alloc (.cells #[.slice A n c] 24)
        replace hb1 := hb1.alloc hsw (.cells #[.slice A n c] 24)
        have hle6 : w4.heap.size ≤ (w5.alloc (.cells #[.slice A n c] 24)).heap.size := by simp; omega
        clear hown0 hb5 hle hlen0 hsw
        refine (crc_sum1 A c n w.heap.size _ b _ HN.out hr (heap_new _ _ _ rfl)).mono ?_; rintro e w6 ⟨rfl, rfl⟩
        have hlt32 := HLS.out
        go_wp2_with fail
        refine (crc_tail (sumC b) _ hlt32).mono ?_; rintro e w7 ⟨v7, rfl, hown7, hb7⟩
        replace hr := hr.below (hb7.mono hb1.size)
        replace hb1 := hb1.trans (hb7.mono hb1.size)
        replace hown5 := hown5.below hb7
        replace hle6 := Nat.le_trans hle6 hb7.size
        obtain ⟨A7, c7, rfl, hr7⟩ := hown7.read_n (n := 4) rfl
        have hlen7 : b.length + (tailC (sumC b)).length ≤ 140737488355328 := by rw [HNL.out, tailC_len]; omega
        clear hown7 hb7 hs5
        go_wp2_with (at_builtin; refine wpList_app_row rfl (.tmp 48) (.tmp 52) rfl w4.heap.size _ b rfl hown5 _ A7 c7 4 (tailC (sumC b)) rfl rfl hr7.row hlen7 hle6 ?_; intro v8 w8 hown8 _ hb8 _; obtain ⟨A8, c8, rfl, hr8⟩ := hown8.read_n HN8.out)
        replace hr := hr.below (hb8.mono hs)
        replace hb1 := hb1.trans (hb8.mono hs)
        have hs8 := hb1.size
        clear hown8 hb8 hown5 hr7 hlen7 hle6
        refine (crc_whole_yes A8 c8 n8 w8.heap.size _ _ HN8.out hr8 (Nat.le_refl _) (by rw [HN84.out]; omega) HS.out b HTS.out).mono ?_; rintro e w9 ⟨v9, rfl, hown9, hb9⟩
        replace hr := hr.below (hb9.mono hs8)
        have HB := Lib.hid (hb1.trans (hb9.mono hs8))
        obtain ⟨A9, c9, rfl, hr9⟩ := hown9.read_n HN.out
        clear hown9 hb9 hr8 hb1 hs8
        go_wp2_with fail
        refine (ref_eq_same A9 A c9 c n n _ _ b _ HN.out HN.out hr9.row hr.row (by rw [HNL.out]; omega)).mono ?_; rintro e w10 ⟨rfl, hg⟩
        have fin := Lib.hid (HB.out.trans ((grown_none hg).mono HB.out.size))
        clear hg hr hr9
        go_wp2
        go_ret
        exact ⟨rfl, fin.out⟩
    · have hends : endsC b = false := by simpa using hends
      have HE := Lib.hid hends
      clear hends
      go_enter Try.func4, Try.ntmps4
      go_wp2_with fail
      refine (awake03 _).mono ?_; rintro e w1 ⟨rfl, hb1⟩
      have hr := h.below hb1
      have hs := hb1.size
      go_wp2_with fail
      refine (crc_whole_no A c n w.heap.size b _ HN.out hr hs (by omega) HE.out).mono ?_; rintro e w2 ⟨v2, rfl, hown2, hb2⟩
      replace hr := hr.below (hb2.mono hs)
      replace hb1 := hb1.trans (hb2.mono hs)
      have hs := hb1.size
      obtain ⟨A2, c2, rfl, hr2⟩ := hown2.read_n (n := 0) rfl
      clear hown2 hb2 hr2
      go_wp2_with fail
      refine (ref_whole_no A c n w.heap.size b _ HN.out hr hs (by omega) HE.out).mono ?_; rintro e w4 ⟨rfl, hb3⟩
      replace hr := hr.below (hb3.mono hs)
      replace hb1 := hb1.trans (hb3.mono hs)
      have hs := hb1.size
      clear hb3
      all_goals
        have hown0 : OwnB (w4.alloc (.cells #[] 5)) w4.heap.size (.slice (some ⟨w4.heap.size, 0, none⟩) 0 0) [] := own_none w4 5 1
        replace hr := hr.quiet (World.grownBy_alloc w4 (.cells #[] 5) none) hs
        replace hb1 := hb1.alloc hs (.cells #[] 5)
        have hle : w4.heap.size ≤ (w4.alloc (.cells #[] 5)).heap.size := by simp
        have hlen0 : ([] : List UInt8).length + b.length ≤ 140737488355328 := by rw [HNL.out]; simp; omega
        go_wp2_with (at_builtin; refine wpList_app_row rfl (.tmp 46) (.tmp 47) rfl w4.heap.size _ [] rfl hown0 w.heap.size A c n b HN.out rfl hr.row hlen0 hle ?_; intro v5 w5 hown5 _ hb5 _)
        replace hr := hr.below (hb5.mono hs)
        replace hb1 := hb1.trans (hb5.mono hs)
        have hs5 := hb5.size
        rw [List.nil_append] at hown5
        replace hs5 := Nat.le_trans hle hs5
        have hsw := Nat.le_trans hs hs5
        replace hr := hr.quiet (World.grownBy_alloc w5 (.cells #[.slice A n c] 24) none) hsw
        replace hown5 := hown5.alloc (.cells #[.slice A n c] 24)
        replace hb1 := hb1.alloc hsw (.cells #[.slice A n c] 24)
        have hle6 : w4.heap.size ≤ (w5.alloc (.cells #[.slice A n c] 24)).heap.size := by simp; omega
        clear hown0 hb5 hle hlen0 hsw
        refine (crc_sum1 A c n w.heap.size _ b _ HN.out hr (heap_new _ _ _ rfl)).mono ?_; rintro e w6 ⟨rfl, rfl⟩
        have hlt32 := HLS.out
        go_wp2_with fail
        refine (crc_tail (sumC b) _ hlt32).mono ?_; rintro e w7 ⟨v7, rfl, hown7, hb7⟩
        replace hr := hr.below (hb7.mono hb1.size)
        replace hb1 := hb1.trans (hb7.mono hb1.size)
        replace hown5 := hown5.below hb7
        replace hle6 := Nat.le_trans hle6 hb7.size
        obtain ⟨A7, c7, rfl, hr7⟩ := hown7.read_n (n := 4) rfl
        have hlen7 : b.length + (tailC (sumC b)).length ≤ 140737488355328 := by rw [HNL.out, tailC_len]; omega
        clear hown7 hb7 hs5
        go_wp2_with (at_builtin; refine wpList_app_row rfl (.tmp 48) (.tmp 52) rfl w4.heap.size _ b rfl hown5 _ A7 c7 4 (tailC (sumC b)) rfl rfl hr7.row hlen7 hle6 ?_; intro v8 w8 hown8 _ hb8 _; obtain ⟨A8, c8, rfl, hr8⟩ := hown8.read_n HN8.out)
        replace hr := hr.below (hb8.mono hs)
        replace hb1 := hb1.trans (hb8.mono hs)
        have hs8 := hb1.size
        clear hown8 hb8 hown5 hr7 hlen7 hle6
        refine (crc_whole_yes A8 c8 n8 w8.heap.size _ _ HN8.out hr8 (Nat.le_refl _) (by rw [HN84.out]; omega) HS.out b HTS.out).mono ?_; rintro e w9 ⟨v9, rfl, hown9, hb9⟩
        replace hr := hr.below (hb9.mono hs8)
        have HB := Lib.hid (hb1.trans (hb9.mono hs8))
        obtain ⟨A9, c9, rfl, hr9⟩ := hown9.read_n HN.out
        clear hown9 hb9 hr8 hb1 hs8
        go_wp2_with fail
        refine (ref_eq_same A9 A c9 c n n _ _ b _ HN.out HN.out hr9.row hr.row (by rw [HNL.out]; omega)).mono ?_; rintro e w10 ⟨rfl, hg⟩
        have fin := Lib.hid (HB.out.trans ((grown_none hg).mono HB.out.size))
        clear hg hr hr9
        go_wp2
        go_ret
        exact ⟨rfl, fin.out⟩
end Go.Proofs.Ytiiddoemffkaoaa
