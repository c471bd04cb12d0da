/-
  The walks of the document's own answers for frames.
-/
import Derived.Test.YtonghhnodpjkfaaFrmB
import Derived.Test.YtonghhnodpjkfaaVarF
import Derived.Test.YtonghhnodpjkfaaCrcD
namespace Go.Proofs.Ytonghhnodpjkfaa
open Go.RowKit

theorem run_cut_int {T E : TypeId} (ht : Try.prog.underlying T = some (.slice E)) (hs : ∀ w, (sizeOf E).run Try.prog w = .ok 1 w) (w : World) (A : Option Addr) (n c k m : Nat) (i : Int) (hi : i = ((k + m : Nat) : Int)) (h2 : k + m ≤ c) :
    (Instr.slice T (.slice A n c) (some (.int .i64 (k : Int))) (some (.int .i64 i)) none).run Try.prog w = .ok (.slice (cutA A k c) m (c - k)) w := by
  subst hi
  have := run_cut2 ht hs w A n c k ((k + m : Nat) : Int) (by omega) (by omega)
  rwa [Int.toNat_natCast, Nat.add_sub_cancel_left] at this

set_option maxHeartbeats 1000000 in
set_option maxRecDepth 100000 in
theorem ref_frame (A : Option Addr) (c n B : Nat) (l : List UInt8) (w : World) (hn : n = l.length) (h : RdB w B A c l) (hB : B ≤ w.heap.size) (hm : n ≤ 1000000000) :
    Calls Try.prog 10 #[.slice A n c] w (RetB w.heap.size w (frameV l)) := by
  have HN := Lib.hid hn
  have hl1 : (putV n).length + l.length ≤ 140737488355328 := by have := putV_len10 n (by omega); omega
  have HP : Hid ((putV n).length ≤ 9) := Lib.hid (putV_len10 n (by omega))
  clear hn
  go_enter Try.func10, Try.ntmps10
  go_wp2_with fail
  refine (ref_bytes n n _ (Nat.le_refl _) (by omega)).mono ?_; rintro e w1 ⟨v1, rfl, hown1, hb1⟩
  have hr := h.quiet (grown_of_below hb1 none) hB
  have hs1 := hb1.size
  have HB := Lib.hid hb1
  clear h hb1
  go_wp2_with (at_builtin; refine wpList_app_row rfl (.tmp 7) (.tmp 8) rfl w.heap.size _ (putV n) rfl hown1 B A c n l HN.out rfl hr.row hl1 hs1 ?_; intro v2 w2 hown2 _ hb2 _)
  have hb2 := HB.out.trans hb2
  obtain ⟨ys, hys⟩ : ∃ ys, ys = putV n ++ l := ⟨_, rfl⟩
  rw [← hys] at hown2
  obtain ⟨my, hmy⟩ : ∃ my, my = ys.length := ⟨_, rfl⟩
  have hmyl : my ≤ 2000000000 := by have := HP.out; have := HN.out; rw [hmy, hys, List.length_append]; omega
  obtain ⟨A2, c2, rfl, hr2⟩ := hown2.read_n hmy
  have FIN : Hid (ys ++ tailC (sumC ys) = frameV l) := Lib.hid (by rw [frameV, ← HN.out, hys])
  have hl4 : ys.length + (tailC (sumC ys)).length ≤ 140737488355328 := by rw [tailC_len, ← hmy]; omega
  have hlt32 := sumC_lt ys
  have HL4 := Lib.hid hl4
  have HMY := Lib.hid hmy
  have HO := Lib.hid hown2
  have HB2 := Lib.hid hb2
  clear hl4 hmy hys hown2 hb2 hown1 hr hs1 HB HP HN hl1
  go_wp2_with fail
  refine (ref_sum A2 c2 my _ ys _ HMY.out (by omega) hr2).mono ?_; rintro e w4 ⟨rfl, rfl⟩
  clear hr2
  generalize sumC ys = q at *
  go_wp2_with fail
  refine (ref_tail q _ hlt32).mono ?_; rintro e w4 ⟨v4, rfl, hown4, hb4⟩
  obtain ⟨A4, c4, rfl, hr4⟩ := hown4.read
  have hown5 := HO.out.below hb4
  have hb5 := HB2.out.trans (hb4.mono HB2.out.size)
  have hs5 := hb5.size
  have HB5 := Lib.hid hb5
  have hl4 := HL4.out
  clear HO HB2 hown4 hb4 hb5
  go_wp2_with (at_builtin; refine wpList_app_row rfl (.tmp 10) (.tmp 13) rfl w.heap.size _ ys rfl hown5 _ A4 c4 _ (tailC q) rfl rfl hr4.row hl4 hs5 ?_; intro v6 w6 hown6 _ hb6 _)
  go_ret
  exact ⟨_, rfl, by rw [← FIN.out]; exact hown6, HB5.out.trans hb6⟩

set_option maxHeartbeats 1000000 in
set_option maxRecDepth 100000 in
theorem ref_next (A : Option Addr) (c n B : Nat) (l : List UInt8) (w : World) (hn : n = l.length) (h : RdB w B A c l) (hB : B ≤ w.heap.size) (hm63 : n ≤ 9223372036854775806) :
    Calls Try.prog 14 #[.slice A n c] w (NextPost l w) := by
  have hnum := ref_number A n c B l w hn h.row (by omega)
  unfold CutPost at hnum
  have h8 := cutV_size l
  have hle := cutV_le l
  have hmax := cutV_max l
  have hroom := h.room
  have hcap := h.cap
  unfold maxLen at hcap
  rw [← hn] at hroom hle
  obtain ⟨⟨a, k, x⟩, hl⟩ : ∃ p, cutV l = p := ⟨_, rfl⟩
  rw [hl] at hnum h8 hle hmax
  simp only at hnum h8 hle hmax
  have HL := Lib.hid hl
  have HN := Lib.hid hn
  clear hl
  by_cases hx : x = 0
  · subst hx
    by_cases hbig : 32768 < a
    · have fin := Lib.hid (next_len (len_big HL.out hbig) (by decide))
      clear hn
      go_enter Try.func14, Try.ntmps14
      go_wp2_with fail
      refine hnum.mono ?_; rintro e w1 ⟨rfl, rfl⟩
      clear hnum
      go_wp2
      go_ret3
      exact .no (x := 12) fin.out (Below.refl _ _)
    · have LEN := Lib.hid (len_good HL.out hbig)
      by_cases hs : n < k + a + 4
      · have fin := Lib.hid (next_short LEN.out (by omega))
        have hsi : (n : Int) < (k : Int) + (a : Int) + 4 := by omega
        clear hn
        go_enter Try.func14, Try.ntmps14
        go_wp2_with fail
        refine hnum.mono ?_; rintro e w1 ⟨rfl, rfl⟩
        clear hnum
        go_wp2
        go_ret3
        exact .no (x := 10) fin.out (Below.refl _ _)
      · obtain ⟨t, ht⟩ : ∃ t, t = k + a + 4 := ⟨_, rfl⟩
        have HT : Hid (t = (l.take t).length) := Lib.hid (by rw [List.length_take]; omega)
        have K1 := fun (w : World) => run_take_int (T := 25) (E := 5) Try.underlying25 byte_size w A n c t ((k : Int) + (a : Int) + 4) (by omega) (by omega)
        have K2 := fun (w : World) => run_cut_int (T := 25) (E := 5) Try.underlying25 byte_size w A n c k a ((k : Int) + (a : Int)) (by omega) (by omega)
        have hsi : ¬ (n : Int) < (k : Int) + (a : Int) + 4 := by omega
        have hhi : (k : Int) + (a : Int) + 4 ≤ c := by omega
        have hhi0 : 0 ≤ (k : Int) + (a : Int) + 4 := by omega
        have ht1 : t ≤ 1000000 := by omega
        have hr := h.take t
        by_cases he : endsC (l.take t) = true
        · have fin := Lib.hid (next_good LEN.out (by omega) (by rw [← ht]; exact he))
          have HX := Lib.hid ((h.cut (k := k) (by omega)).take a)
          have HE := Lib.hid he
          have HXL : Hid (a = ((l.drop k).take a).length) := Lib.hid (by rw [List.length_take, List.length_drop]; omega)
          have HTN : Hid ((k : Int) + (a : Int) + 4 = ((k + a + 4 : Nat) : Int)) := Lib.hid (by omega)
          have HT4 : Hid (t = (k + a) + 4) := Lib.hid ht
          clear hn he h ht
          go_enter Try.func14, Try.ntmps14
          go_wp2_with fail
          refine hnum.mono ?_; rintro e w1 ⟨rfl, rfl⟩
          clear hnum
          go_wp2_with fail
          refine (ref_whole_yes A c t B (l.take t) _ HT.out hr hB ht1 HE.out (k + a) HT4.out).mono ?_; rintro e w2 ⟨rfl, hb2⟩
          have fr := Lib.hid ((HX.out.quiet (grown_of_below hb2 none) hB).more (Nat.le_trans hB hb2.size))
          have fb := Lib.hid hb2
          clear hr hb2
          go_wp2
          go_ret3
          exact .yes fin.out HXL.out HTN.out fr.out fb.out
        · have he : endsC (l.take t) = false := by simpa using he
          have fin := Lib.hid (next_sum LEN.out (by omega) (by rw [← ht]; exact he))
          have HE := Lib.hid he
          clear hn he h ht
          go_enter Try.func14, Try.ntmps14
          go_wp2_with fail
          refine hnum.mono ?_; rintro e w1 ⟨rfl, rfl⟩
          clear hnum
          go_wp2_with fail
          refine (ref_whole_no A c t B (l.take t) _ HT.out hr hB ht1 HE.out).mono ?_; rintro e w2 ⟨rfl, hb2⟩
          have fb := Lib.hid hb2
          clear hr hb2
          go_wp2
          go_ret3
          exact .no (x := 13) fin.out fb.out
  · have fin := Lib.hid (next_len (len_num HL.out hx) hx)
    have hxi : ((x : Int) == 0) = false := by simp; omega
    clear hn
    go_enter Try.func14, Try.ntmps14
    go_wp2_with fail
    refine hnum.mono ?_; rintro e w1 ⟨rfl, rfl⟩
    clear hnum
    go_wp2
    go_ret3
    exact .no fin.out (Below.refl _ _)

set_option maxHeartbeats 1000000 in
set_option maxRecDepth 100000 in
theorem ref_open (A : Option Addr) (c n B : Nat) (l : List UInt8) (w : World) (hn : n = l.length) (h : RdB w B A c l) (hB : B ≤ w.heap.size) (hm63 : n ≤ 9223372036854775806) :
    Calls Try.prog 12 #[.slice A n c] w (OpenPost l w) := by
  have hnx := ref_next A c n B l w hn h hB hm63
  unfold NextPost at hnx
  have hle := nextV_le l
  have her := fun h => (nextV_err (l := l) h).1
  obtain ⟨⟨x, k, r⟩, hl⟩ : ∃ p, nextV l = p := ⟨_, rfl⟩
  rw [hl] at hnx hle her
  simp only at hnx hle her
  have HL := Lib.hid hl
  obtain ⟨hk, -⟩ := hle
  rw [← hn] at hk
  have HN := Lib.hid hn
  clear hl h hn
  by_cases hr : r = 0
  · subst hr
    by_cases hlt : k < n
    · have fin := Lib.hid (open_long HL.out (by rw [← HN.out]; exact hlt))
      go_enter Try.func12, Try.ntmps12
      go_wp2_with fail
      refine hnx.mono ?_; rintro e w1 ⟨A1, c1, m, rfl, hm, hr1, hb⟩
      have fb := Lib.hid hb
      clear hnx hb hr1 hm
      go_wp2
      go_ret2
      exact .mk (n := 14) fin.out rfl (rdB_nil _ _) fb.out
    · have fin := Lib.hid (open_good HL.out (by rw [← HN.out]; exact hlt))
      go_enter Try.func12, Try.ntmps12
      go_wp2_with fail
      refine hnx.mono ?_; rintro e w1 ⟨A1, c1, m, rfl, hm, hr1, hb⟩
      have fb := Lib.hid hb
      have fm := Lib.hid hm
      have fr := Lib.hid hr1
      clear hnx hb hr1 hm
      go_wp2
      go_ret2
      exact .mk (n := 0) fin.out fm.out fr.out fb.out
  · have fin := Lib.hid (open_err HL.out hr)
    obtain rfl := her hr
    have hxi : ((r : Int) == 0) = false := by simp; omega
    go_enter Try.func12, Try.ntmps12
    go_wp2_with fail
    refine hnx.mono ?_; rintro e w1 ⟨A1, c1, m, rfl, hm, hr1, hb⟩
    have fb := Lib.hid hb
    have fm := Lib.hid hm
    have fr := Lib.hid hr1
    clear hnx hb hr1 hm
    go_wp2
    go_ret2
    exact .mk fin.out fm.out fr.out fb.out
end Go.Proofs.Ytonghhnodpjkfaa
