/-
  The walks of the layer of frames: the length that begins bytes, the frame that begins them, the frame that they are.
-/
import Derived.Test.YtonghhnodpjkfaaGrow
import Derived.Test.YtonghhnodpjkfaaFrmPure
import Derived.Test.YtonghhnodpjkfaaVarD
import Derived.Test.YtonghhnodpjkfaaCrcC
namespace Go.Proofs.Ytonghhnodpjkfaa
open Go.RowKit

theorem varint_new_n (A : Option Addr) (c B n : Nat) (l : List UInt8) (w : World) (hn : n = l.length) (h : RdB w B A c l) :
    Calls Try.prog 29 #[.slice A n c] w fun e w' => e = .returned (.pointer (some ⟨w.heap.size, 0, none⟩)) ∧ RdAt w' w.heap.size l 0 ∧ Below w.heap.size w w' := by
  subst hn; exact varint_new A c B l w h

/-- What the length of a frame is told as. -/
def LenPost (l : List UInt8) (w : World) (e : Ending) (w' : World) : Prop :=
  e = .returned (.tuple #[.int .i64 (lenV l).1, .int .i64 (lenV l).2.1, .int .i64 (lenV l).2.2]) ∧ Below w.heap.size w w'
theorem LenPost.mk {l : List UInt8} {w w' : World} {a b c : Nat} (h : lenV l = (a, b, c)) (hb : Below w.heap.size w w') :
    LenPost l w (.returned (.tuple #[.int .i64 a, .int .i64 b, .int .i64 c])) w' := by unfold LenPost; rw [h]; exact ⟨rfl, hb⟩

set_option maxHeartbeats 1000000 in
set_option maxRecDepth 100000 in
theorem frm_length_m (A : Option Addr) (c n m B : Nat) (l lt : List UInt8) (w : World) (hn : n = l.length) (h : RdB w B A c l) (hm63 : n ≤ 9223372036854775806)
    (hm : m = lt.length) (hlt : lt = l.take 8) (h8 : (n ≤ 8 ∧ m = n) ∨ (8 < n ∧ m = 8)) :
    Calls Try.prog 22 #[.slice A n c] w (LenPost l w) := by
  have hroom := h.room
  have hcap := h.cap
  unfold maxLen at hcap
  have hr := h.take 8
  rw [← hn] at hroom
  have hcut := cutV_take8 l
  have hcl := cutV_le lt
  have hmax := cutV_max lt
  rw [← hlt] at hr hcut
  rw [hcut] at hcl hmax
  have K1 := fun (w : World) (i : Int) hi => run_take_int (T := 25) (E := 5) Try.underlying25 byte_size w A n c m i hi (by omega)
  have hm8 : m ≤ 8 := by omega
  have NUM : ∀ {a k x : Nat}, cutV l = (a, k, x) → numR lt 0 = if x = 0 then (a, lt.drop k, 0) else (0, lt, (x : Int)) := by
    intro a k x he
    rw [← hcut] at he
    unfold numR
    rw [if_pos rfl, he]
  obtain ⟨⟨a, k, x⟩, hc⟩ : ∃ p, cutV l = p := ⟨_, rfl⟩
  have NUM := NUM hc
  rw [hc] at hcl hmax
  simp only at hcl hmax
  have hmk : ((m : Int) - ((m - k : Nat) : Int)) = (k : Int) := by omega
  have HM := Lib.hid hm
  have hdl : (lt.drop k).length = m - k := by rw [List.length_drop, hm]
  have HDL := Lib.hid hdl
  have hl63 : lt.length ≤ 9223372036854775807 := by omega
  have HC := Lib.hid hc
  replace h8 : (n ≤ 8 ∧ m = n ∧ (∀ w, (Instr.slice 25 (.slice A n c) none (some (.int .i64 (n : Int))) none).run Try.prog w = .ok (.slice A n c) w) ∧ (n : Int) - ((n - k : Nat) : Int) = (k : Int)) ∨
      (8 < n ∧ m = 8 ∧ (∀ w, (Instr.slice 25 (.slice A n c) none (some (.int .i64 8)) none).run Try.prog w = .ok (.slice A 8 c) w) ∧ (8 : Int) - ((8 - k : Nat) : Int) = (k : Int)) := by
    rcases h8 with ⟨h8, rfl⟩ | ⟨h8, rfl⟩
    · exact .inl ⟨h8, rfl, fun w => K1 w _ rfl, hmk⟩
    · exact .inr ⟨h8, rfl, fun w => K1 w 8 rfl, by omega⟩
  clear hcut hlt hn hm hc hdl h K1 hmk
  have NO : x ≠ 0 → Calls Try.prog 22 #[.slice A n c] w (LenPost l w) := by
    intro hx
    have fin := Lib.hid (len_num HC.out hx)
    have hxi : ((x : Int) == 0) = false := by simp; omega
    rw [if_neg hx] at NUM
    rcases h8 with ⟨h8, rfl, K2, hk8⟩ | ⟨h8, rfl, K2, hk8⟩
    all_goals
      go_enter Try.func22, Try.ntmps22
      go_wp2_with fail
      refine (varint_new_n A c B _ lt _ HM.out hr).mono ?_; rintro e w1 ⟨rfl, hrd, hb1⟩
      go_wp2_with fail
      refine (rd_number (givenAt_some hrd) hl63).mono ?_; rintro e w2 ⟨rfl, hrd2, hg2⟩
      rw [NUM] at hrd2
      rw [NUM]
      replace hb1 := below_row hb1 hg2 (Nat.le_refl _) hb1.size
      clear hrd hg2
      go_wp2_with fail
      refine (rd_err (givenAt_some hrd2)).mono ?_; rintro e w3 ⟨rfl, hrd3, hg3⟩
      have fb := Lib.hid (below_row hb1 hg3 (Nat.le_refl _) hb1.size)
      clear hrd2 hg3 hrd3 hb1
      go_wp2
      go_ret3
      exact LenPost.mk (a := 0) (b := 0) fin.out fb.out
  by_cases hx : x = 0
  · subst hx
    rw [if_pos rfl] at NUM
    by_cases hbig : 32768 < a
    · have fin := Lib.hid (len_big HC.out hbig)
      rcases h8 with ⟨h8, rfl, K2, hk8⟩ | ⟨h8, rfl, K2, hk8⟩
      all_goals
        go_enter Try.func22, Try.ntmps22
        go_wp2_with fail
        refine (varint_new_n A c B _ lt _ HM.out hr).mono ?_; rintro e w1 ⟨rfl, hrd, hb1⟩
        go_wp2_with fail
        refine (rd_number (givenAt_some hrd) hl63).mono ?_; rintro e w2 ⟨rfl, hrd2, hg2⟩
        rw [NUM] at hrd2
        rw [NUM]
        replace hb1 := below_row hb1 hg2 (Nat.le_refl _) hb1.size
        clear hrd hg2
        go_wp2_with fail
        refine (rd_err (givenAt_some hrd2)).mono ?_; rintro e w3 ⟨rfl, hrd3, hg3⟩
        have fb := Lib.hid (below_row hb1 hg3 (Nat.le_refl _) hb1.size)
        clear hrd2 hg3 hrd3 hb1
        go_wp2
        go_ret3
        exact LenPost.mk (a := 0) (b := 0) (c := 12) fin.out fb.out
    · have fin := Lib.hid (len_good HC.out hbig)
      rcases h8 with ⟨h8, rfl, K2, hk8⟩ | ⟨h8, rfl, K2, hk8⟩
      all_goals
        go_enter Try.func22, Try.ntmps22
        go_wp2_with fail
        refine (varint_new_n A c B _ lt _ HM.out hr).mono ?_; rintro e w1 ⟨rfl, hrd, hb1⟩
        go_wp2_with fail
        refine (rd_number (givenAt_some hrd) hl63).mono ?_; rintro e w2 ⟨rfl, hrd2, hg2⟩
        rw [NUM] at hrd2
        rw [NUM]
        replace hb1 := below_row hb1 hg2 (Nat.le_refl _) hb1.size
        clear hrd hg2
        go_wp2_with fail
        refine (rd_err (givenAt_some hrd2)).mono ?_; rintro e w3 ⟨rfl, hrd3, hg3⟩
        replace hb1 := below_row hb1 hg3 (Nat.le_refl _) hb1.size
        clear hrd2 hg3
        go_wp2_with fail
        refine (rd_left (givenAt_some hrd3)).mono ?_; rintro e w4 ⟨rfl, hrd4, hg4⟩
        have fb := Lib.hid (below_row hb1 hg4 (Nat.le_refl _) hb1.size)
        clear hrd3 hg4 hrd4 hb1
        rw [HDL.out]
        go_wp2
        go_ret3
        exact LenPost.mk (a := a) (b := k) (c := 0) fin.out fb.out
  · exact NO hx
theorem frm_length (A : Option Addr) (c n B : Nat) (l : List UInt8) (w : World) (hn : n = l.length) (h : RdB w B A c l) (hm63 : n ≤ 9223372036854775806) :
    Calls Try.prog 22 #[.slice A n c] w (LenPost l w) :=
  frm_length_m A c n (l.take 8).length B l (l.take 8) w hn h hm63 rfl rfl (by rw [List.length_take]; omega)

/-- What the frame that begins bytes is told as. -/
def NextPost (l : List UInt8) (w : World) (e : Ending) (w' : World) : Prop :=
  ∃ A c m, e = .returned (.tuple #[.slice A m c, .int .i64 (nextV l).2.1, .int .i64 (nextV l).2.2]) ∧ m = (nextV l).1.length ∧ RdB w' w'.heap.size A c (nextV l).1 ∧ Below w.heap.size w w'
theorem NextPost.no {l : List UInt8} {w w' : World} {x : Nat} (h : nextV l = ([], 0, x)) (hb : Below w.heap.size w w') : NextPost l w (.returned (.tuple #[.slice none 0 0, .int .i64 0, .int .i64 (x : Int)])) w' :=
  ⟨none, 0, 0, by rw [h]; rfl, by rw [h]; rfl, by rw [h]; exact rdB_nil _ _, hb⟩
theorem NextPost.yes {l x : List UInt8} {w w' : World} {A : Option Addr} {c m n : Nat} {i : Int} (h : nextV l = (x, n, 0)) (hm : m = x.length) (hi : i = (n : Int)) (hr : RdB w' w'.heap.size A c x) (hb : Below w.heap.size w w') :
    NextPost l w (.returned (.tuple #[.slice A m c, .int .i64 i, .int .i64 0])) w' :=
  ⟨A, c, m, by rw [h, hi]; rfl, by rw [h]; exact hm, by rw [h]; exact hr, hb⟩
theorem drop_take_swap (l : List UInt8) (k a : Nat) : (l.take (k + a)).drop k = (l.drop k).take a := by
  rw [List.drop_take, Nat.add_sub_cancel_left]

set_option maxHeartbeats 1000000 in
set_option maxRecDepth 100000 in
theorem frm_next (A : Option Addr) (c n B : Nat) (l : List UInt8) (w : World) (hn : n = l.length) (h : RdB w B A c l) (hB : B ≤ w.heap.size) (hm63 : n ≤ 9223372036854775806) :
    Calls Try.prog 13 #[.slice A n c] w (NextPost l w) := by
  obtain ⟨h32, hk8, hkl, -⟩ := lenV_le l
  have hlen := frm_length A c n B l w hn h hm63
  have hroom := h.room
  have hcap := h.cap
  rw [← hn] at hroom hkl
  unfold maxLen at hcap
  unfold LenPost at hlen
  obtain ⟨⟨a, k, x⟩, hl⟩ : ∃ p, lenV l = p := ⟨_, rfl⟩
  rw [hl] at hlen h32 hk8 hkl
  simp only at hlen h32 hk8 hkl
  have HL := Lib.hid hl
  have HN := Lib.hid hn
  clear hl
  by_cases hx : x = 0
  · subst hx
    by_cases hs : n < k + a + 4
    · have fin := Lib.hid (next_short HL.out (by omega))
      have hsi : (n : Int) < (k : Int) + (a : Int) + 4 := by omega
      clear hn
      go_enter Try.func13, Try.ntmps13
      go_wp2_with fail
      refine hlen.mono ?_; rintro e w1 ⟨rfl, hb⟩
      have fb := Lib.hid hb
      clear hlen hb
      go_wp2
      go_ret3
      exact .no (x := 10) fin.out fb.out
    · obtain ⟨t, ht⟩ : ∃ t, t = k + a + 4 := ⟨_, rfl⟩
      have HT : Hid (t = (l.take t).length) := Lib.hid (by rw [List.length_take]; omega)
      have K1 := fun (w : World) => run_take_int (T := 25) (E := 5) Try.underlying25 byte_size w A n c t ((k : Int) + (a : Int) + 4) (by omega) (by omega)
      have hsi : ¬ (n : Int) < (k : Int) + (a : Int) + 4 := by omega
      have hhi : (k : Int) + (a : Int) + 4 ≤ c := by omega
      have hhi0 : 0 ≤ (k : Int) + (a : Int) + 4 := by omega
      have H := Lib.hid h
      by_cases he : endsC (l.take t) = true
      · have fin := Lib.hid (next_good HL.out (by omega) (by rw [← ht]; exact he))
        obtain ⟨m0, hm0⟩ : ∃ m0, m0 = k + a := ⟨_, rfl⟩
        have HT0 : Hid (m0 = ((l.take t).take ((l.take t).length - 4)).length) := Lib.hid (by rw [List.length_take, ← HT.out]; omega)
        have HX : Hid (((l.take t).take ((l.take t).length - 4)).drop k = (l.drop k).take a) := Lib.hid (by
          rw [← drop_take_swap, ← HT.out, List.take_take, show min (t - 4) t = k + a by omega])
        have K2 := fun (w : World) (A2 : Option Addr) (c2 : Nat) => run_cut (T := 25) (E := 5) Try.underlying25 byte_size w A2 m0 c2 k (by omega)
        have HE := Lib.hid he
        have hma : m0 - k = a := by omega
        have HXL : Hid (a = ((l.drop k).take a).length) := Lib.hid (by rw [List.length_take, List.length_drop]; omega)
        have HTN : Hid ((k : Int) + (a : Int) + 4 = ((k + a + 4 : Nat) : Int)) := Lib.hid (by omega)
        have ht1 : t ≤ 1000000 := by omega
        have hk0 : k ≤ m0 := by omega
        clear hn he hm0 ht h
        go_enter Try.func13, Try.ntmps13
        go_wp2_with fail
        refine hlen.mono ?_; rintro e w1 ⟨rfl, hb⟩
        have hr := (H.out.take t).quiet (grown_of_below hb none) hB
        have hs1 := hb.size
        clear hlen
        go_wp2_with fail
        refine (crc_whole_yes A c t B (l.take t) _ HT.out hr (Nat.le_trans hB hs1) ht1 HE.out _ rfl).mono ?_; rintro e w2 ⟨v2, rfl, hown2, hb2⟩
        obtain ⟨A2, c2, rfl, hr2⟩ := hown2.read_n HT0.out
        have hroom2 := hr2.room
        rw [← HT0.out] at hroom2
        have fr := Lib.hid (hr2.cut (k := k) (by rw [← HT0.out]; exact hk0))
        have fb := Lib.hid (hb.trans (hb2.mono hb.size))
        clear hr hown2 hb2 hb hr2
        go_wp2
        go_ret3
        exact .yes fin.out HXL.out HTN.out (by rw [← HX.out]; exact fr.out) fb.out
      · have he : endsC (l.take t) = false := by simpa using he
        have fin := Lib.hid (next_sum HL.out (by omega) (by rw [← ht]; exact he))
        have HE := Lib.hid he
        have ht1 : t ≤ 1000000 := by omega
        clear hn he ht h
        go_enter Try.func13, Try.ntmps13
        go_wp2_with fail
        refine hlen.mono ?_; rintro e w1 ⟨rfl, hb⟩
        have hr := (H.out.take t).quiet (grown_of_below hb none) hB
        have hs1 := hb.size
        clear hlen
        go_wp2_with fail
        refine (crc_whole_no A c t B (l.take t) _ HT.out hr (Nat.le_trans hB hs1) ht1 HE.out).mono ?_; rintro e w2 ⟨v2, rfl, hown2, hb2⟩
        have fb := Lib.hid (hb.trans (hb2.mono hb.size))
        clear hr hown2 hb2 hb
        go_wp2
        go_ret3
        exact .no (x := 13) fin.out fb.out
  · have fin := Lib.hid (next_len HL.out hx)
    have hxi : ((x : Int) == 0) = false := by simp; omega
    clear hn
    go_enter Try.func13, Try.ntmps13
    go_wp2_with fail
    refine hlen.mono ?_; rintro e w1 ⟨rfl, hb⟩
    have fb := Lib.hid hb
    clear hlen hb
    go_wp2
    go_ret3
    exact .no fin.out fb.out

/-- What bytes that are a frame are told as. -/
def OpenPost (l : List UInt8) (w : World) (e : Ending) (w' : World) : Prop :=
  ∃ A c m, e = .returned (.tuple #[.slice A m c, .int .i64 (openV l).2]) ∧ m = (openV l).1.length ∧ RdB w' w'.heap.size A c (openV l).1 ∧ Below w.heap.size w w'
theorem OpenPost.mk {l x : List UInt8} {w w' : World} {A : Option Addr} {c m n : Nat} (h : openV l = (x, n)) (hm : m = x.length) (hr : RdB w' w'.heap.size A c x) (hb : Below w.heap.size w w') :
    OpenPost l w (.returned (.tuple #[.slice A m c, .int .i64 (n : Int)])) w' :=
  ⟨A, c, m, by rw [h], by rw [h]; exact hm, by rw [h]; exact hr, hb⟩
set_option maxHeartbeats 1000000 in
set_option maxRecDepth 100000 in
theorem frm_open (A : Option Addr) (c n B : Nat) (l : List UInt8) (w : World) (hn : n = l.length) (h : RdB w B A c l) (hB : B ≤ w.heap.size) (hm63 : n ≤ 9223372036854775806) :
    Calls Try.prog 11 #[.slice A n c] w (OpenPost l w) := by
  have hnx := frm_next A c n B l w hn h hB hm63
  unfold NextPost at hnx
  have hle := nextV_le l
  have her := fun h => (nextV_err (l := l) h).1
  obtain ⟨⟨x, k, r⟩, hl⟩ : ∃ p, nextV l = p := ⟨_, rfl⟩
  rw [hl] at hnx hle her
  simp only at hnx hle her
  have HL := Lib.hid hl
  obtain ⟨hk, -⟩ := hle
  rw [← hn] at hk
  have HN := Lib.hid hn
  clear hl h hn
  by_cases hr : r = 0
  · subst hr
    by_cases hlt : k < n
    · have fin := Lib.hid (open_long HL.out (by rw [← HN.out]; exact hlt))
      go_enter Try.func11, Try.ntmps11
      go_wp2_with fail
      refine hnx.mono ?_; rintro e w1 ⟨A1, c1, m, rfl, hm, hr1, hb⟩
      have fb := Lib.hid hb
      clear hnx hb hr1 hm
      go_wp2
      go_ret2
      exact .mk (n := 14) fin.out rfl (rdB_nil _ _) fb.out
    · have fin := Lib.hid (open_good HL.out (by rw [← HN.out]; exact hlt))
      go_enter Try.func11, Try.ntmps11
      go_wp2_with fail
      refine hnx.mono ?_; rintro e w1 ⟨A1, c1, m, rfl, hm, hr1, hb⟩
      have fb := Lib.hid hb
      have fm := Lib.hid hm
      have fr := Lib.hid hr1
      clear hnx hb hr1 hm
      go_wp2
      go_ret2
      exact .mk (n := 0) fin.out fm.out fr.out fb.out
  · have fin := Lib.hid (open_err HL.out hr)
    obtain rfl := her hr
    have hxi : ((r : Int) == 0) = false := by simp; omega
    go_enter Try.func11, Try.ntmps11
    go_wp2_with fail
    refine hnx.mono ?_; rintro e w1 ⟨A1, c1, m, rfl, hm, hr1, hb⟩
    have fb := Lib.hid hb
    clear hnx hb hr1 hm
    go_wp2
    go_ret2
    exact .mk fin.out rfl (rdB_nil _ _) fb.out
end Go.Proofs.Ytonghhnodpjkfaa
