/-
  The walk of the fourth layer's law on a load there and back.
-/
import Derived.Test.YtonghhnodpjkfaaLaw04A
namespace Go.Proofs.Ytonghhnodpjkfaa
open Go.RowKit

theorem allP_step {l : List Piece} {k n : Nat} (M : Nat) (hk : k < l.length) (h : (allP (l.take k)).length ≤ M * k) (hn : (l.getD k (none, 0, [])).2.2.length = n) (h3 : n ≤ M) : (allP (l.take (k + 1))).length ≤ M * (k + 1) := by
  rw [take_snoc_piece l k hk, allP_snoc, List.length_append, hn, Nat.mul_succ]
  omega

set_option maxHeartbeats 4000000 in
set_option maxRecDepth 100000 in
theorem frameMakes_walk (A : Option Addr) (c : Nat) (l : List Piece) (q : Nat) (w : World) (h : RdP w w.heap.size w.heap.size A l) (hm : l.length ≤ maxLen) (hq : q < 65536) :
    Calls Try.prog 3 #[.slice A l.length c, .int .u16 (q : Int)] w fun e w' => e = .returned (.bool true) ∧ Below w.heap.size w w' := by
  unfold maxLen at hm
  obtain ⟨n, hn⟩ : ∃ n, l.length = n := ⟨_, rfl⟩
  rw [hn] at hm ⊢
  have HN := Lib.hid hn
  clear hn
  by_cases h20 : 10 < n
  · go_enter Try.func3, Try.ntmps3
    go_wp2_with fail
    refine (awake04 _).mono ?_; rintro e w1 ⟨rfl, hb⟩
    go_wp2
    go_ret
    exact ⟨rfl, hb⟩
  · go_enter Try.func3, Try.ntmps3
    go_wp2_with fail
    refine (awake04 _).mono ?_; rintro e w1 ⟨rfl, hb1⟩
    have hown0 : OwnB w1 w.heap.size (.slice none 0 0) [] := World.ownsRow_nil _ _ _ _
    go_wp2_with fail
    go_loopw [5, 21] (fun v i wr => ∃ k : Nat, k ≤ n ∧ i = .int .i64 (k : Int) ∧ OwnB wr w.heap.size v (allP (l.take k)) ∧ (allP (l.take k)).length ≤ 70000 * k ∧ Below w.heap.size w wr) (fun _ i _ => n - (intOf i).toNat)
    case atStart => exact ⟨0, by omega, rfl, hown0, by simp [allP], hb1⟩
    case round =>
      obtain ⟨k, hk, rfl, hown, hal, hbw⟩ := hrel
      have hr := h.below hbw
      have hsw := hbw.size
      clear hown0
      by_cases hlt : k < n
      · have hkl : k < l.length := by rw [HN.out]; exact hlt
        obtain ⟨b0, o0, rfl, hb0, hc⟩ := hr.row.pieces_at (by omega)
        have hcell := hc k hkl
        have hp := hr.each _ (getD_mem hkl)
        have HT := Lib.hid (take_snoc_piece l k hkl)
        have HA := Lib.hid (allP_snoc (l.take k) (l.getD k (none, 0, [])))
        have HL : Hid (∀ m, (l.getD k (none, 0, [])).2.2.length = m → m ≤ 70000 → (allP (l.take (k + 1))).length ≤ 70000 * (k + 1)) := fun m h1 h2 => allP_step 70000 hkl hal h1 h2
        obtain ⟨p, hpe⟩ : ∃ p, l.getD k (none, 0, []) = p := ⟨_, rfl⟩
        rw [hpe] at hcell hp HT HA HL
        obtain ⟨ys, hys⟩ : ∃ ys, allP (l.take k) = ys := ⟨_, rfl⟩
        rw [hys] at hown HA hal
        clear hc hpe hkl hr
        obtain ⟨A1, c1, l1⟩ := p
        simp only [pieceV] at hcell hp HL HA
        have hcap := hp.cap
        have hroom := hp.room
        unfold maxLen at hcap
        obtain ⟨m, hm1⟩ : ∃ m, l1.length = m := ⟨_, rfl⟩
        have HM := Lib.hid hm1.symm
        rw [hm1] at hcell hroom
        have HY := Lib.hid hys
        have HB := Lib.hid hbw
        clear hbw hys
        by_cases h300 : 70000 < m
        · clear hm1 hown hp
          go_wp2
          go_ret
          exact ⟨rfl, HB.out⟩
        · have hlen : ys.length + l1.length ≤ 140737488355328 := by omega
          have HL2 := Lib.hid (HL.out m hm1 (by omega))
          have HAL := Lib.hid hal
          clear hm1 HL hal
          go_wp2_with (at_builtin; refine wpList_app_row rfl (.tmp 28) (.tmp 29) rfl w.heap.size _ ys rfl hown w.heap.size A1 c1 m l1 HM.out rfl hp.row hlen hsw ?_; intro v3 w3 hown3 _ hb3 _)
          go_roundw
          case rel => exact ⟨k + 1, by omega, by go_num, by rw [HT.out, HA.out]; exact hown3, HL2.out, HB.out.trans hb3⟩
          case measure => simp [intOf]; omega
      · obtain rfl : k = n := by omega
        have hT : l.take k = l := by rw [← HN.out, List.take_length]
        rw [hT] at hown hal
        clear hT
        have HMK := fun hl => Lib.hid (frm_make_yes A c k l wr HN.out.symm (hr.more hsw hsw) (by omega) _ rfl hl)
        have HMN := fun hl => Lib.hid (frm_make_no A c k l wr HN.out.symm (hr.more hsw hsw) (by omega) hl)
        generalize allP l = x at *
        obtain ⟨m, hm1⟩ : ∃ m, x.length = m := ⟨_, rfl⟩
        rw [hm1] at hal HMK HMN
        obtain ⟨A1, c1, rfl, hr1⟩ := hown.read_n hm1.symm
        have HM := Lib.hid hm1
        have HB := Lib.hid hbw
        clear hm1 hown hbw
        by_cases hbig : 32768 < m
        · have hmk := HMN hbig
          clear hr1 hr HMK HMN
          go_wp2_with fail
          refine hmk.out.mono ?_; rintro e w2 ⟨rfl, rfl⟩
          clear hmk
          go_wp2
          go_ret
          exact ⟨rfl, HB.out⟩
        · have hmk := HMK (by omega)
          have FM := Lib.hid (frameV_max x (by rw [HM.out]; omega))
          have FI := Lib.hid (frameV_min x)
          obtain ⟨t, ht⟩ : ∃ t, t = (frameV x).length := ⟨_, rfl⟩
          have HT := Lib.hid ht
          have ht5 : t ≤ m + 7 := by rw [ht, ← HM.out]; exact FM.out
          have ht0 : 0 < t := by rw [ht]; have := FI.out; omega
          clear hr HMK HMN ht FM FI
          go_wp2_with fail
          refine hmk.out.mono ?_; rintro e w2 ⟨v2, rfl, hown2, hb2⟩
          obtain ⟨A2, c2, rfl, hr2⟩ := hown2.read_n HT.out
          have hroom2 := hr2.room
          rw [← HT.out] at hroom2
          replace hr1 := hr1.quiet (grown_of_below hb2 none) (Nat.le_refl _)
          have hs2 := hb2.size
          replace hb2 := HB.out.trans (hb2.mono HB.out.size)
          have HB2 := Lib.hid hb2
          clear hmk hown2 hb2 HB
          go_wp2_with fail
          refine (ref_frame A1 c1 m _ x _ HM.out.symm hr1 hs2 (by omega)).mono ?_; rintro e w3 ⟨v3, rfl, hown3, hb3⟩
          obtain ⟨A3, c3, rfl, hr3⟩ := hown3.read_n HT.out
          have hs3 := hb3.size
          replace hr1 := (hr1.quiet (grown_of_below hb3 none) hs2).more (Nat.le_trans hs2 hs3)
          replace hr2 := (hr2.quiet (grown_of_below hb3 none) (Nat.le_refl _)).more hs3
          have HB3 := Lib.hid (HB2.out.trans (hb3.mono HB2.out.size))
          clear hown3 hb3 HB2 hs2 hs3
          go_wp2_with fail
          refine (ref_eq_same A2 A3 c2 c3 t t _ _ _ _ HT.out HT.out hr2.row hr3.row (by rw [← HT.out]; omega)).mono ?_; rintro e w4 ⟨rfl, hg4⟩
          have hs4 := hg4.size
          replace hr1 := (hr1.quiet hg4 (Nat.le_refl _)).more hs4
          replace hr2 := (hr2.quiet hg4 (Nat.le_refl _)).more hs4
          have HB4 := Lib.hid (HB3.out.trans ((grown_none hg4).mono HB3.out.size))
          clear hr3 hg4 hs4 HB3
          go_wp2_with fail
          refine (frm_open_is A2 c2 t _ (frameV x) x 0 m _ HT.out hr2 (Nat.le_refl _) (by omega) (open_frame x (by rw [HM.out]; omega)) HM.out.symm).mono ?_; rintro e w5 ⟨A5, c5, rfl, hr5, hb5⟩
          have hs5 := hb5.size
          replace hr1 := (hr1.quiet (grown_of_below hb5 none) (Nat.le_refl _)).more hs5
          replace hr2 := (hr2.quiet (grown_of_below hb5 none) (Nat.le_refl _)).more hs5
          have HB5 := Lib.hid (HB4.out.trans (hb5.mono HB4.out.size))
          clear hb5 hs5 HB4
          obtain ⟨j, hj⟩ : ∃ j, q % t = j := ⟨_, rfl⟩
          have hjt : j < t := by rw [← hj]; exact Nat.mod_lt _ ht0
          have hji : (q : Int) % (t : Int) = (j : Int) := by rw [← hj]; simp
          have htz : ((t : Int) == 0) = false := by simp; omega
          have K1 := fun (w : World) => run_take_int (T := 25) (E := 5) Try.underlying25 byte_size w A2 t c2 j (j : Int) rfl (by omega)
          have hjc : j ≤ c2 := by omega
          have HJ : Hid (j = ((frameV x).take j).length) := Lib.hid (by rw [List.length_take, ← HT.out]; omega)
          have HJT := Lib.hid (open_part x j (by rw [HM.out]; omega) (by rw [← HT.out]; exact hjt))
          have hr6 := hr2.take j
          clear hj hr2
          go_wp2_with fail
          refine (frm_open_is A2 c2 j _ ((frameV x).take j) [] 10 0 _ HJ.out hr6 (Nat.le_refl _) (by omega) HJT.out rfl).mono ?_; rintro e w6 ⟨A6, c6, rfl, -, hb6⟩
          have hs6 := hb6.size
          replace hr1 := (hr1.quiet (grown_of_below hb6 none) (Nat.le_refl _)).more hs6
          replace hr5 := (hr5.quiet (grown_of_below hb6 none) (Nat.le_refl _)).more hs6
          have HB6 := Lib.hid (HB5.out.trans (hb6.mono HB5.out.size))
          clear hb6 hs6 HB5 hr6
          go_wp2_with fail
          refine (ref_eq_same A5 A1 c5 c1 m m _ _ x _ HM.out.symm HM.out.symm hr5.row hr1.row (by rw [HM.out]; omega)).mono ?_; rintro e w7 ⟨rfl, hg7⟩
          have fin := Lib.hid (HB6.out.trans ((grown_none hg7).mono HB6.out.size))
          clear hr1 hr5 hg7 HB6
          go_wp2
          go_ret
          exact ⟨rfl, fin.out⟩
end Go.Proofs.Ytonghhnodpjkfaa
