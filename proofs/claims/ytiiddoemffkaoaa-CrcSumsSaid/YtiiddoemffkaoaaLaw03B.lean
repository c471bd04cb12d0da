/-
  The walk of the third layer's law on sums of parts.
-/
import Derived.Test.YtiiddoemffkaoaaLaw03A
namespace Go.Proofs.Ytiiddoemffkaoaa
open Go.RowKit

theorem RdP.below {w w' : World} {B : Nat} {A : Option Addr} {l : List Piece} (h : RdP w B B A l) (hb : Below B w w') : RdP w' B B A l := ⟨h.row.below hb, fun p hp => (h.each p hp).below hb⟩
theorem allP_len {l : List Piece} {k : Nat} (hk : k < l.length) {n : Nat} (h : (allP (l.take k)).length ≤ 300 * k) (hn : (l.getD k (none, 0, [])).2.2.length = n) (h3 : n ≤ 300) : (allP (l.take (k + 1))).length ≤ 300 * (k + 1) := by
  rw [take_snoc_piece l k hk, allP_snoc, List.length_append, hn]
  omega

set_option maxHeartbeats 1000000 in
set_option maxRecDepth 100000 in
theorem crcSums_walk (A : Option Addr) (c : Nat) (l : List Piece) (w : World) (h : RdP w w.heap.size w.heap.size A l) (hm : l.length ≤ maxLen) :
    Calls Try.prog 3 #[.slice A l.length c] w fun e w' => e = .returned (.bool true) ∧ Below w.heap.size w w' := by
  unfold maxLen at hm
  obtain ⟨n, hn⟩ : ∃ n, l.length = n := ⟨_, rfl⟩
  rw [hn] at hm ⊢
  have HN := Lib.hid hn
  clear hn
  by_cases h20 : 20 < n
  · go_enter Try.func3, Try.ntmps3
    go_wp2_with fail
    refine (awake03 _).mono ?_; rintro e w1 ⟨rfl, hb⟩
    go_wp2
    go_ret
    exact ⟨rfl, hb⟩
  · go_enter Try.func3, Try.ntmps3
    go_wp2_with fail
    refine (awake03 _).mono ?_; rintro e w1 ⟨rfl, hb1⟩
    have hown0 : OwnB w1 w.heap.size (.slice none 0 0) [] := World.ownsRow_nil _ _ _ _
    go_wp2_with fail
    go_loopw [3, 14] (fun v i wr => ∃ k : Nat, k ≤ n ∧ i = .int .i64 (k : Int) ∧ OwnB wr w.heap.size v (allP (l.take k)) ∧ (allP (l.take k)).length ≤ 300 * k ∧ Below w.heap.size w wr) (fun _ i _ => n - (intOf i).toNat)
    case atStart => exact ⟨0, by omega, rfl, hown0, by simp [allP], hb1⟩
    case round =>
      obtain ⟨k, hk, rfl, hown, hal, hbw⟩ := hrel
      have hr := h.below hbw
      have hsw := hbw.size
      clear hown0
      by_cases hlt : k < n
      · have hkl : k < l.length := by rw [HN.out]; exact hlt
        obtain ⟨b0, o0, rfl, hb0, hc⟩ := hr.row.pieces_at (by omega)
        have hcell := hc k hkl
        have hp := hr.each _ (getD_mem hkl)
        have HT := Lib.hid (take_snoc_piece l k hkl)
        have HA := Lib.hid (allP_snoc (l.take k) (l.getD k (none, 0, [])))
        have HL : Hid (∀ m, (l.getD k (none, 0, [])).2.2.length = m → m ≤ 300 → (allP (l.take (k + 1))).length ≤ 300 * (k + 1)) := fun m h1 h2 => allP_len hkl hal h1 h2
        obtain ⟨p, hpe⟩ : ∃ p, l.getD k (none, 0, []) = p := ⟨_, rfl⟩
        rw [hpe] at hcell hp HT HA HL
        obtain ⟨ys, hys⟩ : ∃ ys, allP (l.take k) = ys := ⟨_, rfl⟩
        rw [hys] at hown HA hal
        clear hc hpe hkl hr
        obtain ⟨A1, c1, l1⟩ := p
        simp only [pieceV] at hcell hp HL HA
        have hcap := hp.cap
        have hroom := hp.room
        unfold maxLen at hcap
        obtain ⟨m, hm1⟩ : ∃ m, l1.length = m := ⟨_, rfl⟩
        have HM := Lib.hid hm1.symm
        rw [hm1] at hcell hroom
        have HY := Lib.hid hys
        have HB := Lib.hid hbw
        clear hbw hys
        by_cases h300 : 300 < m
        · clear hm1 hown hp
          go_wp2
          go_ret
          exact ⟨rfl, HB.out⟩
        · have hlen : ys.length + l1.length ≤ 140737488355328 := by omega
          have HL2 := Lib.hid (HL.out m hm1 (by omega))
          have HAL := Lib.hid hal
          clear hm1 HL hal
          go_wp2_with (at_builtin; refine wpList_app_row rfl (.tmp 21) (.tmp 22) rfl w.heap.size _ ys rfl hown w.heap.size A1 c1 m l1 HM.out rfl hp.row hlen hsw ?_; intro v3 w3 hown3 _ hb3 _)
          go_roundw
          case rel => exact ⟨k + 1, by omega, by go_num, by rw [HT.out, HA.out]; exact hown3, HL2.out, HB.out.trans hb3⟩
          case measure => simp [intOf]; omega
      · obtain rfl : k = n := by omega
        have hT : l.take k = l := by rw [← HN.out, List.take_length]
        rw [hT] at hown hal
        clear hT
        have hlt32 := sumC_lt (allP l)
        have hk20 : k ≤ 20 := by omega
        obtain ⟨A1, c1, rfl, hr1⟩ := hown.read
        obtain ⟨m, hm1⟩ : ∃ m, (allP l).length = m := ⟨_, rfl⟩
        rw [hm1] at hal
        rw [hm1]
        have HM := Lib.hid hm1.symm
        have HB := Lib.hid hbw
        clear hm1 hown hbw
        go_wp2_with fail
        refine (crc_sum A c k w.heap.size w.heap.size l _ HN.out.symm (by omega) hr).mono ?_; rintro e w2 ⟨rfl, rfl⟩
        go_wp2_with fail
        refine (ref_sum A1 c1 m _ (allP l) _ HM.out (by omega) hr1).mono ?_; rintro e w2 ⟨rfl, rfl⟩
        generalize sumC (allP l) = s at *
        clear hr hr1
        go_wp2_with fail
        refine (crc_tail s _ hlt32).mono ?_; rintro e w2 ⟨v2, rfl, hown2, hb2⟩
        obtain ⟨A2, c2, rfl, hr2⟩ := hown2.read
        have HB2 := Lib.hid (HB.out.trans (hb2.mono HB.out.size))
        have hs2 := HB2.out.size
        clear hown2 hb2 HB
        go_wp2_with fail
        refine (ref_tail s _ hlt32).mono ?_; rintro e w3 ⟨v3, rfl, hown3, hb3⟩
        obtain ⟨A3, c3, rfl, hr3⟩ := hown3.read
        replace hr2 := hr2.quiet (grown_of_below hb3 none) (Nat.le_refl _)
        have HB3 := Lib.hid (HB2.out.trans (hb3.mono HB2.out.size))
        clear hown3 hb3 HB2
        go_wp2_with fail
        refine (ref_eq_same A2 A3 c2 c3 4 4 _ _ (tailC s) _ rfl rfl hr2.row hr3.row (by simp [tailC_len])).mono ?_; rintro e w4 ⟨rfl, hg⟩
        have fin := Lib.hid (HB3.out.trans ((grown_none hg).mono HB3.out.size))
        clear hg hr2 hr3
        go_wp2
        go_ret
        exact ⟨rfl, fin.out⟩
end Go.Proofs.Ytiiddoemffkaoaa
