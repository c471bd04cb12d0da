/-
  The walk of the fourth layer's law on frames, one behind the other.
-/
import Derived.Test.YtonghhnodpjkfaaLaw04C
namespace Go.Proofs.Ytonghhnodpjkfaa
open Go.RowKit

/-- The frames of pieces, one behind the other. -/
def framesP (l : List Piece) : List UInt8 := l.flatMap fun p => frameV p.2.2
theorem framesP_snoc (l : List Piece) (p : Piece) : framesP (l ++ [p]) = framesP l ++ frameV p.2.2 := by simp [framesP]
theorem framesP_drop (l : List Piece) (k : Nat) (h : k < l.length) : framesP (l.drop k) = frameV (l.getD k (none, 0, [])).2.2 ++ framesP (l.drop (k + 1)) := by
  have e : l.getD k (none, 0, []) = l[k] := by simp [List.getD, List.getElem?_eq_getElem h]
  rw [List.drop_eq_getElem_cons h, e, framesP, framesP, List.flatMap_cons]
theorem framesP_step {l : List Piece} {k : Nat} (hk : k < l.length) (h : (framesP (l.take k)).length ≤ 307 * k) (h3 : (l.getD k (none, 0, [])).2.2.length ≤ 300) : (framesP (l.take (k + 1))).length ≤ 307 * (k + 1) := by
  have := frameV_max _ (show (l.getD k (none, 0, [])).2.2.length ≤ 32768 by omega)
  rw [take_snoc_piece l k hk, framesP_snoc, List.length_append, Nat.mul_succ]
  omega
/-- A load, how many bytes its frame has, and an errno come back. -/
def RetNext (x : List UInt8) (m n r : Nat) (w : World) (e : Ending) (w' : World) : Prop :=
  ∃ A c, e = .returned (.tuple #[.slice A m c, .int .i64 (n : Int), .int .i64 (r : Int)]) ∧ RdB w' w'.heap.size A c x ∧ Below w.heap.size w w'
theorem frm_next_is (A : Option Addr) (c n B : Nat) (l x : List UInt8) (r m k : Nat) (w : World) (hn : n = l.length) (h : RdB w B A c l) (hB : B ≤ w.heap.size) (hm63 : n ≤ 9223372036854775806) (ho : nextV l = (x, k, r)) (hm : m = x.length) :
    Calls Try.prog 13 #[.slice A n c] w (RetNext x m k r w) :=
  (frm_next A c n B l w hn h hB hm63).mono fun e w' ⟨A1, c1, m1, h1, h2, h3, h4⟩ => by
    rw [ho] at h1 h2 h3
    subst h2
    exact ⟨A1, c1, by rw [h1, hm], h3, h4⟩

set_option maxHeartbeats 4000000 in
set_option maxRecDepth 100000 in
theorem frameChain_walk (A : Option Addr) (c : Nat) (l : List Piece) (w : World) (h : RdP w w.heap.size w.heap.size A l) (hm : l.length ≤ maxLen) :
    Calls Try.prog 6 #[.slice A l.length c] w fun e w' => e = .returned (.bool true) ∧ Below w.heap.size w w' := by
  unfold maxLen at hm
  obtain ⟨n, hn⟩ : ∃ n, l.length = n := ⟨_, rfl⟩
  rw [hn] at hm ⊢
  have HN := Lib.hid hn
  clear hn
  by_cases h20 : 20 < n
  · go_enter Try.func6, Try.ntmps6
    go_wp2_with fail
    refine (awake04 _).mono ?_; rintro e w1 ⟨rfl, hb⟩
    go_wp2
    go_ret
    exact ⟨rfl, hb⟩
  · go_enter Try.func6, Try.ntmps6
    go_wp2_with fail
    refine (awake04 _).mono ?_; rintro e w1 ⟨rfl, hb1⟩
    have hown0 : OwnB w1 w.heap.size (.slice none 0 0) [] := World.ownsRow_nil _ _ _ _
    go_wp2_with fail
    go_loopw [3, 23] (fun v i wr => ∃ k : Nat, k ≤ n ∧ i = .int .i64 (k : Int) ∧ OwnB wr w.heap.size v (framesP (l.take k)) ∧ (framesP (l.take k)).length ≤ 307 * k ∧ (∀ j, j < k → (l.getD j (none, 0, [])).2.2.length ≤ 300) ∧ Below w.heap.size w wr) (fun _ i _ => n - (intOf i).toNat)
    case atStart => exact ⟨0, by omega, rfl, hown0, by simp [framesP], fun j hj => by omega, hb1⟩
    case round =>
      obtain ⟨k, hk, rfl, hown, hal, hall, hbw⟩ := hrel
      have hr := h.below hbw
      have hsw := hbw.size
      have HALL := Lib.hid hall
      clear hown0 hall
      by_cases hlt : k < n
      · have hkl : k < l.length := by rw [HN.out]; exact hlt
        obtain ⟨b0, o0, rfl, hb0, hc⟩ := hr.row.pieces_at (by omega)
        have hcell := hc k hkl
        have hp := hr.each _ (getD_mem hkl)
        have HT := Lib.hid (take_snoc_piece l k hkl)
        have HA := Lib.hid (framesP_snoc (l.take k) (l.getD k (none, 0, [])))
        have HL : Hid ((l.getD k (none, 0, [])).2.2.length ≤ 300 → (framesP (l.take (k + 1))).length ≤ 307 * (k + 1)) := fun h2 => framesP_step hkl hal h2
        have HA2 : Hid ((l.getD k (none, 0, [])).2.2.length ≤ 300 → ∀ j, j < k + 1 → (l.getD j (none, 0, [])).2.2.length ≤ 300) := fun h2 j hj => by
          rcases Nat.lt_or_ge j k with h' | h'
          · exact HALL.out j h'
          · obtain rfl : j = k := by omega
            exact h2
        obtain ⟨p, hpe⟩ : ∃ p, l.getD k (none, 0, []) = p := ⟨_, rfl⟩
        rw [hpe] at hcell hp HT HA HL HA2
        obtain ⟨ys, hys⟩ : ∃ ys, framesP (l.take k) = ys := ⟨_, rfl⟩
        rw [hys] at hown HA hal
        clear hc hpe hkl hr
        obtain ⟨A1, c1, l1⟩ := p
        simp only [pieceV] at hcell hp HL HA HA2
        have hcap := hp.cap
        have hroom := hp.room
        unfold maxLen at hcap
        obtain ⟨m, hm1⟩ : ∃ m, l1.length = m := ⟨_, rfl⟩
        have HM := Lib.hid hm1.symm
        rw [hm1] at hcell hroom HL HA2
        have HY := Lib.hid hys
        have HB := Lib.hid hbw
        clear hbw hys hm1
        by_cases h300 : 300 < m
        · clear hown hp
          go_wp2
          go_ret
          exact ⟨rfl, HB.out⟩
        · have HL2 := Lib.hid (HL.out (by omega))
          have HA3 := Lib.hid (HA2.out (by omega))
          have hfm := frameV_max l1 (by rw [← HM.out]; omega)
          obtain ⟨t, ht⟩ : ∃ t, t = (frameV l1).length := ⟨_, rfl⟩
          have HT0 := Lib.hid ht
          have hlen : ys.length + (frameV l1).length ≤ 140737488355328 := by rw [← HM.out] at hfm; omega
          have HAL := Lib.hid hal
          have HLEN := Lib.hid hlen
          have hrp := hp.quiet (World.grownBy_alloc wr (.cells #[.slice A1 m c1] 25) none) hsw
          have hbw := HB.out.alloc hsw (.cells #[.slice A1 m c1] 25)
          have hs2 := hbw.size
          have hown2 := hown.alloc (.cells #[.slice A1 m c1] 25)
          have HO2 := Lib.hid hown2
          have HB2 := Lib.hid hbw
          clear HL hal ht hlen HA2 hp hown hown2 hbw hfm HB
          go_wp2_with fail
          refine (frm_make1 A1 c1 m wr.heap.size l1 _ HM.out (hrp.more hs2) (heap_new _ _ _ rfl) (by omega)).mono ?_; rintro e w5 ⟨v5, rfl, hown5, hb5⟩
          have hown := HO2.out.below hb5
          have HB5 := Lib.hid (HB2.out.trans (hb5.mono hs2))
          have hs5 := HB5.out.size
          obtain ⟨A5, c5, rfl, hr5⟩ := hown5.read_n HT0.out
          have hlen := HLEN.out
          clear hrp hs2 HO2 HB2 hb5 hown5
          go_wp2_with (at_builtin; refine wpList_app_row rfl (.tmp 38) (.tmp 39) rfl w.heap.size _ ys rfl hown _ A5 c5 t (frameV l1) HT0.out rfl hr5.row hlen hs5 ?_; intro v6 w6 hown6 _ hb6 _)
          go_roundw
          case rel => exact ⟨k + 1, by omega, by go_num, by rw [HT.out, HA.out]; exact hown6, HL2.out, HA3.out, HB5.out.trans hb6⟩
          case measure => simp [intOf]; omega
      · obtain rfl : k = n := by omega
        have hT : l.take k = l := by rw [← HN.out, List.take_length]
        rw [hT] at hown hal
        clear hT hr
        obtain ⟨m0, hm0⟩ : ∃ m0, m0 = (framesP l).length := ⟨_, rfl⟩
        have hm0l : m0 ≤ 10000 := by omega
        obtain ⟨A0, c0, rfl, hr0⟩ := hown.read_n hm0
        have hD : (framesP (l.drop 0)) = framesP l := by rw [List.drop_zero]
        rw [← hD] at hr0 hm0
        have HM0 := Lib.hid hm0
        have HR0 := Lib.hid hr0
        have HB0 := Lib.hid hbw
        clear hm0 hown hal hr0 hbw hD
        go_wp2_with fail
        go_loopw [3, 44] (fun v i wx => ∃ (j m1 c1 : Nat) (A1 : Option Addr), j ≤ k ∧ i = .int .i64 (j : Int) ∧ v = .slice A1 m1 c1 ∧ m1 = (framesP (l.drop j)).length ∧ m1 ≤ 10000 ∧ RdB wx wr.heap.size A1 c1 (framesP (l.drop j)) ∧ Below wr.heap.size wr wx) (fun _ i _ => k - (intOf i).toNat)
        case atStart => exact ⟨0, m0, c0, A0, by omega, rfl, rfl, HM0.out, hm0l, HR0.out, Below.refl _ _⟩
        case round =>
          obtain ⟨j, m1, c1, A1, hj, rfl, rfl, hm1, hm1l, hr1, hbx⟩ := hrel
          have HM1 := Lib.hid hm1
          have HBW := Lib.hid (HB0.out.trans (hbx.mono HB0.out.size))
          have hr := h.below HBW.out
          have hsx := hbx.size
          have hsw2 := HBW.out.size
          clear hm1 HR0
          by_cases hlt2 : j < k
          · have hjl : j < l.length := by rw [HN.out]; exact hlt2
            obtain ⟨b0, o0, rfl, hb0, hc⟩ := hr.row.pieces_at (by omega)
            have hcell := hc j hjl
            have hp := hr.each _ (getD_mem hjl)
            have HD := Lib.hid (framesP_drop l j hjl)
            have h300 := HALL.out j hlt2
            obtain ⟨p, hpe⟩ : ∃ p, l.getD j (none, 0, []) = p := ⟨_, rfl⟩
            rw [hpe] at hcell hp HD h300
            obtain ⟨A2, c2, l2⟩ := p
            simp only [pieceV] at hcell hp HD h300
            have hroom := hr1.room
            rw [← HM1.out] at hroom
            have hcap := hr1.cap
            unfold maxLen at hcap
            have hcap2 := hp.cap
            have hroom2 := hp.room
            unfold maxLen at hcap2
            obtain ⟨m2, hm2⟩ : ∃ m, l2.length = m := ⟨_, rfl⟩
            have HM2 := Lib.hid hm2
            rw [hm2] at hcell h300 hroom2
            obtain ⟨t, ht⟩ : ∃ t, t = (frameV l2).length := ⟨_, rfl⟩
            have ht5 : ¬ (t : Int) < 5 := by have := frameV_min l2; omega
            have HTT := Lib.hid ht
            have htm : t ≤ m1 := by rw [HM1.out, HD.out, List.length_append, ← ht]; omega
            have htm' : ¬ (m1 : Int) < (t : Int) := by omega
            have HNX : Hid (nextV (framesP (l.drop j)) = (l2, t, 0)) := Lib.hid (by rw [HD.out, ht]; exact next_frame l2 _ (by omega))
            have HCUT : Hid ((framesP (l.drop j)).drop t = framesP (l.drop (j + 1))) := Lib.hid (by rw [HD.out]; exact List.drop_left' ht.symm)
            have HR1 := Lib.hid hr1
            have HBX := Lib.hid hbx
            have HP := Lib.hid hp
            have K2 := fun (w : World) => run_cut (T := 25) (E := 5) Try.underlying25 byte_size w A1 m1 c1 t htm
            clear hc hpe hr hm2 ht hr1 hbx hp
            go_wp2_with fail
            refine (frm_next_is A1 c1 m1 _ _ l2 0 m2 t _ HM1.out HR1.out hsx (by omega) HNX.out HM2.out.symm).mono ?_; rintro e w5 ⟨A5, c5, rfl, hr5, hb5⟩
            have hp5 := HP.out.quiet (grown_of_below hb5 none) hsw2
            have HR5 := Lib.hid (HR1.out.quiet (grown_of_below hb5 none) hsx)
            have HB5 := Lib.hid (HBX.out.trans (hb5.mono hsx))
            have hs5 := hb5.size
            clear hb5 HBX HR1 HP
            go_wp2_with fail
            refine (ref_eq_same A5 A2 c5 c2 m2 m2 _ _ l2 _ HM2.out.symm HM2.out.symm hr5.row hp5.row (by rw [HM2.out]; omega)).mono ?_; rintro e w6 ⟨rfl, hg6⟩
            have HR6 := Lib.hid ((HR5.out.quiet hg6 (Nat.le_trans hsx hs5)).cut (k := t) (by rw [← HM1.out]; exact htm))
            have HB6 := Lib.hid (HB5.out.trans ((grown_none hg6).mono HB5.out.size))
            have HM6 : Hid (m1 - t = (framesP (l.drop (j + 1))).length) := Lib.hid (by rw [← HCUT.out, List.length_drop, ← HM1.out])
            clear hr5 hp5 hg6 HR5 HB5
            go_wp2
            go_roundw
            case rel => exact ⟨j + 1, m1 - t, c1 - t, cutA A1 t c1, by omega, by go_num, rfl, HM6.out, by omega, by rw [← HCUT.out]; exact HR6.out, HB6.out⟩
            case measure => simp [intOf]; omega
          · obtain rfl : j = k := by omega
            have hnil : framesP (l.drop j) = [] := by rw [← HN.out, List.drop_length]; rfl
            rw [hnil] at hr1
            obtain rfl : m1 = 0 := by rw [HM1.out, hnil]; rfl
            have HR1 := Lib.hid hr1
            have HBX := Lib.hid hbx
            clear hr hr1 hbx hnil
            go_wp2_with fail
            refine (frm_next_is A1 c1 0 _ [] [] 10 0 0 _ rfl HR1.out hsx (by omega) next_nil rfl).mono ?_; rintro e w5 ⟨A5, c5, rfl, -, hb5⟩
            have fin := Lib.hid (HBW.out.trans (hb5.mono HBW.out.size))
            clear hb5
            go_wp2
            go_ret
            exact ⟨rfl, fin.out⟩
end Go.Proofs.Ytonghhnodpjkfaa
