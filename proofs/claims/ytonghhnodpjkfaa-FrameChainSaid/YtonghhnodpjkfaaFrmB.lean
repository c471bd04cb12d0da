/-
  The walk of the layer of frames: the frame of all parts.
-/
import Derived.Test.YtonghhnodpjkfaaFrmA
import Derived.Test.YtonghhnodpjkfaaVarE
namespace Go.Proofs.Ytonghhnodpjkfaa
open Go.RowKit

theorem allP_take_le (l : List Piece) (k : Nat) : (allP (l.take k)).length ≤ (allP l).length := by
  have := congrArg (fun t => (allP t).length) (List.take_append_drop k l)
  simp only [allP, List.flatMap_append, List.length_append] at this ⊢
  omega
theorem RdP.more {w : World} {B B' C C' : Nat} {A : Option Addr} {l : List Piece} (h : RdP w B C A l) (h1 : B ≤ B') (h2 : C ≤ C') : RdP w B' C' A l := ⟨h.row.more h1, fun p hp => (h.each p hp).more h2⟩
theorem RdP.quiet {w w' : World} {B C : Nat} {A : Option Addr} {l : List Piece} (h : RdP w B C A l) (hg : w.grownBy w' none) (hB : B ≤ w.heap.size) (hC : C ≤ w.heap.size) : RdP w' B C A l :=
  ⟨h.row.keep fun p hp => World.cell?_of_block (hg.block p.block (by omega) (by simp)), fun p hp => (h.each p hp).quiet hg hC⟩
theorem put_one (N : Nat) (hN : N ≤ 281474976710656) (w : World) (g : Nat) (h : w.heap[g]? = some (.cells #[.int .i64 (N : Int)] 3 (0, 0))) :
    Calls Try.prog 15 #[.slice none 0 0, .slice (some ⟨g, 0, none⟩) 1 1] w (RetB2 w.heap.size w (putV N)) :=
  (varint_put none 0 w.heap.size [] (some ⟨g, 0, none⟩) 1 1 [(N : Int)] w rfl (rdB_nil _ _) ((RowAt.of_block h).more (lt_of_block h)) (by intro x hx; simp at hx; omega) (Nat.le_refl _) (by simp)).mono fun e w' hp => by
    rcases hp with ⟨_, hp⟩ | ⟨hno, _⟩
    · rw [putsV_cons, putsV_nil, List.append_nil, Int.toNat_natCast, List.nil_append] at hp; exact hp
    · refine absurd hno ?_
      simp [okL, okN]; omega
theorem slices_grow_int (base g c n m : Nat) (i : Int) (hi : i = (m : Int)) (l : List UInt8) (w : World) (hn : n = l.length) (ho : OwnB w base (.slice (some ⟨g, 0, none⟩) n c) l) (hb : base ≤ w.heap.size) (hbig : n + m ≤ 140737488355328) :
    Calls Try.prog 16 #[.slice (some ⟨g, 0, none⟩) n c, .int .i64 i] w (RetB base w l) := by
  subst hi; exact slices_grow base g c n m l w hn ho hb hbig
/-- What Make answers. -/
def MakePost (l : List Piece) (w : World) (e : Ending) (w' : World) : Prop :=
  ((allP l).length ≤ 32768 ∧ RetB2 w.heap.size w (frameV (allP l)) e w') ∨ (32768 < (allP l).length ∧ e = .returned (.tuple #[.slice none 0 0, .int .i64 12]) ∧ w = w')

set_option maxHeartbeats 4000000 in
set_option maxRecDepth 100000 in
theorem frm_make (A : Option Addr) (c n : Nat) (l : List Piece) (w : World) (hn : n = l.length) (h : RdP w w.heap.size w.heap.size A l) (hm63 : n ≤ 9223372036854775806) :
    Calls Try.prog 8 #[.slice A n c] w (MakePost l w) := by
  have HN := Lib.hid hn
  clear hn
  go_enter Try.func8, Try.ntmps8
  go_wp2
  go_loop [4, 13] (fun v i => ∃ k s : Nat, k ≤ n ∧ i = .int .i64 (k : Int) ∧ v = .int .i64 (s : Int) ∧ s = (allP (l.take k)).length ∧ s ≤ 32768) (fun _ i => n - (intOf i).toNat)
  case atStart => exact ⟨0, 0, by omega, rfl, rfl, rfl, by omega⟩
  case round =>
    obtain ⟨k, s, hk, rfl, rfl, hs, hs32⟩ := hrel
    have HS := Lib.hid hs
    clear hs
    by_cases hlt : k < n
    · have hkl : k < l.length := by rw [← HN.out]; exact hlt
      obtain ⟨b0, o0, rfl, hb0, hc⟩ := h.row.pieces_at (by omega)
      have hcell := hc k hkl
      have hp := h.each _ (getD_mem hkl)
      have HT := Lib.hid (take_snoc_piece l k hkl)
      have HA := Lib.hid (allP_snoc (l.take k) (l.getD k (none, 0, [])))
      have HLE := Lib.hid (allP_take_le l (k + 1))
      obtain ⟨p, hpe⟩ : ∃ p, l.getD k (none, 0, []) = p := ⟨_, rfl⟩
      rw [hpe] at hcell hp HT HA
      clear hc hpe hkl
      obtain ⟨A1, c1, l1⟩ := p
      simp only [pieceV] at hcell HA hp
      have hcap := hp.cap
      have hroom := hp.room
      unfold maxLen at hcap
      obtain ⟨m, hm1⟩ : ∃ m, l1.length = m := ⟨_, rfl⟩
      have HM := Lib.hid hm1
      rw [hm1] at hcell hroom
      clear hm1 hp
      have HSN : Hid ((allP (l.take (k + 1))).length = s + m) := Lib.hid (by rw [HT.out, HA.out, List.length_append, ← HS.out, HM.out])
      by_cases hbig : 32768 < s + m
      · have fin : Hid (32768 < (allP l).length) := Lib.hid (by have := HLE.out; rw [HSN.out] at this; omega)
        have hbi : (32768 : Int) - (s : Int) < (m : Int) := by omega
        go_wp2
        go_ret2
        exact .inr ⟨fin.out, rfl, rfl⟩
      · have hbi : ¬ (32768 : Int) - (s : Int) < (m : Int) := by omega
        have hsm : s + m ≤ 32768 := by omega
        go_wp2
        go_round
        case rel => exact ⟨k + 1, s + m, by omega, by go_num, by go_num, HSN.out.symm, hsm⟩
        case measure => simp [intOf]; omega
    · obtain rfl : k = n := by omega
      rw [show l.take k = l by rw [HN.out, List.take_length]] at HS
      have hg0 : (w.alloc (.cells #[.int .i64 (s : Int)] 3)).heap[w.heap.size]? = some (.cells #[.int .i64 (s : Int)] 3 (0, 0)) := heap_new _ _ _ rfl
      have hb0 : Below w.heap.size w (w.alloc (.cells #[.int .i64 (s : Int)] 3)) := (Below.refl _ _).alloc (Nat.le_refl _) _
      have H := Lib.hid h
      clear h
      go_wp2_with fail
      refine (put_one s (by omega) _ _ hg0).mono ?_; rintro e w1 ⟨v1, rfl, hown1, hb1⟩
      replace hown1 := hown1.mono hb0.size
      replace hb1 := hb0.trans (hb1.mono hb0.size)
      obtain ⟨m1, hm1⟩ : ∃ m1, m1 = (putV s).length := ⟨_, rfl⟩
      have hm1p : 0 < m1 := by rw [hm1]; exact putV_pos s
      have hm1l : m1 ≤ 3 := by rw [hm1]; exact putV_len 2 s (by omega)
      have HM1 := Lib.hid hm1
      obtain ⟨g1, c1, rfl, hc1, -⟩ := own_some hown1 hm1 hm1p
      have HOW := Lib.hid hown1
      have HB1 := Lib.hid hb1
      clear hg0 hb0 hm1 hown1 hb1
      go_wp2_with fail
      refine (slices_grow_int w.heap.size g1 c1 m1 (s + 4) _ (by omega) (putV s) _ HM1.out HOW.out HB1.out.size (by omega)).mono ?_; rintro e w2 ⟨v2, rfl, hown2, hb2⟩
      replace hb2 := HB1.out.trans hb2
      clear HOW HB1
      go_wp2_with fail
      go_loopw [7, 39] (fun v i wr => ∃ k2 : Nat, k2 ≤ k ∧ i = .int .i64 (k2 : Int) ∧ OwnB wr w.heap.size v (putV s ++ allP (l.take k2)) ∧ Below w.heap.size w wr) (fun _ i _ => k - (intOf i).toNat)
      case atStart => exact ⟨0, by omega, rfl, by simpa [allP] using hown2, hb2⟩
      case round =>
        obtain ⟨j, hj, rfl, hown, hbw⟩ := hrel
        have hsw := hbw.size
        have hr := H.out.below hbw
        clear hown2 hb2
        by_cases hlt2 : j < k
        · have hjl : j < l.length := by rw [← HN.out]; exact hlt2
          obtain ⟨b0, o0, rfl, hbb0, hc⟩ := hr.row.pieces_at (by omega)
          have hcell := hc j hjl
          have hp := hr.each _ (getD_mem hjl)
          have HT := Lib.hid (take_snoc_piece l j hjl)
          have HA := Lib.hid (allP_snoc (l.take j) (l.getD j (none, 0, [])))
          have hle := allP_take_le l (j + 1)
          obtain ⟨p, hpe⟩ : ∃ p, l.getD j (none, 0, []) = p := ⟨_, rfl⟩
          rw [hpe] at hcell hp HT HA
          obtain ⟨A1, c3, l1⟩ := p
          simp only [pieceV] at hcell HA hp
          have hlen : (putV s ++ allP (l.take j)).length + l1.length ≤ 140737488355328 := by
            rw [HT.out, HA.out, List.length_append, ← HS.out] at hle
            rw [List.length_append, ← HM1.out]
            omega
          have hcap := hp.cap
          have hroom := hp.room
          unfold maxLen at hcap
          obtain ⟨m, hm1⟩ : ∃ m, l1.length = m := ⟨_, rfl⟩
          have HM := Lib.hid hm1.symm
          have HX : Hid (putV s ++ allP (l.take (j + 1)) = putV s ++ allP (l.take j) ++ l1) := Lib.hid (by rw [HT.out, HA.out, List.append_assoc])
          rw [hm1] at hcell hroom
          obtain ⟨ys, hys⟩ : ∃ ys, putV s ++ allP (l.take j) = ys := ⟨_, rfl⟩
          rw [hys] at hown hlen HX
          have HB := Lib.hid hbw
          clear hm1 hc hpe hjl hle hys hbw hr
          go_wp2_with (at_builtin; refine wpList_app_row rfl (.tmp 43) (.tmp 44) rfl w.heap.size _ ys rfl hown w.heap.size A1 c3 m l1 HM.out rfl hp.row hlen hsw ?_; intro v3 w3 hown3 _ hb3 _)
          go_roundw
          case rel => exact ⟨j + 1, by omega, by go_num, by rw [HX.out]; exact hown3, HB.out.trans hb3⟩
          case measure => simp [intOf]; omega
        · obtain rfl : j = k := by omega
          rw [show l.take j = l by rw [HN.out, List.take_length]] at hown
          have hs2 : s = (allP l).length := HS.out
          obtain ⟨ys, hys⟩ : ∃ ys, ys = putV s ++ allP l := ⟨_, rfl⟩
          rw [← hys] at hown
          obtain ⟨my, hmy⟩ : ∃ my, my = ys.length := ⟨_, rfl⟩
          have hmyl : my ≤ 40000 := by rw [hmy, hys, List.length_append, ← HM1.out, ← hs2]; omega
          have hmyp : 0 < my := by rw [hmy, hys, List.length_append, ← HM1.out, ← hs2]; omega
          obtain ⟨g2, c2, rfl, hc2, -⟩ := own_some hown hmy hmyp
          obtain ⟨A2, c2', hv2, hr2⟩ := hown.read_n hmy
          injection hv2 with hA2 _ hcc2
          subst hA2 hcc2
          have FIN : Hid (ys ++ tailC (sumC ys) = frameV (allP l)) := Lib.hid (by rw [frameV, ← hs2, hys])
          have FLE : Hid ((allP l).length ≤ 32768) := Lib.hid (by rw [← hs2]; exact hs32)
          have HMY := Lib.hid hmy
          have hl4 : ys.length + (tailC (sumC ys)).length ≤ 140737488355328 := by rw [tailC_len, ← hmy]; omega
          have hlt32 := sumC_lt ys
          have HL4 := Lib.hid hl4
          clear hys hmy hs2 HS H HN HM1 hr hl4
          have hg3 : (wr.alloc (.cells #[.slice (some ⟨g2, 0, none⟩) my c2] 25)).heap[wr.heap.size]? = some (.cells #[.slice (some ⟨g2, 0, none⟩) my c2] 25 (0, 0)) := heap_new _ _ _ rfl
          have hr3 := hr2.quiet (World.grownBy_alloc wr (.cells #[.slice (some ⟨g2, 0, none⟩) my c2] 25) none) (Nat.le_refl _)
          have hown3 := hown.alloc (.cells #[.slice (some ⟨g2, 0, none⟩) my c2] 25)
          have hb3 := hbw.alloc hsw (.cells #[.slice (some ⟨g2, 0, none⟩) my c2] 25)
          have HO3 := Lib.hid hown3
          have HB3 := Lib.hid hb3
          clear hr2 hown hbw hown3 hb3
          go_wp2_with fail
          refine (crc_sum1 _ c2 my _ _ ys _ HMY.out hr3 hg3).mono ?_; rintro e w4 ⟨rfl, rfl⟩
          clear hr3 hg3
          generalize sumC ys = q at *
          go_wp2_with fail
          refine (crc_tail q _ hlt32).mono ?_; rintro e w4 ⟨v4, rfl, hown4, hb4⟩
          obtain ⟨A4, c4, rfl, hr4⟩ := hown4.read
          have hown5 := HO3.out.below hb4
          have hb5 := HB3.out.trans (hb4.mono HB3.out.size)
          have hs5 := hb5.size
          have HB5 := Lib.hid hb5
          have hl4 := HL4.out
          clear HO3 HB3 hown4 hb4 hb5
          go_wp2_with (at_builtin; refine wpList_app_row rfl (.tmp 47) (.tmp 51) rfl w.heap.size _ ys rfl hown5 _ A4 c4 _ (tailC q) rfl rfl hr4.row hl4 hs5 ?_; intro v6 w6 hown6 _ hb6 _)
          go_ret2
          exact .inl ⟨FLE.out, _, rfl, by rw [← FIN.out]; exact hown6, HB5.out.trans hb6⟩
end Go.Proofs.Ytonghhnodpjkfaa
