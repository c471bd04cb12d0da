/-
  Layer 13 (counts), the program: the right list of some runs' counts.
-/
import Derived.Test.YtnfhkmlggajhaaaCntG
namespace Go.Proofs.Ytnfhkmlggajhaaa
open Go.RowKit

set_option maxHeartbeats 4000000 in
theorem cn_of_own (A : Option Addr) (c n : Nat) (l : List Rn) (hn : n = l.length) (hnl : n ≤ 300000) (U : List Rn) (hU : ofC l = U) (NU : Nat) (hNU : U.length = NU) (w : World) (hr : kRn.Rd w w.heap.size A c l) :
    Calls Try.prog 13 #[.slice A n c] w (RetOC w NU U) := by
  have B0 := Lib.hid (cn_byBeginning A c n l hn (by omega) w hr)
  have HN := Lib.hid hn
  have HUU := Lib.hid hU
  have HNN := Lib.hid hNU
  clear hn hr hU hNU
  go_enter Try.func13, Try.ntmps13
  go_wp2_with ((with_reducible refine B0.out.mono ?_); rintro e w1 ⟨m, hm1, hm2, A1, c1, rfl, hrd, hq⟩; have HM := Lib.hid (mergeC_norm hm1 hm2); have HR := Lib.hid hrd; have HB0 := Lib.hid hq; have HSS := Lib.hid hm2; have HRT := Lib.hid (show ∀ r ∈ m, oneC r = true from fun r hr => (List.mem_filter.1 (hm1.mem_iff.1 hr)).2); have hml := Nat.le_trans (Nat.le_of_eq hm1.length_eq) (List.length_filter_le _ _); clear hm1 hm2 hrd hq)
  obtain ⟨N, hN⟩ : ∃ N, m.length = N := ⟨_, rfl⟩
  rw [hN]
  have hNl : N ≤ 300000 := by have := HN.out; omega
  have HNM := Lib.hid hN
  have hcx : N ≤ c1 := by rw [← hN]; exact HR.out.room
  clear hN hml B0
  go_loopw [3, 10] (fun v i wr => ∃ (k : Nat) (dn : List Rn) (o : Option Rn), k ≤ N ∧ Hid (mergeC none m = dn ++ mergeC o (m.drop k)) ∧ Hid (kRn.Own wr w1.heap.size v (dn ++ o.toList)) ∧ Hid (o = none → dn = []) ∧ Hid (LastC o (m.drop k)) ∧ (dn ++ o.toList).length ≤ k ∧ i = .int .i64 k ∧ Below w1.heap.size w1 wr) (fun _ i _ => N - (intOf i).toNat)
  case atStart => exact ⟨0, [], none, by omega, rfl, Kind.Own.nil _ _, fun _ => rfl, LastC.none _, by simp, rfl, Below.refl _ _⟩
  case round =>
    obtain ⟨k, dn, o, hk, HL, HO, HE, HP, hol, rfl, hb⟩ := hrel
    by_cases hlt : k < N
    · obtain ⟨r, hg, hd, hrm⟩ := cnt_get (l := m) (k := k) (by have := HNM.out; omega)
      obtain ⟨b, o1, rfl, hb1, hcell⟩ := rns_at (HR.out.below hb) (by have := HNM.out; omega)
      obtain ⟨c0, c1⟩ := hcell k r hg
      have hrr := HRT.out r hrm
      have HN1 := Lib.hid (LastC.new hrr (by rw [← hd]; exact HSS.out.from k))
      have hbl := Nat.lt_of_lt_of_le hb1 hb.size
      obtain ⟨X, hX⟩ : ∃ X, r.fr = X := ⟨_, rfl⟩
      obtain ⟨Y, hY⟩ : ∃ Y, r.to = Y := ⟨_, rfl⟩
      have hrX : (⟨X, Y⟩ : Rn) = r := by rw [← hX, ← hY]
      have HRW := fun w => Lib.hid (rn_row w X Y)
      rw [hrX] at HRW
      have HG := Lib.hid (rnAt_new wr X Y 26)
      rw [hX] at c0
      rw [hY] at c1
      have HB1 := Lib.hid (hb.alloc hb.size (.cells #[.int .i64 X, .int .i64 Y] 26))
      have HO1 := Lib.hid (HO.out.alloc (.cells #[.int .i64 X, .int .i64 Y] 26))
      obtain ⟨WB, hWB⟩ : ∃ WB, wr.alloc (.cells #[.int .i64 X, .int .i64 Y] 26) = WB := ⟨_, rfl⟩
      cases o with
      | none =>
        have HL2 := Lib.hid (HL.out.trans (show dn ++ mergeC none (m.drop k) = dn ++ mergeC (some r) (m.drop (k + 1)) by rw [hd]; rfl))
        obtain rfl := HE.out rfl
        obtain ⟨A0, cp0, rfl, -⟩ := HO.out.read_n (n := 0) rfl
        have HC := Lib.hid (show CellL WB [(⟨wr.heap.size, 0, none⟩, .int .i64 X), (⟨wr.heap.size, 1, none⟩, .int .i64 Y)] WB from by rw [hWB] at HG; exact ⟨HG.out.1, HG.out.2.1, Below.refl _ _⟩)
        rw [hWB] at HO1 HB1
        clear hcell hg hd hrm hrr hX hY hrX HG HL HE HO
        have HW := Lib.hid hWB
        go_wp2_with fail
        clear c0 c1
        clear hWB
        refine q_region (CellL WB [(⟨wr.heap.size, 0, none⟩, .int .i64 X), (⟨wr.heap.size, 1, none⟩, .int .i64 Y)]) (by kernel_rfl) (by kernel_rfl) (cellL_drew HC.out) ?_
        repeat (first
          | go_big_quiet_skip
          | (go_big_quiet_want; (first
            | (refine q_take (v := ?_) ?_ ?_; rotate_left; (focus (intro w hSw; (try simp only [CellL] at hSw); go_split_ands; go_simp; (try (rw [if_neg (by omega)])); (try with_reducible rfl); done)))); (try simp only [Act.put, List.setIfInBounds_toArray, List.set_cons_zero, List.set_cons_succ]); go_big_quiet_on))
        refine wpQuiet_nil ?_
        intro w2 hw2
        have HB2 := Lib.hid (HB1.out.trans ((cellL_size hw2).mono HB1.out.size))
        have HO2 := Lib.hid (HO1.out.below (cellL_size hw2))
        simp only [CellL] at hw2
        obtain ⟨g0, g1, -⟩ := hw2
        go_wp2_with (at_builtin; refine wpList_app_k kRn rfl (.tmp 27) (.tmp 29) rfl w1.heap.size _ _ rfl (Kind.Own.alloc HO2.out _) _ (some ⟨w2.heap.size, 0, none⟩) 1 1 [r] rfl rfl (HRW w2).out (by simp) (by decide) (cle_alloc (HB2.out.size) _) ?_; intro v3 w3 hown3 hg3 hb3 _; have HO3 := Lib.hid hown3; have HB3 := Lib.hid ((HB2.out.alloc HB2.out.size _).trans hb3); clear hown3 hb3 hg3)
        go_roundw
        case rel => exact ⟨k + 1, [], some r, by omega, HL2, HO3.out, (fun h => by cases h), HN1.out, by simp, by go_num, HB3.out⟩
        case measure => simp [intOf]; omega
      | some p =>
        obtain ⟨D, hD⟩ : ∃ D, dn.length = D := ⟨_, rfl⟩
        have hLn : D + 1 = (dn ++ [p]).length := by rw [List.length_append, hD]; rfl
        have hD9 : D ≤ 300000 := by have h := hol; rw [show (some p).toList = [p] from rfl, ← hLn] at h; omega
        obtain ⟨g, cp, rfl, hcp, hgb, -, -, -⟩ := HO.out.some_ hLn (by omega)
        have hga : (dn ++ [p])[D]? = some p := by rw [← hD, List.getElem?_append_right (Nat.le_refl _), Nat.sub_self]; rfl
        have HP1 := Lib.hid (show LastC (some p) (r :: m.drop (k + 1)) from by rw [← hd]; exact HP.out)
        have hpr := (HP.out p rfl).1
        obtain ⟨x, hx⟩ : ∃ x, gapC p r = x := ⟨_, rfl⟩
        have CA := fun w => (cn_apart p r p.fr p.to X Y rfl hX hpr x hx w)
        have CA := Lib.hid (fun L => cellL_of (a := WB) (l := L) CA)
        have HLP := Lib.hid (HL.out.trans (by rw [hd]))
        have HX := Lib.hid hx
        rw [hWB] at HO1 HB1 HG
        have HLN := Lib.hid hLn
        have HDD := Lib.hid hD
        have HRR := Lib.hid hrr
        have HYY := Lib.hid hY
        obtain ⟨-, hgl, hfz, hcs⟩ := HO1.out.at_g hLn (by omega)
        have e0 := hcs D p hga 0 _ rfl
        have e1 := hcs D p hga 1 _ rfl
        change WB.cell? ⟨g, D * 2 + 0, none⟩ = some (.int .i64 p.fr) at e0
        change WB.cell? ⟨g, D * 2 + 1, none⟩ = some (.int .i64 p.to) at e1
        rw [Nat.add_zero] at e0
        obtain ⟨S, hS⟩ : ∃ S, p.fr = S := ⟨_, rfl⟩
        obtain ⟨T, hT⟩ : ∃ T, p.to = T := ⟨_, rfl⟩
        rw [hS, hT] at CA
        rw [hS] at e0
        rw [hT] at e1
        have HTT := Lib.hid hT
        have HC := Lib.hid (show CellL WB [(⟨wr.heap.size, 0, none⟩, .int .i64 X), (⟨wr.heap.size, 1, none⟩, .int .i64 Y), (⟨g, D * 2, none⟩, .int .i64 S), (⟨g, D * 2 + 1, none⟩, .int .i64 T)] WB from ⟨HG.out.1, HG.out.2.1, e0, e1, Below.refl _ _⟩)
        have hj0 : (0 : Int) ≤ (D : Int) := by omega
        have hjn : (D : Int) < (D : Int) + 1 := by omega
        have hjd : decide ((D : Int) < 0) = false := decide_eq_false (by omega)
        have hjw : IntKind.i64.wrap ((D : Int) + 1 - 1) = (D : Int) := by rw [Int.add_sub_cancel]; exact IntWalk.i64_in _ (by omega)
        have hjw2 : IntKind.i64.wrap (D : Int) = (D : Int) := IntWalk.i64_in _ (by omega)
        clear hcell hg hd hrm hrr hpr hX hY hrX HG HL HE HO HP hLn hga hD hx hS hT hgl hfz hcs e0 e1
        go_wp2_with fail
        clear c0 c1 hWB
        cases x
        case true =>
          have HL2 := Lib.hid (HLP.out.trans (show dn ++ mergeC (some p) (r :: m.drop (k + 1)) = (dn ++ [p]) ++ mergeC (some r) (m.drop (k + 1)) by rw [mergeC_gap HX.out, List.append_assoc]; rfl))
          refine q_region (CellL WB [(⟨wr.heap.size, 0, none⟩, .int .i64 X), (⟨wr.heap.size, 1, none⟩, .int .i64 Y), (⟨g, D * 2, none⟩, .int .i64 S), (⟨g, D * 2 + 1, none⟩, .int .i64 T)]) (by kernel_rfl) (by kernel_rfl) (cellL_drew HC.out) ?_
          repeat (first
            | go_big_quiet_skip
            | (go_big_quiet_want; (first
              | (refine q_take (v := ?_) ?_ ?_; rotate_left; (focus (intro w hSw; (try simp only [CellL] at hSw); go_split_ands; go_simp; (try (rw [if_neg (by omega)])); (try with_reducible rfl); done)))
              | (refine q_call (CA.out _) ?_ ?_; (focus (intro w hSw; (try simp only [CellL] at hSw); go_split_ands; go_simp; (try (rw [if_neg (by omega)])); done)))); (try simp only [Act.put, List.setIfInBounds_toArray, List.set_cons_zero, List.set_cons_succ]); go_big_quiet_on))
          refine wpQuiet_nil ?_
          intro w2 hw2
          have HB2 := Lib.hid (HB1.out.trans ((cellL_size hw2).mono HB1.out.size))
          have HO2 := Lib.hid (HO1.out.below (cellL_size hw2))
          simp only [CellL] at hw2
          obtain ⟨g0, g1, -⟩ := hw2
          have HLE := Lib.hid (show (dn ++ [p]).length + [r].length ≤ 1000000 by rw [← HLN.out, List.length_singleton]; omega)
          go_wp2_with (at_builtin; refine wpList_app_k kRn rfl (.tmp 27) (.tmp 29) rfl w1.heap.size _ _ rfl (Kind.Own.alloc HO2.out _) _ (some ⟨w2.heap.size, 0, none⟩) 1 1 [r] rfl rfl (HRW w2).out HLE.out (by decide) (cle_alloc (HB2.out.size) _) ?_; intro v3 w3 hown3 hg3 hb3 _; have HO3 := Lib.hid hown3; have HB3 := Lib.hid ((HB2.out.alloc HB2.out.size _).trans hb3); clear hown3 hb3 hg3)
          go_roundw
          case rel => exact ⟨k + 1, dn ++ [p], some r, by omega, HL2, HO3.out, (fun h => by cases h), HN1.out, by have h1 := HLN.out; rw [List.length_append, ← h1]; have h2 := hol; rw [show (some p).toList = [p] from rfl, ← h1] at h2; show D + 1 + 1 ≤ k + 1; omega, by go_num, HB3.out⟩
          case measure => simp [intOf]; omega
        case false =>
          have HL2 := Lib.hid (HLP.out.trans (show dn ++ mergeC (some p) (r :: m.drop (k + 1)) = dn ++ mergeC (some ⟨p.fr, max T Y⟩) (m.drop (k + 1)) by rw [mergeC_more HX.out, moreC, HTT.out, HYY.out]))
          have HP2 := Lib.hid (show LastC (some ⟨p.fr, max T Y⟩) (m.drop (k + 1)) by have h := HP1.out.more HRR.out; rw [moreC, HTT.out, HYY.out] at h; exact h)
          refine q_region (CellL WB [(⟨wr.heap.size, 0, none⟩, .int .i64 X), (⟨wr.heap.size, 1, none⟩, .int .i64 Y), (⟨g, D * 2, none⟩, .int .i64 S), (⟨g, D * 2 + 1, none⟩, .int .i64 T)]) (by kernel_rfl) (by kernel_rfl) (cellL_drew HC.out) ?_
          repeat (first
            | go_big_quiet_skip
            | (go_big_quiet_want; (first
              | (refine q_take (v := ?_) ?_ ?_; rotate_left; (focus (intro w hSw; (try simp only [CellL] at hSw); go_split_ands; go_simp; (try (rw [if_neg (by omega)])); (try with_reducible rfl); done)))
              | (refine q_call (CA.out _) ?_ ?_; (focus (intro w hSw; (try simp only [CellL] at hSw); go_split_ands; go_simp; (try (rw [if_neg (by omega)])); done)))); (try simp only [Act.put, List.setIfInBounds_toArray, List.set_cons_zero, List.set_cons_succ]); go_big_quiet_on))
          refine wpQuiet_nil ?_
          intro w3 hw3
          have HB3 := Lib.hid (HB1.out.trans ((cellL_size hw3).mono HB1.out.size))
          have HO3 := Lib.hid (HO1.out.below (cellL_size hw3))
          simp only [CellL] at hw3
          obtain ⟨g0, g1, e0, e1, -⟩ := hw3
          obtain ⟨hg1, hgl, hfz, -⟩ := HO3.out.at_g HLN.out (by omega)
          obtain ⟨z, hz⟩ : ∃ z, max T Y = z := ⟨_, rfl⟩
          have hz2 : (if T < Y then Y else T) = z := by rw [← hz]; split <;> omega
          rw [hz] at HL2 HP2
          have HOF := Lib.hid (own_to HO3.out HLN.out HDD.out z)
          have HBF := Lib.hid (HB3.out.setCell (p := ⟨g, D * 2 + 1, none⟩) hg1 (.int .i64 z))
          go_wp2_with fail
          go_region
          go_wp2_with fail
          go_roundw
          case rel => exact ⟨k + 1, dn, some ⟨p.fr, z⟩, by omega, HL2, HOF.out, (fun h => by cases h), HP2.out, by have h2 := hol; simp at h2 ⊢; omega, by go_num, HBF.out.drew⟩
          case measure => simp [intOf]; omega
    · have HL2 := Lib.hid (HL.out.trans (show dn ++ mergeC o (m.drop k) = dn ++ o.toList by rw [List.drop_eq_nil_of_le (by have := HNM.out; omega)]; cases o <;> rfl))
      have HUO := Lib.hid (HUU.out.symm.trans (HM.out.symm.trans HL2.out))
      obtain ⟨A9, c9, rfl, -⟩ := HO.out.read_n (n := NU) (by rw [← HUO.out]; exact HNN.out.symm)
      go_wp2_with fail
      go_ret
      refine ⟨A9, c9, rfl, ?_, HB0.out.trans (hb.mono HB0.out.size)⟩
      rw [HUO.out]
      exact HO.out.mono HB0.out.size
end Go.Proofs.Ytnfhkmlggajhaaa
