/-
  Several texts in one: CntD, VstPure, VstA, OpenKns, RgsPure, Rgs, OpenRngs, RgsSets, KnwPure.
-/
import Derived.Deep.CutRange
import Derived.Deep.Strs
import Derived.Test.YtaodifpnfejbbaaGreatMg2
/-
  Layer 13 (counts), the document's words: the right list of what is meant.
-/
namespace Go.Proofs.YtaodifpnfejbbaaGreat
open Go.RowKit

def RetC (w : World) (N : Nat) (l : List Rn) (e : Ending) (w' : World) : Prop := ∃ A c, e = .returned (.slice A N c) ∧ kRn.Rd w' w'.heap.size A c l ∧ Below w.heap.size w w'
/-- .. of the call's own: made since it began. -/
def RetOC (w : World) (N : Nat) (l : List Rn) (e : Ending) (w' : World) : Prop := ∃ A c, e = .returned (.slice A N c) ∧ kRn.Own w' w.heap.size (.slice A N c) l ∧ Below w.heap.size w w'
theorem RetOC.ret {w w' : World} {N : Nat} {l : List Rn} {e : Ending} (h : RetOC w N l e w') : RetC w N l e w' := by
  obtain ⟨A, c, h1, h2, h3⟩ := h
  exact ⟨A, c, h1, h2.rd, h3⟩
theorem rn_row (w : World) (x y : Int) : RowAt (w.alloc (.cells #[.int .i64 x, .int .i64 y] 58)) (w.heap.size + 1) (some ⟨w.heap.size, 0, none⟩) (kRn.row [⟨x, y⟩]) := (Kind.rd_new (k := kRn) (l := [⟨x, y⟩]) (n := 1) (by rw [kRn.row_one]; rfl) rfl (by simp)).row
theorem own_to {w : World} {base g n c D : Nat} {dn : List Rn} {r : Rn} (h : kRn.Own w base (.slice (some ⟨g, 0, none⟩) n c) (dn ++ [r])) (hn : n = (dn ++ [r]).length) (hD : dn.length = D) (y : Int) :
    kRn.Own (w.setCell ⟨g, D * 2 + 1, none⟩ (.int .i64 y)) base (.slice (some ⟨g, 0, none⟩) n c) (dn ++ [⟨r.fr, y⟩]) := by
  subst hD
  have g1 : (dn ++ [r])[dn.length]? = some r := by rw [List.getElem?_append_right (Nat.le_refl _), Nat.sub_self]; rfl
  have h1 := h.stored (j := 1) (y := ⟨r.fr, y⟩) (v := .int .i64 y) hn g1 (by decide) rfl
  rwa [show (dn ++ [r]).set dn.length ⟨r.fr, y⟩ = dn ++ [⟨r.fr, y⟩] from by simp] at h1
set_option maxRecDepth 100000 in
set_option maxHeartbeats 8000000 in
theorem ref_cmake_own (op : Int) (A B : Option Addr) (c d n m : Nat) (a b : List Rn) (hn : n = a.length) (hm : m = b.length) (hnl : n ≤ 100000) (hml : m ≤ 100000) (U : List Rn) (hU : makeC op a b = U) (N : Nat) (hN : U.length = N) (w : World) (ha : kRn.Rd w w.heap.size A c a) (hb : kRn.Rd w w.heap.size B d b) :
    Calls Tryz.prog 116 #[.int .i64 op, .slice A n c, .slice B m d] w (RetOC w N U) := by
  have HA := Lib.hid ha
  have HB := Lib.hid hb
  obtain ⟨E, hE⟩ : ∃ E, edgesC a b = E := ⟨_, rfl⟩
  obtain ⟨M, hM⟩ : ∃ M, E.length = M := ⟨_, rfl⟩
  have ED := fun w ha hb => Lib.hid (ref_cedges A B c d n m a b hn hm hnl hml M (by rw [hE]; exact hM) w ha hb)
  have HEB := Lib.hid (show ∀ x ∈ E, 0 < x ∧ x ≤ 1099511627777 from fun x hx => by
    have h := edgesC_ok a b
    rw [hE] at h
    exact ⟨upC_all h.1 x hx, h.2.1 x hx⟩)
  have hM9 : M ≤ 400000 := by
    have h1 := edges_lenC b (a.foldl addC [])
    have h2 := edges_lenC a []
    simp only [List.length_nil] at h2
    unfold edgesC at hE
    rw [hE] at h1
    omega
  obtain ⟨f, hf⟩ : ∃ f, isC op a b = f := ⟨_, rfl⟩
  have HF := Lib.hid (show ∀ x, gC op (hasC a x) (hasC b x) = f x from fun x => by rw [← hf]; rfl)
  have HU := Lib.hid (show mkC f E none = U by rw [← hU]; unfold makeC; rw [hE, hf])
  have HNN := Lib.hid hN
  have HM := Lib.hid hM
  have HNA := Lib.hid hn
  have HNB := Lib.hid hm
  rw [hE] at ED
  clear hE hf hU hn hm ha hb hN hM
  go_enter Tryz.func116, Tryz.ntmps116
  go_wp2_with ((with_reducible refine (ED _ HA.out HB.out).out.mono ?_); rintro e w1 ⟨A1, c1, rfl, hrd, hb1⟩; have HD := Lib.hid hrd; have HB1 := Lib.hid hb1; clear hrd hb1)
  clear ED
  have hmc : M ≤ c1 := by rw [← HM.out]; exact HD.out.room
  go_loopw [8, 9] (fun v i wr => ∃ (k : Nat) (o : Option Rn) (dn : List Rn), k ≤ M ∧ Hid (U = dn ++ mkC f (E.drop k) o) ∧ Hid (kRn.Own wr w1.heap.size v (dn ++ o.toList)) ∧ Hid (o = none → dn = []) ∧ (dn ++ o.toList).length ≤ k ∧ i = .int .i64 k ∧ Hid (Below w1.heap.size w1 wr)) (fun _ i _ => M - (intOf i).toNat)
  case atStart => exact ⟨0, none, [], by omega, HU.out.symm, Kind.Own.nil _ _, fun _ => rfl, by simp, rfl, Below.refl _ _⟩
  case round =>
    obtain ⟨k, o, dn, hk, HL, HO, HE0, hol, rfl, HBW⟩ := hrel
    obtain ⟨n9, hn9⟩ : ∃ n9, (dn ++ o.toList).length = n9 := ⟨_, rfl⟩
    obtain ⟨A9, c9, rfl, -⟩ := HO.out.read_n hn9.symm
    have HN9 := Lib.hid hn9
    rw [hn9] at hol
    clear hn9
    have hkw : IntKind.i64.wrap ((k : Int) + 1) = (k : Int) + 1 := IntWalk.i64_in _ (by omega)
    by_cases hlt : k + 1 < M
    · obtain ⟨X, hgx, hdx, hmx⟩ := cnt_get (l := E) (k := k) (by have := HM.out; omega)
      obtain ⟨Y, hgy, hdy, hmy⟩ := cnt_get (l := E) (k := k + 1) (by have := HM.out; omega)
      obtain ⟨b1, o1, rfl, hbl1, hcell⟩ := its_at HD.out (by have := HM.out; omega)
      have e0 := ((bcell HBW.out).1 _ _ hbl1).trans (hcell k X hgx)
      have e1 := ((bcell HBW.out).1 _ _ hbl1).trans (hcell (k + 1) Y hgy)
      have hX9 := HEB.out X hmx
      have hY9 := HEB.out Y hmy
      have hXw : IntKind.i64.wrap (X - 1) = X - 1 := IntWalk.i64_in _ (by omega)
      have hYw : IntKind.i64.wrap (Y - 1) = Y - 1 := IntWalk.i64_in _ (by omega)
      have hk0 : (0 : Int) ≤ (k : Int) := by omega
      have hkn : (k : Int) < (M : Int) := by omega
      have hk1 : (0 : Int) ≤ (k : Int) + 1 := by omega
      have hkn1 : (k : Int) + 1 < (M : Int) := by omega
      have hkd : decide ((k : Int) + 1 < (M : Int)) = true := decide_eq_true (by omega)
      have hkd2 : decide (k + 1 < M) = true := decide_eq_true hlt
      have HRW := fun W : World => Lib.hid (rn_row W X (Y - 1))
      have HLE := Lib.hid (show (dn ++ o.toList).length + [(⟨X, Y - 1⟩ : Rn)].length ≤ 1000000 by rw [HN9.out, List.length_singleton]; omega)
      obtain ⟨x, hx⟩ : ∃ x, hasC a X = x := ⟨_, rfl⟩
      obtain ⟨y, hy⟩ : ∃ y, hasC b X = y := ⟨_, rfl⟩
      obtain ⟨v, hv⟩ : ∃ v, gC op x y = v := ⟨_, rfl⟩
      have hfx : f X = v := by rw [← HF.out, hx, hy, hv]
      have CA := Lib.hid (fun (L : List (Addr × Value)) => fun (W : World) (hC : CellL wr L W) => (ref_chas A c n a X HNA.out x hx W (HA.out.call (HB1.out.trans ((HBW.out.trans ((cellL_size hC).mono HBW.out.size)).mono HB1.out.size)))).mono fun (e : Ending) (W' : World) ⟨h1, h2⟩ => (⟨h1, cellL_call h2 hC⟩ : e = Ending.returned (.bool x) ∧ CellL wr L W'))
      have CB := Lib.hid (fun (L : List (Addr × Value)) => fun (W : World) (hC : CellL wr L W) => (ref_chas B d m b X HNB.out y hy W (HB.out.call (HB1.out.trans ((HBW.out.trans ((cellL_size hC).mono HBW.out.size)).mono HB1.out.size)))).mono fun (e : Ending) (W' : World) ⟨h1, h2⟩ => (⟨h1, cellL_call h2 hC⟩ : e = Ending.returned (.bool y) ∧ CellL wr L W'))
      have HC := Lib.hid (show CellL wr [(⟨b1, o1 + k, none⟩, .int .i64 X), (⟨b1, o1 + (k + 1), none⟩, .int .i64 Y)] wr from ⟨e0, e1, Below.refl _ _⟩)
      have HV := Lib.hid hv
      have HL1 := Lib.hid (fun h : v = false => show U = dn ++ mkC f (E.drop (k + 1)) o from HL.out.trans (by rw [hdx, hdy, mkC_out (hfx.trans h)]))
      have HL2 := Lib.hid (fun h : v = true => fun h' : o = none => show U = dn ++ mkC f (E.drop (k + 1)) (some ⟨X, Y - 1⟩) from HL.out.trans (by rw [hdx, hdy, h', mkC_on (hfx.trans h)]))
      have HL3 := Lib.hid (fun h : v = true => fun (r : Rn) (h' : o = some r) (h2 : r.to = X - 1) => show U = dn ++ mkC f (E.drop (k + 1)) (some ⟨r.fr, Y - 1⟩) from HL.out.trans (by rw [hdx, hdy, h', mkC_more (hfx.trans h) h2]))
      have HL4 := Lib.hid (fun h : v = true => fun (r : Rn) (h' : o = some r) (h2 : r.to ≠ X - 1) => show U = (dn ++ [r]) ++ mkC f (E.drop (k + 1)) (some ⟨X, Y - 1⟩) from HL.out.trans (by rw [hdx, hdy, h', mkC_next (hfx.trans h) h2, List.append_assoc]; rfl))
      clear hcell hgx hgy hdx hdy hmx hmy hx hy hv hfx HL e0 e1
      go_wp2_with fail
      refine q_region (CellL wr [(⟨b1, o1 + k, none⟩, .int .i64 X), (⟨b1, o1 + (k + 1), none⟩, .int .i64 Y)]) (by kernel_rfl) (by kernel_rfl) (cellL_drew HC.out) ?_
      repeat (first
        | go_big_quiet_skip
        | (go_big_quiet_want; (first
          | (refine q_take (v := ?_) ?_ ?_; rotate_left; (focus (intro w hSw; (try simp only [CellL] at hSw); go_split_ands; go_simp; (try (rw [if_neg (by omega)])); (try with_reducible rfl); done)))
          | (refine q_call (CA.out _) ?_ ?_; (focus (intro w hSw; (try simp only [CellL] at hSw); go_split_ands; go_simp; (try (rw [if_neg (by omega)])); done)))
          | (refine q_call (CB.out _) ?_ ?_; (focus (intro w hSw; (try simp only [CellL] at hSw); go_split_ands; go_simp; (try (rw [if_neg (by omega)])); done)))); (try simp only [Act.put, List.setIfInBounds_toArray, List.set_cons_zero, List.set_cons_succ]); go_big_quiet_on))
      refine wpQuiet_nil ?_
      intro w2 hw2
      have HO2 := Lib.hid (HO.out.below (cellL_size hw2))
      have HB2 := Lib.hid (HBW.out.trans ((cellL_size hw2).mono HBW.out.size))
      simp only [CellL] at hw2
      obtain ⟨e0, e1, -⟩ := hw2
      clear CA CB HC HO HBW
      go_upto_region 7 with fail
      go_cut [63] from 15 to 107 (fun s wx => s = .bool (!v) ∧ wx = w2)
      case first =>
        have HV := HV.out
        clear HL1 HL2 HL3 HL4 HRW HLE
        by_cases p1 : op = 1
        · subst p1
          cases x <;> cases y
          all_goals
            go_wp2_with fail
            go_meet
            exact ⟨by rw [← HV]; rfl, rfl⟩
        · have n1 : (op == 1) = false := beq_eq_false_iff_ne.2 p1
          by_cases p2 : op = 2
          · subst p2
            cases x <;> cases y
            all_goals
              go_wp2_with fail
              go_meet
              exact ⟨by rw [← HV]; rfl, rfl⟩
          · have n2 : (op == 2) = false := beq_eq_false_iff_ne.2 p2
            by_cases p3 : op = 3
            · subst p3
              cases x <;> cases y
              all_goals
                go_wp2_with fail
                go_meet
                exact ⟨by rw [← HV]; rfl, rfl⟩
            · have n3 : (op == 3) = false := beq_eq_false_iff_ne.2 p3
              have HG : gC op x y = false := by unfold gC; rw [n1, n2, n3]; rfl
              have HW := Lib.hid (HV.symm.trans HG)
              clear HV HG p1 p2 p3
              cases x <;> cases y
              all_goals
                go_wp2_with fail
                go_meet
                exact ⟨by rw [HW.out]; rfl, rfl⟩
      case rest =>
        obtain ⟨rfl, rfl⟩ := hcut
        clear HV
        cases v
        · replace HL1 := Lib.hid (HL1.out rfl)
          clear HL2 HL3 HL4
          go_wp2_with fail
          go_roundw
          case rel => exact ⟨k + 1, o, dn, by omega, HL1, HO2, HE0, by rw [HN9.out]; omega, by go_num, HB2⟩
          case measure => simp [intOf]; omega
        · clear HL1
          cases o with
          | none =>
            replace HL2 := Lib.hid (HL2.out rfl rfl)
            obtain rfl := HE0.out rfl
            obtain rfl : n9 = 0 := HN9.out.symm
            clear HL3 HL4 HE0
            have HC2 := Lib.hid (show CellL wc [(⟨b1, o1 + k, none⟩, .int .i64 X), (⟨b1, o1 + (k + 1), none⟩, .int .i64 Y)] wc from ⟨e0, e1, Below.refl _ _⟩)
            go_wp2_with fail
            clear e0 e1
            refine q_region (CellL wc [(⟨b1, o1 + k, none⟩, .int .i64 X), (⟨b1, o1 + (k + 1), none⟩, .int .i64 Y)]) (by kernel_rfl) (by kernel_rfl) (cellL_drew HC2.out) ?_
            repeat (first
              | go_big_quiet_skip
              | (go_big_quiet_want; (first
                | (refine q_take (v := ?_) ?_ ?_; rotate_left; (focus (intro w hSw; (try simp only [CellL] at hSw); go_split_ands; go_simp; (try (rw [if_neg (by omega)])); (try with_reducible rfl); done)))); (try simp only [Act.put, List.setIfInBounds_toArray, List.set_cons_zero, List.set_cons_succ]); go_big_quiet_on))
            refine wpQuiet_nil ?_
            intro w3 hw3
            have HO3 := Lib.hid (HO2.out.below (cellL_size hw3))
            have HB3 := Lib.hid (HB2.out.trans ((cellL_size hw3).mono HB2.out.size))
            simp only [CellL] at hw3
            obtain ⟨e0, e1, -⟩ := hw3
            clear HC2 HO2
            go_upto_region 10 with fail
            have HCL := Lib.hid (show CellL w1 [(⟨b1, o1 + k, none⟩, .int .i64 X), (⟨b1, o1 + (k + 1), none⟩, .int .i64 Y)] w3 from ⟨e0, e1, HB3.out⟩)
            clear e0 e1
            refine wp_region_noPanic ?_
            refine wp_region_held_drew (S := CellL w1 [(⟨b1, o1 + k, none⟩, .int .i64 X), (⟨b1, o1 + (k + 1), none⟩, .int .i64 Y)]) (by kernel_rfl) (cellL_drew HCL.out) (fun hHeld => ?_)
            refine take_yes (i := 0) (v := ?_) rfl (by kernel_rfl) (by kernel_rfl) (by kernel_rfl) (fun _ _ _ h => h) (by rfl) (by assumption) ?_ ?_; rotate_left; (focus ((intro w hSw); (try simp only [CellL] at hSw); go_split_ands; go_simp; (try with_reducible rfl); done))
            (try simp only [Act.put, List.setIfInBounds_toArray, List.set_cons_zero, List.set_cons_succ])
            refine take_yes (i := 1) (v := ?_) rfl (by kernel_rfl) (by kernel_rfl) (by kernel_rfl) (fun _ _ _ h => h) (by rfl) (by assumption) ?_ ?_; rotate_left; (focus ((intro w hSw); (try simp only [CellL] at hSw); go_split_ands; go_simp; (try with_reducible rfl); done))
            (try simp only [Act.put, List.setIfInBounds_toArray, List.set_cons_zero, List.set_cons_succ])
            refine take_yes (i := 2) (v := ?_) rfl (by kernel_rfl) (by kernel_rfl) (by kernel_rfl) (fun _ _ _ h => h) (by rfl) (by assumption) ?_ ?_; rotate_left; (focus ((intro w hSw); (try simp only [CellL] at hSw); go_split_ands; go_simp; (try with_reducible rfl); done))
            (try simp only [Act.put, List.setIfInBounds_toArray, List.set_cons_zero, List.set_cons_succ])
            refine take_yes (i := 3) (v := ?_) rfl (by kernel_rfl) (by kernel_rfl) (by kernel_rfl) (fun _ _ _ h => h) (by rfl) (by assumption) ?_ ?_; rotate_left; (focus ((intro w hSw); (try simp only [CellL] at hSw); go_split_ands; go_simp; (try with_reducible rfl); done))
            (try simp only [Act.put, List.setIfInBounds_toArray, List.set_cons_zero, List.set_cons_succ])
            refine take_yes (i := 4) (v := ?_) rfl (by kernel_rfl) (by kernel_rfl) (by kernel_rfl) (fun _ _ _ h => h) (by rfl) (by assumption) ?_ ?_; rotate_left; (focus ((intro w hSw); (try simp only [CellL] at hSw); go_split_ands; go_simp; (try with_reducible rfl); done))
            (try simp only [Act.put, List.setIfInBounds_toArray, List.set_cons_zero, List.set_cons_succ])
            refine take_yes (i := 5) (v := ?_) rfl (by kernel_rfl) (by kernel_rfl) (by kernel_rfl) (fun _ _ _ h => h) (by rfl) (by assumption) ?_ ?_; rotate_left; (focus ((intro w hSw); (try simp only [CellL] at hSw); go_split_ands; go_simp; (try with_reducible rfl); done))
            (try simp only [Act.put, List.setIfInBounds_toArray, List.set_cons_zero, List.set_cons_succ])
            refine take_yes (i := 6) (v := ?_) rfl (by kernel_rfl) (by kernel_rfl) (by kernel_rfl) (fun _ _ _ h => h) (by rfl) (by assumption) ?_ ?_; rotate_left; (focus ((intro w hSw); (try simp only [CellL] at hSw); go_split_ands; go_simp; (try with_reducible rfl); done))
            (try simp only [Act.put, List.setIfInBounds_toArray, List.set_cons_zero, List.set_cons_succ])
            refine take_yes (i := 7) (v := ?_) rfl (by kernel_rfl) (by kernel_rfl) (by kernel_rfl) (fun _ _ _ h => h) (by rfl) (by assumption) ?_ ?_; rotate_left; (focus ((intro w hSw); (try simp only [CellL] at hSw); go_split_ands; go_simp; (try with_reducible rfl); done))
            (try simp only [Act.put, List.setIfInBounds_toArray, List.set_cons_zero, List.set_cons_succ])
            refine take_yes (i := 8) (v := ?_) rfl (by kernel_rfl) (by kernel_rfl) (by kernel_rfl) (fun _ _ _ h => h) (by rfl) (by assumption) ?_ ?_; rotate_left; (focus ((intro w hSw); (try simp only [CellL] at hSw); go_split_ands; go_simp; (try with_reducible rfl); done))
            (try simp only [Act.put, List.setIfInBounds_toArray, List.set_cons_zero, List.set_cons_succ])
            refine take_yes (i := 9) (v := ?_) rfl (by kernel_rfl) (by kernel_rfl) (by kernel_rfl) (fun _ _ _ h => h) (by rfl) (by assumption) ?_ ?_; rotate_left; (focus ((intro w hSw); (try simp only [CellL] at hSw); go_split_ands; go_simp; (try with_reducible rfl); done))
            (try simp only [Act.put, List.setIfInBounds_toArray, List.set_cons_zero, List.set_cons_succ])
            refine take_yes (i := 10) (v := ?_) rfl (by kernel_rfl) (by kernel_rfl) (by kernel_rfl) (fun _ _ _ h => h) (by rfl) (by assumption) ?_ ?_; rotate_left; (focus ((intro w hSw); (try simp only [CellL] at hSw); go_split_ands; go_simp; (try with_reducible rfl); done))
            (try simp only [Act.put, List.setIfInBounds_toArray, List.set_cons_zero, List.set_cons_succ])
            refine take_yes (i := 11) (v := ?_) rfl (by kernel_rfl) (by kernel_rfl) (by kernel_rfl) (fun _ _ _ h => h) (by rfl) (by assumption) ?_ ?_; rotate_left; (focus ((intro w hSw); (try simp only [CellL] at hSw); go_split_ands; go_simp; (try with_reducible rfl); done))
            (try simp only [Act.put, List.setIfInBounds_toArray, List.set_cons_zero, List.set_cons_succ])
            refine call_one (i := 12) rfl (by kernel_rfl) (by rfl) (fun K hK => ?_)
            go_simp
            refine hK.out _ _ (cellL_call (below_new _ _) (by assumption)) (fun hHeld => ?_)
            clear hK K
            (try simp only [Act.put, List.setIfInBounds_toArray, List.set_cons_zero, List.set_cons_succ])
            have HOd := Lib.hid (show kRn.Own w3.drew w1.heap.size _ _ from HO3.out)
            have HBd := Lib.hid HB3.out.drew
            refine call_one (i := 13) rfl (by kernel_rfl) (by rfl) (fun K hK => ?_)
            refine op_app_k kRn (.tmp 94) (.tmp 106) rfl w1.heap.size _ _ rfl (Kind.Own.alloc HOd.out _) _ (some ⟨w3.heap.size, 0, none⟩) 1 1 [⟨X, Y - 1⟩] rfl rfl (HRW w3.drew).out HLE.out (by decide) (cle_alloc HBd.out.size _) ?_
            intro v5 w5 hown5 hg5 hb5 _
            have HO5 := Lib.hid hown5
            have HB5 := Lib.hid ((HBd.out.alloc HBd.out.size _).trans hb5)
            refine hK.out _ _ ⟨((bcell hb5).1 _ _ hbl1).trans ((alloc_keeps w3.drew _ _ _ (Nat.lt_of_lt_of_le hbl1 HB3.out.size)).trans HCL.out.1), ((bcell hb5).1 _ _ hbl1).trans ((alloc_keeps w3.drew _ _ _ (Nat.lt_of_lt_of_le hbl1 HB3.out.size)).trans HCL.out.2.1), HB5.out⟩ (fun hHeld => ?_)
            clear hK K hown5 hg5 hb5
            (try simp only [Act.put, List.setIfInBounds_toArray, List.set_cons_zero, List.set_cons_succ])
            refine take_yes (i := 14) (v := ?_) rfl (by kernel_rfl) (by kernel_rfl) (by kernel_rfl) (fun _ _ _ h => h) (by rfl) (by assumption) ?_ ?_; rotate_left; (focus ((intro w hSw); (try simp only [CellL] at hSw); go_split_ands; go_simp; (try with_reducible rfl); done))
            (try simp only [Act.put, List.setIfInBounds_toArray, List.set_cons_zero, List.set_cons_succ])
            refine wpAnyH_done (by kernel_rfl) ?_ _
            refine NoPanic.normal ?_
            clear hHeld
            go_wp2_with fail
            go_roundw
            case rel => exact ⟨k + 1, some ⟨X, Y - 1⟩, [], by omega, HL2, HO5, (fun h => by cases h), by simp, by go_num, HB5⟩
            case measure => simp [intOf]; omega
          | some r =>
            obtain ⟨D, hD⟩ : ∃ D, dn.length = D := ⟨_, rfl⟩
            obtain rfl : n9 = D + 1 := by rw [← HN9.out, List.length_append, hD]; rfl
            have hga : (dn ++ [r])[D]? = some r := by rw [← hD, List.getElem?_append_right (Nat.le_refl _), Nat.sub_self]; rfl
            have hLn : D + 1 = (dn ++ [r]).length := HN9.out.symm
            obtain ⟨g, cp, hv9, hcp, hgb, -, -, -⟩ := HO2.out.some_ hLn (by omega)
            injection hv9 with hA9 _ hc9
            subst hA9 hc9
            obtain ⟨-, hgl, hfz, hcs⟩ := HO2.out.at_g hLn (by omega)
            have t0 := hcs D r hga 1 _ rfl
            change wc.cell? ⟨g, D * 2 + 1, none⟩ = some (.int .i64 r.to) at t0
            obtain ⟨R, hR⟩ : ∃ R, r.to = R := ⟨_, rfl⟩
            rw [hR] at t0
            have hD9 : D ≤ 500000 := by omega
            have hj0 : (0 : Int) ≤ (D : Int) := by omega
            have hjn : (D : Int) < (D : Int) + 1 := by omega
            have hjd : decide ((D : Int) < 0) = false := decide_eq_false (by omega)
            have hjp : decide ((0 : Int) < (D : Int) + 1) = true := decide_eq_true (by omega)
            have hjw : IntKind.i64.wrap ((D : Int) + 1 - 1) = (D : Int) := by rw [Int.add_sub_cancel]; exact IntWalk.i64_in _ (by omega)
            have hjw2 : IntKind.i64.wrap (D : Int) = (D : Int) := IntWalk.i64_in _ (by omega)
            have HC2 := Lib.hid (show CellL wc [(⟨b1, o1 + k, none⟩, .int .i64 X), (⟨b1, o1 + (k + 1), none⟩, .int .i64 Y), (⟨g, D * 2 + 1, none⟩, .int .i64 R)] wc from ⟨e0, e1, t0, Below.refl _ _⟩)
            obtain ⟨q, hq⟩ : ∃ q, (R == X - 1) = q := ⟨_, rfl⟩
            have HL3 := Lib.hid (fun h : q = true => HL3.out rfl r rfl (by rw [hR]; rw [h] at hq; simpa using hq))
            have HL4 := Lib.hid (fun h : q = false => HL4.out rfl r rfl (by rw [hR]; rw [h] at hq; simpa using hq))
            have HDD := Lib.hid hD
            clear HL2 HE0 hga hLn hcs hfz hD hR t0
            go_wp2_with fail
            clear e0 e1
            refine q_region (CellL wc [(⟨b1, o1 + k, none⟩, .int .i64 X), (⟨b1, o1 + (k + 1), none⟩, .int .i64 Y), (⟨g, D * 2 + 1, none⟩, .int .i64 R)]) (by kernel_rfl) (by kernel_rfl) (cellL_drew HC2.out) ?_
            repeat (first
              | go_big_quiet_skip
              | (go_big_quiet_want; (first
                | (refine q_take (v := ?_) ?_ ?_; rotate_left; (focus (intro w hSw; (try simp only [CellL] at hSw); go_split_ands; go_simp; (try (rw [if_neg (by omega)])); (try with_reducible rfl); done)))); (try simp only [Act.put, List.setIfInBounds_toArray, List.set_cons_zero, List.set_cons_succ]); go_big_quiet_on))
            refine wpQuiet_nil ?_
            intro w3 hw3
            have HO3 := Lib.hid (HO2.out.below (cellL_size hw3))
            have HB3 := Lib.hid (HB2.out.trans ((cellL_size hw3).mono HB2.out.size))
            simp only [CellL] at hw3
            obtain ⟨e0, e1, t0, -⟩ := hw3
            clear HC2 HO2
            cases q
            · replace HL4 := Lib.hid (HL4.out rfl)
              clear HL3 t0
              go_upto_region 10 with fail
              have HCL := Lib.hid (show CellL w1 [(⟨b1, o1 + k, none⟩, .int .i64 X), (⟨b1, o1 + (k + 1), none⟩, .int .i64 Y)] w3 from ⟨e0, e1, HB3.out⟩)
              clear e0 e1
              refine wp_region_noPanic ?_
              refine wp_region_held_drew (S := CellL w1 [(⟨b1, o1 + k, none⟩, .int .i64 X), (⟨b1, o1 + (k + 1), none⟩, .int .i64 Y)]) (by kernel_rfl) (cellL_drew HCL.out) (fun hHeld => ?_)
              refine take_yes (i := 0) (v := ?_) rfl (by kernel_rfl) (by kernel_rfl) (by kernel_rfl) (fun _ _ _ h => h) (by rfl) (by assumption) ?_ ?_; rotate_left; (focus ((intro w hSw); (try simp only [CellL] at hSw); go_split_ands; go_simp; (try with_reducible rfl); done))
              (try simp only [Act.put, List.setIfInBounds_toArray, List.set_cons_zero, List.set_cons_succ])
              refine take_yes (i := 1) (v := ?_) rfl (by kernel_rfl) (by kernel_rfl) (by kernel_rfl) (fun _ _ _ h => h) (by rfl) (by assumption) ?_ ?_; rotate_left; (focus ((intro w hSw); (try simp only [CellL] at hSw); go_split_ands; go_simp; (try with_reducible rfl); done))
              (try simp only [Act.put, List.setIfInBounds_toArray, List.set_cons_zero, List.set_cons_succ])
              refine take_yes (i := 2) (v := ?_) rfl (by kernel_rfl) (by kernel_rfl) (by kernel_rfl) (fun _ _ _ h => h) (by rfl) (by assumption) ?_ ?_; rotate_left; (focus ((intro w hSw); (try simp only [CellL] at hSw); go_split_ands; go_simp; (try with_reducible rfl); done))
              (try simp only [Act.put, List.setIfInBounds_toArray, List.set_cons_zero, List.set_cons_succ])
              refine take_yes (i := 3) (v := ?_) rfl (by kernel_rfl) (by kernel_rfl) (by kernel_rfl) (fun _ _ _ h => h) (by rfl) (by assumption) ?_ ?_; rotate_left; (focus ((intro w hSw); (try simp only [CellL] at hSw); go_split_ands; go_simp; (try with_reducible rfl); done))
              (try simp only [Act.put, List.setIfInBounds_toArray, List.set_cons_zero, List.set_cons_succ])
              refine take_yes (i := 4) (v := ?_) rfl (by kernel_rfl) (by kernel_rfl) (by kernel_rfl) (fun _ _ _ h => h) (by rfl) (by assumption) ?_ ?_; rotate_left; (focus ((intro w hSw); (try simp only [CellL] at hSw); go_split_ands; go_simp; (try with_reducible rfl); done))
              (try simp only [Act.put, List.setIfInBounds_toArray, List.set_cons_zero, List.set_cons_succ])
              refine take_yes (i := 5) (v := ?_) rfl (by kernel_rfl) (by kernel_rfl) (by kernel_rfl) (fun _ _ _ h => h) (by rfl) (by assumption) ?_ ?_; rotate_left; (focus ((intro w hSw); (try simp only [CellL] at hSw); go_split_ands; go_simp; (try with_reducible rfl); done))
              (try simp only [Act.put, List.setIfInBounds_toArray, List.set_cons_zero, List.set_cons_succ])
              refine take_yes (i := 6) (v := ?_) rfl (by kernel_rfl) (by kernel_rfl) (by kernel_rfl) (fun _ _ _ h => h) (by rfl) (by assumption) ?_ ?_; rotate_left; (focus ((intro w hSw); (try simp only [CellL] at hSw); go_split_ands; go_simp; (try with_reducible rfl); done))
              (try simp only [Act.put, List.setIfInBounds_toArray, List.set_cons_zero, List.set_cons_succ])
              refine take_yes (i := 7) (v := ?_) rfl (by kernel_rfl) (by kernel_rfl) (by kernel_rfl) (fun _ _ _ h => h) (by rfl) (by assumption) ?_ ?_; rotate_left; (focus ((intro w hSw); (try simp only [CellL] at hSw); go_split_ands; go_simp; (try with_reducible rfl); done))
              (try simp only [Act.put, List.setIfInBounds_toArray, List.set_cons_zero, List.set_cons_succ])
              refine take_yes (i := 8) (v := ?_) rfl (by kernel_rfl) (by kernel_rfl) (by kernel_rfl) (fun _ _ _ h => h) (by rfl) (by assumption) ?_ ?_; rotate_left; (focus ((intro w hSw); (try simp only [CellL] at hSw); go_split_ands; go_simp; (try with_reducible rfl); done))
              (try simp only [Act.put, List.setIfInBounds_toArray, List.set_cons_zero, List.set_cons_succ])
              refine take_yes (i := 9) (v := ?_) rfl (by kernel_rfl) (by kernel_rfl) (by kernel_rfl) (fun _ _ _ h => h) (by rfl) (by assumption) ?_ ?_; rotate_left; (focus ((intro w hSw); (try simp only [CellL] at hSw); go_split_ands; go_simp; (try with_reducible rfl); done))
              (try simp only [Act.put, List.setIfInBounds_toArray, List.set_cons_zero, List.set_cons_succ])
              refine take_yes (i := 10) (v := ?_) rfl (by kernel_rfl) (by kernel_rfl) (by kernel_rfl) (fun _ _ _ h => h) (by rfl) (by assumption) ?_ ?_; rotate_left; (focus ((intro w hSw); (try simp only [CellL] at hSw); go_split_ands; go_simp; (try with_reducible rfl); done))
              (try simp only [Act.put, List.setIfInBounds_toArray, List.set_cons_zero, List.set_cons_succ])
              refine take_yes (i := 11) (v := ?_) rfl (by kernel_rfl) (by kernel_rfl) (by kernel_rfl) (fun _ _ _ h => h) (by rfl) (by assumption) ?_ ?_; rotate_left; (focus ((intro w hSw); (try simp only [CellL] at hSw); go_split_ands; go_simp; (try with_reducible rfl); done))
              (try simp only [Act.put, List.setIfInBounds_toArray, List.set_cons_zero, List.set_cons_succ])
              refine call_one (i := 12) rfl (by kernel_rfl) (by rfl) (fun K hK => ?_)
              go_simp
              refine hK.out _ _ (cellL_call (below_new _ _) (by assumption)) (fun hHeld => ?_)
              clear hK K
              (try simp only [Act.put, List.setIfInBounds_toArray, List.set_cons_zero, List.set_cons_succ])
              have HOd := Lib.hid (show kRn.Own w3.drew w1.heap.size _ _ from HO3.out)
              have HBd := Lib.hid HB3.out.drew
              refine call_one (i := 13) rfl (by kernel_rfl) (by rfl) (fun K hK => ?_)
              refine op_app_k kRn (.tmp 94) (.tmp 106) rfl w1.heap.size _ _ rfl (Kind.Own.alloc HOd.out _) _ (some ⟨w3.heap.size, 0, none⟩) 1 1 [⟨X, Y - 1⟩] rfl rfl (HRW w3.drew).out HLE.out (by decide) (cle_alloc HBd.out.size _) ?_
              intro v5 w5 hown5 hg5 hb5 _
              have HO5 := Lib.hid hown5
              have HB5 := Lib.hid ((HBd.out.alloc HBd.out.size _).trans hb5)
              refine hK.out _ _ ⟨((bcell hb5).1 _ _ hbl1).trans ((alloc_keeps w3.drew _ _ _ (Nat.lt_of_lt_of_le hbl1 HB3.out.size)).trans HCL.out.1), ((bcell hb5).1 _ _ hbl1).trans ((alloc_keeps w3.drew _ _ _ (Nat.lt_of_lt_of_le hbl1 HB3.out.size)).trans HCL.out.2.1), HB5.out⟩ (fun hHeld => ?_)
              clear hK K hown5 hg5 hb5
              (try simp only [Act.put, List.setIfInBounds_toArray, List.set_cons_zero, List.set_cons_succ])
              refine take_yes (i := 14) (v := ?_) rfl (by kernel_rfl) (by kernel_rfl) (by kernel_rfl) (fun _ _ _ h => h) (by rfl) (by assumption) ?_ ?_; rotate_left; (focus ((intro w hSw); (try simp only [CellL] at hSw); go_split_ands; go_simp; (try with_reducible rfl); done))
              (try simp only [Act.put, List.setIfInBounds_toArray, List.set_cons_zero, List.set_cons_succ])
              refine wpAnyH_done (by kernel_rfl) ?_ _
              refine NoPanic.normal ?_
              clear hHeld
              go_wp2_with fail
              go_roundw
              case rel => exact ⟨k + 1, some ⟨X, Y - 1⟩, dn ++ [r], by omega, HL4, HO5, (fun h => by cases h), by show ((dn ++ [r]) ++ [_]).length ≤ k + 1; have := HN9.out; rw [List.length_append]; show (dn ++ (some r).toList).length + 1 ≤ k + 1; omega, by go_num, HB5⟩
              case measure => simp [intOf]; omega
            · replace HL3 := Lib.hid (HL3.out rfl)
              clear HL4
              obtain ⟨hg1, -, hfz, -⟩ := HO3.out.at_g HN9.out.symm (by omega)
              have HOF := Lib.hid (own_to HO3.out HN9.out.symm HDD.out (Y - 1))
              have HBF := Lib.hid (HB3.out.setCell (p := ⟨g, D * 2 + 1, none⟩) hg1 (.int .i64 (Y - 1)))
              go_wp2_with fail
              go_roundw
              case rel => exact ⟨k + 1, some ⟨r.fr, Y - 1⟩, dn, by omega, HL3, HOF, (fun h => by cases h), by show (dn ++ [_]).length ≤ k + 1; rw [List.length_append, HDD.out]; simp; omega, by go_num, HBF⟩
              case measure => simp [intOf]; omega
    · have HL2 := Lib.hid (show U = dn ++ o.toList by
        rw [HL.out]
        have h1 : (E.drop k).length ≤ 1 := by rw [List.length_drop]; have := HM.out; omega
        match E.drop k, h1 with
        | [], _ => rfl
        | [x], _ => rfl)
      have hkd : decide ((k : Int) + 1 < (M : Int)) = false := decide_eq_false (by omega)
      have hkd2 : decide (k + 1 < M) = false := decide_eq_false hlt
      go_wp2_with fail
      go_ret
      obtain rfl : n9 = N := by rw [← HN9.out, ← HL2.out]; exact HNN.out
      exact ⟨A9, c9, rfl, by rw [HL2.out]; exact HO.out.mono HB1.out.size, HB1.out.trans (HBW.out.mono HB1.out.size)⟩
theorem ref_cmake (op : Int) (A B : Option Addr) (c d n m : Nat) (a b : List Rn) (hn : n = a.length) (hm : m = b.length) (hnl : n ≤ 100000) (hml : m ≤ 100000) (U : List Rn) (hU : makeC op a b = U) (N : Nat) (hN : U.length = N) (w : World) (ha : kRn.Rd w w.heap.size A c a) (hb : kRn.Rd w w.heap.size B d b) :
    Calls Tryz.prog 116 #[.int .i64 op, .slice A n c, .slice B m d] w (RetC w N U) :=
  (ref_cmake_own op A B c d n m a b hn hm hnl hml U hU N hN w ha hb).mono fun _ _ h => h.ret
end Go.Proofs.YtaodifpnfejbbaaGreat

/-
  Plain facts on sets of versions (layer 14): which are right, which versions they have, the one right set, what is made of two. No program in this text.
-/
namespace Go.Proofs.YtaodifpnfejbbaaGreat

structure Kn where
  rep : Int
  runs : List Rn
theorem kn_ext {a b : Kn} (h1 : a.rep = b.rep) (h2 : a.runs = b.runs) : a = b := by cases a; cases b; simp_all
/-- All runs of a replica. -/
def partV (k : Kn) (r : Int) : List Rn := match decide (k.rep = r) with
  | true => k.runs
  | false => []
theorem partV_yes {k : Kn} {r : Int} (h : k.rep = r) : partV k r = k.runs := by unfold partV; rw [decide_eq_true h]
theorem partV_no {k : Kn} {r : Int} (h : k.rep ≠ r) : partV k r = [] := by unfold partV; rw [decide_eq_false h]
def runsV : List Kn → Int → List Rn
  | [], _ => []
  | k :: s, r => partV k r ++ runsV s r
theorem runsV_append : ∀ (a b : List Kn) (r : Int), runsV (a ++ b) r = runsV a r ++ runsV b r
  | [], _, _ => rfl
  | k :: a, b, r => by rw [List.cons_append, runsV, runsV, runsV_append a b, List.append_assoc]
theorem runsV_none : ∀ {s : List Kn} {r : Int}, (∀ k ∈ s, k.rep ≠ r) → runsV s r = []
  | [], _, _ => rfl
  | k :: s, r, h => by rw [runsV, partV_no (h k (List.mem_cons_self ..)), runsV_none fun x hx => h x (List.mem_cons_of_mem _ hx)]; rfl
def hasK (s : List Kn) (r n : Int) : Bool := decide (1 ≤ r) && (decide (r ≤ 16) && hasC (runsV s r) n)
theorem hasK_in {s : List Kn} {r n : Int} (h1 : 1 ≤ r) (h2 : r ≤ 16) : hasK s r n = hasC (runsV s r) n := by unfold hasK; rw [decide_eq_true h1, decide_eq_true h2]; rfl
theorem hasK_out {s : List Kn} {r n : Int} (h : r < 1 ∨ 16 < r) : hasK s r n = false := by
  unfold hasK
  rcases h with h | h
  · rw [decide_eq_false (by omega : ¬ 1 ≤ r)]; rfl
  · rw [decide_eq_false (by omega : ¬ r ≤ 16), Bool.false_and, Bool.and_false]
def hasS (s : List Kn) (v : Vr) : Bool := rightVr v && hasC (runsV s v.rep) v.cnt
theorem hasS_hasK (s : List Kn) (v : Vr) : hasS s v = hasK s v.rep v.cnt := by
  unfold hasS
  cases h : rightVr v with
  | true =>
    have h1 := rightVr_iff.1 h
    rw [hasK_in h1.1 h1.2.1]; rfl
  | false =>
    by_cases h1 : 1 ≤ v.rep ∧ v.rep ≤ 16
    · rw [hasK_in h1.1 h1.2]
      cases h2 : hasC (runsV s v.rep) v.cnt with
      | false => rfl
      | true =>
        have h3 := hasC_range h2
        rw [rightVr_iff.2 ⟨h1.1, h1.2, h3.1, h3.2⟩] at h; cases h
    · rw [hasK_out (by omega)]; rfl
/-! Which sets are right. -/
def oneK (k : Kn) : Bool := (match k.runs with | [] => false | _ :: _ => true) && rightC k.runs
theorem oneK_iff {k : Kn} : oneK k = true ↔ k.runs ≠ [] ∧ rightC k.runs = true := by
  unfold oneK
  cases k.runs <;> simp
def upS : Int → List Kn → Bool
  | _, [] => true
  | c, k :: s => decide (c < k.rep) && (decide (k.rep ≤ 16) && (oneK k && upS k.rep s))
theorem upS_cons {c : Int} {k : Kn} {s : List Kn} : upS c (k :: s) = true ↔ c < k.rep ∧ k.rep ≤ 16 ∧ oneK k = true ∧ upS k.rep s = true := by
  rw [upS]; simp only [Bool.and_eq_true, decide_eq_true_eq]
def rightS (s : List Kn) : Bool := upS 0 s
theorem upS_all : ∀ {s : List Kn} {c : Int}, upS c s = true → ∀ k ∈ s, c < k.rep ∧ k.rep ≤ 16 ∧ oneK k = true
  | k :: s, c, h, x, hx => by
    obtain ⟨h1, h2, h3, h4⟩ := upS_cons.1 h
    rcases List.mem_cons.1 hx with rfl | hx
    · exact ⟨h1, h2, h3⟩
    · have := upS_all h4 x hx
      exact ⟨by omega, this.2⟩
theorem upS_snoc : ∀ {s : List Kn} {c : Int} {k : Kn}, upS c s = true → c < k.rep → (∀ x ∈ s, x.rep < k.rep) → k.rep ≤ 16 → oneK k = true → upS c (s ++ [k]) = true
  | [], _, _, _, h1, _, h3, h4 => upS_cons.2 ⟨h1, h3, h4, rfl⟩
  | x :: s, c, k, h, h1, h2, h3, h4 => by
    obtain ⟨a1, a2, a3, a4⟩ := upS_cons.1 h
    exact upS_cons.2 ⟨a1, a2, a3, upS_snoc a4 (h2 x (List.mem_cons_self ..)) (fun y hy => h2 y (List.mem_cons_of_mem _ hy)) h3 h4⟩
/-- The runs of a replica, in a right set: of one Known, or none. -/
theorem upS_runs : ∀ {s : List Kn} {c r : Int}, upS c s = true → rightC (runsV s r) = true
  | [], _, _, _ => rfl
  | k :: s, c, r, h => by
    obtain ⟨h1, h2, h3, h4⟩ := upS_cons.1 h
    rw [runsV]
    by_cases e : k.rep = r
    · rw [partV_yes e, runsV_none (fun x hx => by have := (upS_all h4 x hx).1; omega), List.append_nil]
      exact (oneK_iff.1 h3).2
    · rw [partV_no e]
      exact upS_runs h4
theorem upS_same : ∀ {a b : List Kn} {c d : Int}, upS c a = true → upS d b = true → (∀ r, runsV a r = runsV b r) → a = b
  | [], [], _, _, _, _, _ => rfl
  | [], k :: b, _, _, _, hb, h => by
    obtain ⟨-, -, h3, -⟩ := upS_cons.1 hb
    have h1 := h k.rep
    rw [runsV, runsV, partV_yes rfl] at h1
    exact absurd (List.append_eq_nil_iff.1 h1.symm).1 (oneK_iff.1 h3).1
  | k :: a, [], _, _, ha, _, h => by
    obtain ⟨-, -, h3, -⟩ := upS_cons.1 ha
    have h1 := h k.rep
    rw [runsV, runsV, partV_yes rfl] at h1
    exact absurd (List.append_eq_nil_iff.1 h1).1 (oneK_iff.1 h3).1
  | k :: a, x :: b, c, d, ha, hb, h => by
    obtain ⟨-, -, h3, h4⟩ := upS_cons.1 ha
    obtain ⟨-, -, g3, g4⟩ := upS_cons.1 hb
    have ua : ∀ r, r ≤ k.rep → runsV a r = [] := fun r hr => runsV_none fun y hy => by have := (upS_all h4 y hy).1; omega
    have ub : ∀ r, r ≤ x.rep → runsV b r = [] := fun r hr => runsV_none fun y hy => by have := (upS_all g4 y hy).1; omega
    have e : k.rep = x.rep := by
      rcases Int.lt_trichotomy k.rep x.rep with e | e | e
      · have h1 := h k.rep
        rw [runsV, runsV, partV_yes rfl, partV_no (by omega), ub _ (by omega)] at h1
        exact absurd (List.append_eq_nil_iff.1 h1).1 (oneK_iff.1 h3).1
      · exact e
      · have h1 := h x.rep
        rw [runsV, runsV, partV_yes (k := x) rfl, partV_no (by omega), ua _ (by omega)] at h1
        exact absurd (List.append_eq_nil_iff.1 h1.symm).1 (oneK_iff.1 g3).1
    have e2 : k.runs = x.runs := by
      have h1 := h k.rep
      rwa [runsV, runsV, partV_yes rfl, partV_yes e.symm, ua _ (by omega), ub _ (by omega), List.append_nil, List.append_nil] at h1
    rw [kn_ext e e2, upS_same h4 g4 fun r => by
      by_cases hr : r ≤ k.rep
      · rw [ua r hr, ub r (by omega)]
      · have h1 := h r
        rwa [runsV, runsV, partV_no (by omega), partV_no (by omega)] at h1]
/-- P14.4: one right set for each set of versions. -/
theorem rightS_unique {a b : List Kn} (ha : rightS a = true) (hb : rightS b = true) (h : ∀ r n, hasK a r n = hasK b r n) : a = b :=
  upS_same ha hb fun r => by
    by_cases hr : 1 ≤ r ∧ r ≤ 16
    · exact rightC_unique (upS_runs ha) (upS_runs hb) fun n => by have := h r n; rwa [hasK_in hr.1 hr.2, hasK_in hr.1 hr.2] at this
    · rw [runsV_none fun k hk => by have := upS_all ha k hk; omega, runsV_none fun k hk => by have := upS_all hb k hk; omega]
/-! What is made, replica by replica. -/
def putK (n : Int) (l : List Rn) : List Kn := match l with
  | [] => []
  | _ :: _ => [⟨n, l⟩]
theorem putK_nil (n : Int) : putK n [] = [] := rfl
theorem putK_some {n : Int} {l : List Rn} (h : l ≠ []) : putK n l = [⟨n, l⟩] := by
  unfold putK
  cases l
  · exact absurd rfl h
  · rfl
def colS (f : Int → List Rn) : Nat → List Kn
  | 0 => []
  | k + 1 => colS f k ++ putK ((k : Int) + 1) (f ((k : Int) + 1))
theorem colS_succ (f : Int → List Rn) (k : Nat) : colS f (k + 1) = colS f k ++ putK ((k : Int) + 1) (f ((k : Int) + 1)) := rfl
theorem colS_reps (f : Int → List Rn) : ∀ (k : Nat), ∀ x ∈ colS f k, 1 ≤ x.rep ∧ x.rep ≤ k
  | 0, x, hx => by cases hx
  | k + 1, x, hx => by
    rw [colS_succ] at hx
    rcases List.mem_append.1 hx with hx | hx
    · have := colS_reps f k x hx; omega
    · by_cases h : f ((k : Int) + 1) = []
      · rw [h] at hx; cases hx
      · rw [putK_some h] at hx
        rcases List.mem_singleton.1 hx with rfl
        exact ⟨by show (1 : Int) ≤ (k : Int) + 1; omega, by show (k : Int) + 1 ≤ ((k + 1 : Nat) : Int); omega⟩
theorem colS_up {f : Int → List Rn} (hf : ∀ r, rightC (f r) = true) : ∀ {k : Nat}, k ≤ 16 → rightS (colS f k) = true
  | 0, _ => rfl
  | k + 1, hk => by
    rw [colS_succ]
    by_cases h : f ((k : Int) + 1) = []
    · rw [h, putK_nil, List.append_nil]
      exact colS_up hf (by omega)
    · rw [putK_some h]
      exact upS_snoc (colS_up hf (by omega)) (by show (0 : Int) < (k : Int) + 1; omega) (fun x hx => by have := colS_reps f k x hx; show x.rep < (k : Int) + 1; omega) (by show (k : Int) + 1 ≤ 16; omega) (oneK_iff.2 ⟨h, hf _⟩)
theorem putK_runs (n : Int) (l : List Rn) (r : Int) : runsV (putK n l) r = match decide (n = r) with | true => l | false => [] := by
  by_cases h : l = []
  · subst h
    cases decide (n = r) <;> rfl
  · rw [putK_some h, runsV, runsV, List.append_nil]
    rfl
theorem colS_runs (f : Int → List Rn) : ∀ (k : Nat) (r : Int), runsV (colS f k) r = match decide (1 ≤ r) && decide (r ≤ k) with | true => f r | false => []
  | 0, r => by
    have : (decide (1 ≤ r) && decide (r ≤ ((0 : Nat) : Int))) = false := by
      by_cases h : 1 ≤ r
      · rw [decide_eq_false (by omega : ¬ r ≤ ((0 : Nat) : Int)), Bool.and_false]
      · rw [decide_eq_false h]; rfl
    rw [this]; rfl
  | k + 1, r => by
    rw [colS_succ, runsV_append, colS_runs f k, putK_runs]
    by_cases h : (k : Int) + 1 = r
    · rw [decide_eq_true h, decide_eq_false (by omega : ¬ r ≤ (k : Int)), Bool.and_false, decide_eq_true (by omega : 1 ≤ r), decide_eq_true (by omega : r ≤ ((k + 1 : Nat) : Int))]
      show [] ++ f ((k : Int) + 1) = f r
      rw [h]; rfl
    · rw [decide_eq_false h, List.append_nil, show decide (r ≤ ((k + 1 : Nat) : Int)) = decide (r ≤ (k : Int)) from by
        rw [Bool.eq_iff_iff]; simp only [decide_eq_true_eq]; omega]
def makeS (op : Int) (a b : List Kn) : List Kn := colS (fun r => makeC op (runsV a r) (runsV b r)) 16
def ofS (s : List Kn) : List Kn := makeS 1 s []
theorem makeS_right (op : Int) (a b : List Kn) : rightS (makeS op a b) = true := colS_up (fun _ => makeC_right _ _ _) (Nat.le_refl _)
theorem makeS_runs {op : Int} {a b : List Kn} {r : Int} (h1 : 1 ≤ r) (h2 : r ≤ 16) : runsV (makeS op a b) r = makeC op (runsV a r) (runsV b r) := by
  unfold makeS
  rw [colS_runs, decide_eq_true h1, decide_eq_true (show r ≤ ((16 : Nat) : Int) from h2)]; rfl
theorem makeS_has (op : Int) (a b : List Kn) (r n : Int) : hasK (makeS op a b) r n = gC op (hasK a r n) (hasK b r n) := by
  by_cases hr : 1 ≤ r ∧ r ≤ 16
  · rw [hasK_in hr.1 hr.2, hasK_in hr.1 hr.2, hasK_in hr.1 hr.2, makeS_runs hr.1 hr.2, makeC_has]
  · rw [hasK_out (by omega), hasK_out (by omega), hasK_out (by omega), gC_no]
theorem makeS_unique {op : Int} {a b u : List Kn} (h : rightS u = true) (hs : ∀ r n, hasK u r n = gC op (hasK a r n) (hasK b r n)) : u = makeS op a b :=
  rightS_unique h (makeS_right op a b) fun r n => by rw [hs, makeS_has]
theorem ofS_right (s : List Kn) : rightS (ofS s) = true := makeS_right 1 s []
theorem hasK_nil (r n : Int) : hasK [] r n = false := by unfold hasK; rw [runsV, hasC_nil, Bool.and_false, Bool.and_false]
theorem ofS_has (s : List Kn) (r n : Int) : hasK (ofS s) r n = hasK s r n := by unfold ofS; rw [makeS_has, gC1, hasK_nil, Bool.or_false]
theorem ofS_unique {s u : List Kn} (h : rightS u = true) (hs : ∀ r n, hasK u r n = hasK s r n) : u = ofS s := rightS_unique h (ofS_right s) fun r n => by rw [hs, ofS_has]
theorem ofS_runs {s : List Kn} {r : Int} (h1 : 1 ≤ r) (h2 : r ≤ 16) : runsV (ofS s) r = ofC (runsV s r) := makeS_runs h1 h2
theorem ofS_iff {a b : List Kn} : ofS a = ofS b ↔ ∀ r n, hasK a r n = hasK b r n :=
  ⟨fun h r n => by rw [← ofS_has a, ← ofS_has b, h], fun h => ofS_unique (ofS_right a) fun r n => by rw [ofS_has, h]⟩
theorem makeS_less {a b : List Kn} : makeS 3 a b = [] ↔ ∀ r n, hasK a r n = true → hasK b r n = true :=
  ⟨fun h r n h1 => by
    have h2 := makeS_has 3 a b r n
    rw [h, hasK_nil, gC3, h1] at h2
    cases h3 : hasK b r n
    · rw [h3] at h2; cases h2
    · rfl,
  fun h => (makeS_unique (u := []) rfl fun r n => by
    rw [hasK_nil, gC3]
    cases h1 : hasK a r n
    · rfl
    · rw [h r n h1]; rfl).symm⟩
theorem same_within {a b : List Kn} : ofS a = ofS b ↔ makeS 3 a b = [] ∧ makeS 3 b a = [] := by
  rw [ofS_iff, makeS_less, makeS_less]
  constructor
  · exact fun h => ⟨fun r n h1 => by rw [← h]; exact h1, fun r n h1 => by rw [h]; exact h1⟩
  · intro h r n
    cases h1 : hasK a r n
    · cases h2 : hasK b r n
      · rfl
      · rw [h.2 r n h2] at h1; cases h1
    · exact (h.1 r n h1).symm
theorem makeS_back1 (a b : List Kn) : makeS 1 b a = makeS 1 a b := (makeS_unique (makeS_right 1 a b) fun r n => by rw [makeS_has, gC1, gC1, Bool.or_comm]).symm
theorem makeS_parts (a b : List Kn) : makeS 1 (makeS 3 a b) (makeS 2 a b) = ofS a := (makeS_unique (ofS_right a) fun r n => by
  rw [makeS_has, makeS_has, gC1, gC2, gC3, ofS_has]
  cases hasK a r n <;> cases hasK b r n <;> rfl).symm
theorem makeS_joined (a b : List Kn) : makeS 1 (makeS 3 a b) b = makeS 1 a b := (makeS_unique (makeS_right 1 a b) fun r n => by
  rw [makeS_has, makeS_has, gC1, gC1, gC3]
  cases hasK a r n <;> cases hasK b r n <;> rfl).symm
theorem makeS_apart (a b : List Kn) : makeS 2 (makeS 3 a b) b = [] := (makeS_unique (u := []) rfl fun r n => by
  rw [hasK_nil, makeS_has, gC2, gC3]
  cases hasK a r n <;> cases hasK b r n <;> rfl).symm
theorem makeS_in (a b : List Kn) : makeS 3 (makeS 2 a b) a = [] := makeS_less.2 fun r n h => by
  rw [makeS_has, gC2, Bool.and_eq_true] at h
  exact h.1
theorem makeS_on (a b : List Kn) : makeS 3 a (makeS 1 a b) = [] := makeS_less.2 fun r n h => by rw [makeS_has, gC1, h]; rfl
theorem colS_len (f : Int → List Rn) : ∀ k : Nat, (colS f k).length ≤ k
  | 0 => Nat.le_refl _
  | k + 1 => by
    have h1 := colS_len f k
    have h2 : (putK ((k : Int) + 1) (f ((k : Int) + 1))).length ≤ 1 := by
      by_cases h : f ((k : Int) + 1) = []
      · rw [h]; exact Nat.zero_le _
      · rw [putK_some h]; exact Nat.le_refl _
    rw [colS_succ, List.length_append]
    omega
/-! Some versions more. -/
def oneS (v : Vr) : List Kn := [⟨v.rep, [⟨v.cnt, v.cnt⟩]⟩]
def addS (s : List Kn) (v : Vr) : List Kn := match rightVr v with
  | true => makeS 1 s (oneS v)
  | false => s
theorem addS_right {s : List Kn} {v : Vr} (h : rightS s = true) : rightS (addS s v) = true := by
  unfold addS
  cases rightVr v
  · exact h
  · exact makeS_right _ _ _
def addsS (s : List Kn) (l : List Vr) : List Kn := l.foldl addS (ofS s)
/-! Up to where all is known. -/
theorem baseC_least {l : List Rn} {b : Int} (h : ∀ n, 1 ≤ n → n ≤ b → hasC l n = true) : b ≤ baseC l := by
  have h1 := base_ok l
  rcases Int.lt_or_le (baseC l) b with h2 | h2
  · have h3 := h (baseC l + 1) (by omega) (by omega)
    rw [h1.2.1] at h3; cases h3
  · exact h2
theorem baseC_join (a b : List Rn) : baseC a ≤ baseC (makeC 1 a b) ∧ baseC b ≤ baseC (makeC 1 a b) :=
  ⟨baseC_least fun n h1 h2 => by rw [makeC_has, gC1, (base_ok a).1 n h1 h2]; rfl, baseC_least fun n h1 h2 => by rw [makeC_has, gC1, (base_ok b).1 n h1 h2, Bool.or_true]⟩
theorem baseC_meet (a b : List Rn) : baseC (makeC 2 a b) = min (baseC a) (baseC b) := by
  have h1 : min (baseC a) (baseC b) ≤ baseC (makeC 2 a b) := baseC_least fun n h1 h2 => by
    rw [makeC_has, gC2, (base_ok a).1 n h1 (by omega), (base_ok b).1 n h1 (by omega)]; rfl
  have h2 : baseC (makeC 2 a b) ≤ baseC a := baseC_least fun n h1 h2 => by
    have h3 := (base_ok (makeC 2 a b)).1 n h1 h2
    rw [makeC_has, gC2, Bool.and_eq_true] at h3
    exact h3.1
  have h3 : baseC (makeC 2 a b) ≤ baseC b := baseC_least fun n h1 h2 => by
    have h3 := (base_ok (makeC 2 a b)).1 n h1 h2
    rw [makeC_has, gC2, Bool.and_eq_true] at h3
    exact h3.2
  omega
end Go.Proofs.YtaodifpnfejbbaaGreat

/-
  Layer 14 (vset), the document's words: sets as values; all runs of a replica.
-/
namespace Go.Proofs.YtaodifpnfejbbaaGreat
open Go.RowKit

/-- A Known as it lies: the replica, and where its runs are. -/
structure Ks where
  rep : Int
  A : Option Addr
  n : Nat
  c : Nat
def ksCells (k : Ks) : List Value := [.int .i64 k.rep, .slice k.A k.n k.c]
noncomputable def kKs : Kind Tryz.prog Ks where
  ty := 31
  el := 61
  size := 2
  bytes := 32
  zero := .agg #[.int .i64 0, .slice none 0 0]
  cells := ksCells
  len := fun _ => rfl
  one := fun r u hu => by simp [ksCells] at hu; rcases hu with rfl | rfl <;> rfl
  pos := by decide
  under := Tryz.underlying31
  info := by kernel_rfl
  zsize := rfl
/-- A set that reads: each of its Known lies, and its runs read. -/
def RdK (w : World) (B : Nat) (A : Option Addr) (c : Nat) (s : List Kn) : Prop := ∃ ks : List Ks, kKs.Rd w B A c ks ∧ ks.length = s.length ∧ ∀ (i : Nat) (k : Ks) (x : Kn), ks[i]? = some k → s[i]? = some x → k.rep = x.rep ∧ k.n = x.runs.length ∧ kRn.Rd w B k.A k.c x.runs
theorem RdK.below {w w' : World} {B : Nat} {A : Option Addr} {c : Nat} {s : List Kn} (h : RdK w B A c s) (hb : Below B w w') : RdK w' B A c s := by
  obtain ⟨ks, h1, h2, h3⟩ := h
  exact ⟨ks, h1.below hb, h2, fun i k x hk hx => ⟨(h3 i k x hk hx).1, (h3 i k x hk hx).2.1, (h3 i k x hk hx).2.2.below hb⟩⟩
theorem RdK.call {w w' : World} {A : Option Addr} {c : Nat} {s : List Kn} (h : RdK w w.heap.size A c s) (hb : Below w.heap.size w w') : RdK w' w'.heap.size A c s := by
  obtain ⟨ks, h1, h2, h3⟩ := h
  exact ⟨ks, h1.call hb, h2, fun i k x hk hx => ⟨(h3 i k x hk hx).1, (h3 i k x hk hx).2.1, (h3 i k x hk hx).2.2.call hb⟩⟩
theorem RdK.room {w : World} {B : Nat} {A : Option Addr} {c : Nat} {s : List Kn} (h : RdK w B A c s) : s.length ≤ c := by
  obtain ⟨ks, h1, h2, -⟩ := h
  rw [← h2]; exact h1.room
theorem rdk_max {w : World} {B : Nat} {A : Option Addr} {c n : Nat} {s : List Kn} (h : RdK w B A c s) (hn : n = s.length) : n ≤ 9223372036854775807 := by
  obtain ⟨ks, h1, h2, -⟩ := h
  exact rd_maxC h1 (hn.trans h2.symm)
/-- Where its Known lie. -/
theorem knowns_at {w : World} {B : Nat} {A : Option Addr} {c : Nat} {s : List Kn} (h : RdK w B A c s) (hp : 0 < s.length) :
    ∃ b o, A = some ⟨b, o, none⟩ ∧ b < B ∧ ∀ k x, s[k]? = some x → ∃ (A' : Option Addr) (n' c' : Nat), n' = x.runs.length ∧ kRn.Rd w B A' c' x.runs ∧ w.cell? ⟨b, o + k * 2, none⟩ = some (.int .i64 x.rep) ∧ w.cell? ⟨b, o + k * 2 + 1, none⟩ = some (.slice A' n' c') := by
  obtain ⟨ks, h1, h2, h3⟩ := h
  obtain ⟨b, o, e1, e2, e3⟩ := h1.at_ (by omega)
  refine ⟨b, o, e1, e2, fun k x hx => ?_⟩
  obtain ⟨y, hy⟩ : ∃ y, ks[k]? = some y := ⟨_, List.getElem?_eq_getElem (by have := (List.getElem?_eq_some_iff.1 hx).1; omega)⟩
  obtain ⟨g1, g2, g3⟩ := h3 k y x hy hx
  refine ⟨y.A, y.n, y.c, g2, g3, ?_, ?_⟩
  · have := e3 k y hy 0 _ rfl
    rw [← g1]; exact this
  · exact e3 k y hy 1 _ rfl
/-- How many runs a set has. -/
def sizeV (m : Nat) (s : List Kn) : Prop := s.length ≤ m ∧ ∀ k ∈ s, k.runs.length ≤ m
theorem runsV_len {m : Nat} : ∀ {s : List Kn} (r : Int), (∀ k ∈ s, k.runs.length ≤ m) → (runsV s r).length ≤ m * s.length
  | [], _, _ => Nat.zero_le _
  | k :: s, r, h => by
    have h1 := runsV_len (s := s) r fun x hx => h x (List.mem_cons_of_mem _ hx)
    have h2 : (partV k r).length ≤ m := by
      by_cases e : k.rep = r
      · rw [partV_yes e]; exact h k (List.mem_cons_self ..)
      · rw [partV_no e]; exact Nat.zero_le _
    rw [runsV, List.length_append, List.length_cons, Nat.mul_succ]
    omega
theorem runsV_take {s : List Kn} {k : Nat} {x : Kn} (r : Int) (h : s[k]? = some x) : runsV (s.take (k + 1)) r = runsV (s.take k) r ++ partV x r := by
  rw [List.take_add_one, h, runsV_append]
  show _ ++ (partV x r ++ []) = _
  rw [List.append_nil]
end Go.Proofs.YtaodifpnfejbbaaGreat

/-
  Known that came in as a slice: each with its runs.
-/
namespace Go.Proofs.YtaodifpnfejbbaaGreat
open Go.ChangeShapes Go.WideShapes Go.ChangeAt Go.RowKit

theorem kcells_runs : Tryz.prog.cellsOf 59 = 1 := by kernel_rfl
/-- What a Known that lies and one that is meant have in common. -/
def KnIn (W : World) (x : Ks × Kn) : Prop := x.1.rep = x.2.rep ∧ x.1.n = x.2.runs.length ∧ kRn.Rd W W.heap.size x.1.A x.1.c x.2.runs
set_option maxRecDepth 100000 in
theorem kn_of {H : Type} {enc : TypeId × Value → H} {W : World} (n : Nat) (cs : List Value) (y : DataW H × List MemPlace) (hl : cs.length = 2)
    (hy : DataW.trod enc Tryz.prog W 0 (fun _ => true) true n 61 cs = some y) : ∃ x : Ks × Kn, cs = ksCells x.1 ∧ KnIn W x := by
  obtain ⟨xs, n', _, rfl, -, hlen, hf⟩ := DataW.trod_struct Tryz.underlying61 hy
  match xs, hlen with
  | [y0, y1], _ =>
    have h0 := hf 0 _ rfl
    have h1 := hf 1 _ rfl
    match cs, hl with
    | [a, b], _ =>
      have h0 : DataW.trod enc Tryz.prog W 0 (fun _ => true) true n' 3 (([a, b].drop 0).take (Tryz.prog.cellsOf 3)) = some y0 := by simpa using h0
      have h1 : DataW.trod enc Tryz.prog W 0 (fun _ => true) true n' 59 (([a, b].drop 1).take (Tryz.prog.cellsOf 59)) = some y1 := by simpa using h1
      rw [rcells_int] at h0
      rw [kcells_runs] at h1
      obtain ⟨i, e0, -, w0⟩ := DataW.trod_int Tryz.underlying3 h0
      obtain ⟨A, c, l, e1, g1, -, g2, g3⟩ := cells_slice rnCells (fun _ => True) Tryz.underlying59 (k := 2) (by kernel_rfl) (by omega) rn_of h1
      simp at e0 e1
      subst e0 e1
      exact ⟨(⟨i, A, l.length, c⟩, ⟨i, l⟩), rfl, rfl, rfl, g1, g2, g3⟩
set_option maxRecDepth 100000 in
theorem in_kns {H : Type} {enc : TypeId × Value → H} {W : World} {base : Nat} {v : Value} {d : DataW H} {p : List MemPlace}
    (hok : Value.okWide Tryz.prog W .any base 31 v) (h : DataW.Trod enc Tryz.prog W 0 (fun _ => true) true 31 v d p) :
    ∃ (A : Option Addr) (c : Nat) (l : List Kn), v = .slice A l.length c ∧ RdK W W.heap.size A c l := by
  obtain ⟨A, c, sl, rfl, h1, hg, h2, h3⟩ := in_slice (fun x : Ks × Kn => ksCells x.1) (KnIn W) Tryz.underlying31 (k := 2) (by kernel_rfl) (by omega) kn_of hok h
  refine ⟨A, c, sl.map (·.2), by rw [List.length_map], sl.map (·.1), ⟨?_, by rw [List.length_map]; exact h2, h3⟩, by rw [List.length_map, List.length_map], fun i s l hs hl => ?_⟩
  · show RowAt W W.heap.size A ((sl.map (·.1)).flatMap ksCells)
    rw [List.flatMap_map]
    exact h1
  · rw [List.getElem?_map] at hs hl
    cases hx : sl[i]? with
    | none => rw [hx] at hs; cases hs
    | some x =>
      rw [hx] at hs hl
      cases hs; cases hl
      exact hg x (List.mem_of_getElem? hx)
end Go.Proofs.YtaodifpnfejbbaaGreat

/-
  Plain facts on lists of ranges (layer 8): which are right, which texts they have; each set of texts has one right list at most; the right list of what is meant, edge by edge. No program in this text.
-/
namespace Go.Proofs.YtaodifpnfejbbaaGreat

def hasL (l : List Rng) (s : List UInt8) : Bool := l.any fun r => hasR r s
/-- Is there a text between the end of one and the beginning of the other? -/
def gapR (r t : Rng) : Bool := !r.op && ltB r.hi t.lo
def rightL : List Rng → Bool
  | [] => true
  | [r] => rightR r
  | r :: t :: l => rightR r && gapR r t && rightL (t :: l)
theorem hasL_cons (r : Rng) (l : List Rng) (s : List UInt8) : hasL (r :: l) s = (hasR r s || hasL l s) := by simp [hasL]
theorem hasL_append (a b : List Rng) (s : List UInt8) : hasL (a ++ b) s = (hasL a s || hasL b s) := by simp [hasL]
theorem rightL_head {r : Rng} {l : List Rng} (h : rightL (r :: l) = true) : rightR r = true := by
  cases l with
  | nil => exact h
  | cons t l => unfold rightL at h; simp only [Bool.and_eq_true] at h; exact h.1.1
theorem rightL_tail {r : Rng} {l : List Rng} (h : rightL (r :: l) = true) : rightL l = true := by
  cases l with
  | nil => rfl
  | cons t l => unfold rightL at h; simp only [Bool.and_eq_true] at h; exact h.2
theorem rightL_gap {r t : Rng} {l : List Rng} (h : rightL (r :: t :: l) = true) : r.op = false ∧ ltB r.hi t.lo = true := by
  unfold rightL gapR at h; simp only [Bool.and_eq_true, Bool.not_eq_true'] at h; exact h.1.2
theorem hasR_lo {r : Rng} (h : rightR r = true) : hasR r r.lo = true := by
  unfold hasR; rw [h, ltB_irrefl, rightR_first h]; rfl
theorem hasR_ge {r : Rng} {s : List UInt8} (h : hasR r s = true) : ltB s r.lo = false := by
  unfold hasR at h; simp only [Bool.and_eq_true, Bool.not_eq_true'] at h; exact h.1.2
theorem hasR_right {r : Rng} {s : List UInt8} (h : hasR r s = true) : rightR r = true := by
  unfold hasR at h; simp only [Bool.and_eq_true] at h; exact h.1.1
theorem hasR_ahead {r : Rng} {s : List UInt8} (h : hasR r s = true) : aheadR r s = true := by
  unfold hasR at h; simp only [Bool.and_eq_true] at h; exact h.2
/-- What a right list has stands not ahead of its first text. -/
theorem hasL_ge : ∀ {l : List Rng} {r : Rng} {s : List UInt8}, rightL (r :: l) = true → hasL (r :: l) s = true → ltB s r.lo = false
  | [], r, s, _, hs => by
    rw [hasL_cons] at hs
    simp only [hasL, List.any_nil, Bool.or_false] at hs
    exact hasR_ge hs
  | t :: l, r, s, h, hs => by
    rw [hasL_cons] at hs
    cases hr : hasR r s with
    | true => exact hasR_ge hr
    | false =>
      rw [hr, Bool.false_or] at hs
      have h1 := hasL_ge (rightL_tail h) hs
      have h2 := rightL_gap h
      have h3 := rightR_lt (rightL_head h) h2.1
      cases hc : ltB s r.lo with
      | false => rfl
      | true => rw [ltB_trans hc (ltB_trans h3 h2.2)] at h1; cases h1
/-- What the rest has, the first one hasn't; and the rest hasn't the first one's end. -/
theorem hasL_apart {r : Rng} {l : List Rng} {s : List UInt8} (h : rightL (r :: l) = true) (hs : hasL l s = true) : hasR r s = false ∧ r.op = false ∧ ltB r.hi s = true := by
  cases l with
  | nil => simp [hasL] at hs
  | cons t l =>
    have h1 := hasL_ge (rightL_tail h) hs
    have h2 := rightL_gap h
    have h3 : ltB r.hi s = true := ltB_of_lt_of_le h2.2 h1
    refine ⟨?_, h2.1, h3⟩
    cases hr : hasR r s with
    | false => rfl
    | true =>
      have := hasR_ahead hr
      unfold aheadR at this
      rw [h2.1, Bool.false_or, ltB_asymm h3] at this
      cases this
theorem rng_ext {r t : Rng} (h1 : r.lo = t.lo) (h2 : r.hi = t.hi) (h3 : r.op = t.op) : r = t := by cases r; cases t; simp_all
/-- The text at which the one ends, and the other doesn't. -/
theorem end_split {r t : Rng} {l m : List Rng} (hl : rightL (r :: l) = true) (hm : rightL (t :: m) = true) (he : r.lo = t.lo) (h : endLt r t = true) (hs : ∀ s, hasL (r :: l) s = hasL (t :: m) s) : False := by
  unfold endLt at h
  simp only [Bool.and_eq_true, Bool.not_eq_true'] at h
  obtain ⟨ho, h⟩ := h
  have h1 := hs r.hi
  have h2 : hasR t r.hi = true := by
    unfold hasR aheadR
    rw [rightL_head hm, h, ← he, ltB_asymm (rightR_lt (rightL_head hl) ho)]; rfl
  rw [hasL_cons t, h2, Bool.true_or, hasL_cons] at h1
  have h3 : hasR r r.hi = false := by
    unfold hasR aheadR; rw [ho, ltB_irrefl, Bool.false_or, Bool.and_false]
  rw [h3, Bool.false_or] at h1
  have := (hasL_apart hl h1).2.2
  rw [ltB_irrefl] at this
  cases this
/-- P8.4: two right lists that have the same texts are the same. -/
theorem rightL_unique : ∀ {l m : List Rng}, rightL l = true → rightL m = true → (∀ s, hasL l s = hasL m s) → l = m
  | [], [], _, _, _ => rfl
  | [], t :: m, _, hm, h => by
    have := h t.lo
    rw [hasL_cons, hasR_lo (rightL_head hm)] at this
    simp [hasL] at this
  | r :: l, [], hl, _, h => by
    have := h r.lo
    rw [hasL_cons, hasR_lo (rightL_head hl)] at this
    simp [hasL] at this
  | r :: l, t :: m, hl, hm, h => by
    have e1 : r.lo = t.lo := by
      have h1 : hasL (t :: m) r.lo = true := by rw [← h, hasL_cons, hasR_lo (rightL_head hl)]; rfl
      have h2 : hasL (r :: l) t.lo = true := by rw [h, hasL_cons, hasR_lo (rightL_head hm)]; rfl
      exact ltB_total (hasL_ge hm h1) (hasL_ge hl h2)
    have e2 : endLt r t = false := by
      cases hc : endLt r t with
      | false => rfl
      | true => exact (end_split hl hm e1 hc h).elim
    have e3 : endLt t r = false := by
      cases hc : endLt t r with
      | false => rfl
      | true => exact (end_split hm hl e1.symm hc (fun s => (h s).symm)).elim
    obtain ⟨e4, e5⟩ := end_same (rightL_head hl) (rightL_head hm) e2 e3
    obtain rfl := rng_ext e1 e4 e5
    have key : ∀ s, hasL l s = hasL m s := fun s => by
      have hs := h s
      rw [hasL_cons, hasL_cons] at hs
      cases h1 : hasL l s with
      | true => rw [(hasL_apart hl h1).1, h1, Bool.false_or, Bool.false_or] at hs; exact hs
      | false => cases h2 : hasL m s with
        | false => rfl
        | true => rw [(hasL_apart hm h2).1, h1, h2] at hs; cases hs
    rw [rightL_unique (rightL_tail hl) (rightL_tail hm) key]

/-! The right list of what is meant, edge by edge. -/
/-- The ranges that begin at an edge that is in, and end at the next one that isn't; lo: the one that has begun. -/
def mkR (f : List UInt8 → Bool) : List (List UInt8) → Option (List UInt8) → List Rng
  | [], none => []
  | [], some lo => [⟨lo, [], true⟩]
  | e :: es, none => match f e with | true => mkR f es (some e) | false => mkR f es none
  | e :: es, some lo => match f e with | true => mkR f es (some lo) | false => ⟨lo, e, false⟩ :: mkR f es none
/-- Rising texts, all behind e. -/
def risingB : List UInt8 → List (List UInt8) → Bool
  | _, [] => true
  | e, x :: l => ltB e x && risingB x l
theorem rising_head {c x : List UInt8} {l : List (List UInt8)} (h : risingB c (x :: l) = true) : ltB c x = true ∧ risingB x l = true := by
  unfold risingB at h; simpa using h
theorem rising_all : ∀ {l : List (List UInt8)} {c : List UInt8}, risingB c l = true → ∀ x ∈ l, ltB c x = true
  | [], _, _, x, hx => by cases hx
  | y :: l, c, h, x, hx => by
    obtain ⟨h1, h2⟩ := rising_head h
    rcases List.mem_cons.1 hx with rfl | hx
    · exact h1
    · exact ltB_trans h1 (rising_all h2 x hx)
/-- What holds at a text, told by what holds at the edges. -/
def floorV (f : List UInt8 → Bool) : Bool → List (List UInt8) → List UInt8 → Bool
  | v, [], _ => v
  | v, x :: l, s => match ltB s x with | true => v | false => floorV f (f x) l s
theorem floorV_low {f : List UInt8 → Bool} {v : Bool} {l : List (List UInt8)} {s : List UInt8} (h : ∀ x ∈ l, ltB s x = true) : floorV f v l s = v := by
  cases l with
  | nil => rfl
  | cons x l => unfold floorV; rw [h x (List.mem_cons_self ..)]
theorem hasR_open {lo s : List UInt8} (h : lo.length ≤ 17) : hasR ⟨lo, [], true⟩ s = !ltB s lo := by
  have h1 : rightR ⟨lo, [], true⟩ = true := rightR_iff.2 ⟨h, by simp, fun _ => rfl, (fun h => by cases h)⟩
  unfold hasR aheadR; rw [h1]; simp
theorem right_shut {lo e : List UInt8} (h : lo.length ≤ 17) (he : e.length ≤ 17) (hl : ltB lo e = true) : rightR ⟨lo, e, false⟩ = true :=
  rightR_iff.2 ⟨h, he, (fun h => by cases h), fun _ => hl⟩
theorem hasR_shut {lo e s : List UInt8} (h : lo.length ≤ 17) (he : e.length ≤ 17) (hl : ltB lo e = true) : hasR ⟨lo, e, false⟩ s = (!ltB s lo && ltB s e) := by
  unfold hasR aheadR; rw [right_shut h he hl]; simp
theorem mkR_low (f : List UInt8 → Bool) : ∀ (es : List (List UInt8)) (o : Option (List UInt8)) (c s : List UInt8), risingB c es = true → (∀ lo, o = some lo → ltB s lo = true) → (o = none → ltB c s = false) → (∀ lo, o = some lo → ltB c lo = false) → hasL (mkR f es o) s = false
  | [], none, _, _, _, _, _, _ => rfl
  | [], some lo, c, s, _, h, _, _ => by
    unfold mkR; rw [hasL_cons]
    have : hasR ⟨lo, [], true⟩ s = false := by unfold hasR; rw [h lo rfl]; simp
    rw [this]; rfl
  | e :: es, none, c, s, hr, _, h2, _ => by
    obtain ⟨h3, h4⟩ := rising_head hr
    have hse : ltB s e = true := ltB_of_le_of_lt (h2 rfl) h3
    unfold mkR
    cases f e with
    | true => exact mkR_low f es (some e) e s h4 (fun lo h => by injection h with h; subst h; exact hse) (fun h => by cases h) (fun lo h => by injection h with h; subst h; exact ltB_irrefl _)
    | false => exact mkR_low f es none e s h4 (fun lo h => by cases h) (fun _ => ltB_asymm hse) (fun lo h => by cases h)
  | e :: es, some lo, c, s, hr, h, _, hc => by
    obtain ⟨h3, h4⟩ := rising_head hr
    have h5 : ltB lo e = true := ltB_of_le_of_lt (hc lo rfl) h3
    have hse : ltB s e = true := ltB_trans (h lo rfl) h5
    unfold mkR
    cases f e with
    | true => exact mkR_low f es (some lo) e s h4 (fun lo' h' => by injection h' with h'; subst h'; exact h lo rfl) (fun h => by cases h) (fun lo' h' => by injection h' with h'; subst h'; exact ltB_asymm h5)
    | false =>
      show hasL (⟨lo, e, false⟩ :: mkR f es none) s = false
      rw [hasL_cons]
      have : hasR ⟨lo, e, false⟩ s = false := by unfold hasR; rw [h lo rfl]; simp
      rw [this, Bool.false_or]
      exact mkR_low f es none e s h4 (fun lo h => by cases h) (fun _ => ltB_asymm hse) (fun lo h => by cases h)
/-- What the list has. -/
theorem mkR_has (f : List UInt8 → Bool) : ∀ (es : List (List UInt8)) (o : Option (List UInt8)) (c s : List UInt8), risingB c es = true → (∀ x ∈ es, x.length ≤ 17) → (∀ lo, o = some lo → lo.length ≤ 17 ∧ ltB c lo = false ∧ ltB s lo = false) → hasL (mkR f es o) s = floorV f o.isSome es s
  | [], none, _, _, _, _, _ => rfl
  | [], some lo, c, s, _, _, h => by
    obtain ⟨h1, _, h3⟩ := h lo rfl
    unfold mkR; rw [hasL_cons, hasR_open h1, h3]; rfl
  | e :: es, none, c, s, hr, hl, _ => by
    obtain ⟨h3, h4⟩ := rising_head hr
    have hl' : ∀ x ∈ es, x.length ≤ 17 := fun x hx => hl x (List.mem_cons_of_mem _ hx)
    have he := hl e (List.mem_cons_self ..)
    unfold mkR floorV
    cases hse : ltB s e with
    | true =>
      cases f e with
      | true => exact mkR_low f es (some e) e s h4 (fun lo h => by injection h with h; subst h; exact hse) (fun h => by cases h) (fun lo h => by injection h with h; subst h; exact ltB_irrefl _)
      | false => exact mkR_low f es none e s h4 (fun lo h => by cases h) (fun _ => ltB_asymm hse) (fun lo h => by cases h)
    | false =>
      cases f e with
      | true => exact mkR_has f es (some e) e s h4 hl' (fun lo h => by injection h with h; subst h; exact ⟨he, ltB_irrefl _, hse⟩)
      | false => exact mkR_has f es none e s h4 hl' (fun lo h => by cases h)
  | e :: es, some lo, c, s, hr, hl, h => by
    obtain ⟨h3, h4⟩ := rising_head hr
    obtain ⟨k1, k2, k3⟩ := h lo rfl
    have hl' : ∀ x ∈ es, x.length ≤ 17 := fun x hx => hl x (List.mem_cons_of_mem _ hx)
    have he := hl e (List.mem_cons_self ..)
    have h5 : ltB lo e = true := ltB_of_le_of_lt k2 h3
    unfold mkR floorV
    cases hf : f e with
    | true =>
      have := mkR_has f es (some lo) e s h4 hl' (fun lo' h' => by injection h' with h'; subst h'; exact ⟨k1, ltB_asymm h5, k3⟩)
      show hasL (mkR f es (some lo)) s = _
      rw [this]
      cases hse : ltB s e with
      | true => exact floorV_low fun x hx => ltB_trans hse (rising_all h4 x hx)
      | false => rfl
    | false =>
      show hasL (⟨lo, e, false⟩ :: mkR f es none) s = _
      rw [hasL_cons, hasR_shut k1 he h5, k3]
      cases hse : ltB s e with
      | true => rfl
      | false => exact mkR_has f es none e s h4 hl' (fun lo h => by cases h)
theorem mkR_first (f : List UInt8 → Bool) : ∀ (es : List (List UInt8)) (o : Option (List UInt8)) (c : List UInt8) (t : Rng) (m : List Rng), risingB c es = true → mkR f es o = t :: m → (∀ lo, o = some lo → t.lo = lo) ∧ (o = none → ltB c t.lo = true)
  | [], none, _, _, _, _, h => by cases h
  | [], some lo, _, t, m, _, h => by
    unfold mkR at h; injection h with h h'; subst h
    exact ⟨(fun lo' e => by injection e), (fun e => by cases e)⟩
  | e :: es, none, c, t, m, hr, h => by
    obtain ⟨h3, h4⟩ := rising_head hr
    refine ⟨(fun lo e => by cases e), fun _ => ?_⟩
    unfold mkR at h
    cases hf : f e with
    | true => rw [hf] at h; rw [(mkR_first f es (some e) e t m h4 h).1 e rfl]; exact h3
    | false => rw [hf] at h; exact ltB_trans h3 ((mkR_first f es none e t m h4 h).2 rfl)
  | e :: es, some lo, c, t, m, hr, h => by
    obtain ⟨h3, h4⟩ := rising_head hr
    refine ⟨fun lo' e' => ?_, (fun e => by cases e)⟩
    injection e' with e'; subst e'
    unfold mkR at h
    cases hf : f e with
    | true => rw [hf] at h; exact (mkR_first f es (some lo) e t m h4 h).1 lo rfl
    | false => rw [hf] at h; injection h with h h'; subst h; rfl
/-- The list is right. -/
theorem mkR_right (f : List UInt8 → Bool) : ∀ (es : List (List UInt8)) (o : Option (List UInt8)) (c : List UInt8), risingB c es = true → (∀ x ∈ es, x.length ≤ 17) → (∀ lo, o = some lo → lo.length ≤ 17 ∧ ltB c lo = false) → rightL (mkR f es o) = true
  | [], none, _, _, _, _ => rfl
  | [], some lo, _, _, _, h => rightR_iff.2 ⟨(h lo rfl).1, by simp, fun _ => rfl, (fun h => by cases h)⟩
  | e :: es, none, c, hr, hl, _ => by
    obtain ⟨h3, h4⟩ := rising_head hr
    have hl' : ∀ x ∈ es, x.length ≤ 17 := fun x hx => hl x (List.mem_cons_of_mem _ hx)
    have he := hl e (List.mem_cons_self ..)
    unfold mkR
    cases f e with
    | true => exact mkR_right f es (some e) e h4 hl' (fun lo h => by injection h with h; subst h; exact ⟨he, ltB_irrefl _⟩)
    | false => exact mkR_right f es none e h4 hl' (fun lo h => by cases h)
  | e :: es, some lo, c, hr, hl, h => by
    obtain ⟨h3, h4⟩ := rising_head hr
    obtain ⟨k1, k2⟩ := h lo rfl
    have hl' : ∀ x ∈ es, x.length ≤ 17 := fun x hx => hl x (List.mem_cons_of_mem _ hx)
    have he := hl e (List.mem_cons_self ..)
    have h5 : ltB lo e = true := ltB_of_le_of_lt k2 h3
    unfold mkR
    cases f e with
    | true => exact mkR_right f es (some lo) e h4 hl' (fun lo' h' => by injection h' with h'; subst h'; exact ⟨k1, ltB_asymm h5⟩)
    | false =>
      have h6 := mkR_right f es none e h4 hl' (fun lo h => by cases h)
      show rightL (⟨lo, e, false⟩ :: mkR f es none) = true
      cases hm : mkR f es none with
      | nil => exact right_shut k1 he h5
      | cons t m =>
        rw [hm] at h6
        have h7 := (mkR_first f es none e t m h4 hm).2 rfl
        unfold rightL gapR
        rw [right_shut k1 he h5, h6, h7]; rfl
/-- Is it told by these edges whether a text is in? -/
def Det (f : List UInt8 → Bool) (E : List (List UInt8)) : Prop := ∀ s c, (∀ x ∈ E, ltB s x = ltB c x) → f s = f c
theorem floorV_det (f : List UInt8 → Bool) (s : List UInt8) : ∀ (es D : List (List UInt8)) (c : List UInt8), risingB c es = true → (∀ x ∈ D, ltB c x = false) → ltB s c = false → Det f (D ++ es) → floorV f (f c) es s = f s
  | [], D, c, _, hD, hs, h => by
    refine (h s c fun x hx => ?_).symm
    rw [List.append_nil] at hx
    rw [hD x hx]
    exact leB_trans (hD x hx) hs
  | x :: l, D, c, hr, hD, hs, h => by
    obtain ⟨h3, h4⟩ := rising_head hr
    unfold floorV
    cases hx : ltB s x with
    | true =>
      refine (h s c fun y hy => ?_).symm
      rcases List.mem_append.1 hy with hy | hy
      · rw [hD y hy]; exact leB_trans (hD y hy) hs
      · have h5 := rising_all hr y hy
        rw [h5]
        rcases List.mem_cons.1 hy with rfl | hy
        · exact hx
        · exact ltB_trans hx (rising_all h4 y hy)
    | false =>
      refine floorV_det f s l (D ++ [x]) x h4 (fun y hy => ?_) hx (by rw [List.append_assoc]; exact h)
      rcases List.mem_append.1 hy with hy | hy
      · exact ltB_asymm (ltB_of_le_of_lt (hD y hy) h3)
      · rw [List.mem_singleton.1 hy]; exact ltB_irrefl _
/-- Of the empty text and rising edges, by which it is told what is in: the right list of it. -/
theorem mkR_all {f : List UInt8 → Bool} {es : List (List UInt8)} (hr : risingB [] es = true) (hl : ∀ x ∈ es, x.length ≤ 17) (hd : Det f ([] :: es)) :
    rightL (mkR f ([] :: es) none) = true ∧ ∀ s, hasL (mkR f ([] :: es) none) s = f s := by
  have hn : ∀ s, ltB s [] = false := ltB_nil
  constructor
  · unfold mkR
    cases f [] with
    | true => exact mkR_right f es (some []) [] hr hl (fun lo h => by injection h with h; subst h; exact ⟨by simp, ltB_nil _⟩)
    | false => exact mkR_right f es none [] hr hl (fun lo h => by cases h)
  · intro s
    have h1 : hasL (mkR f ([] :: es) none) s = floorV f (f []) es s := by
      unfold mkR
      cases hf : f [] with
      | true => exact mkR_has f es (some []) [] s hr hl (fun lo h => by injection h with h; subst h; exact ⟨by simp, ltB_nil _, ltB_nil _⟩)
      | false => exact mkR_has f es none [] s hr hl (fun lo h => by cases h)
    rw [h1]
    exact floorV_det f s es [[]] [] hr (fun x hx => by rw [List.mem_singleton.1 hx]; exact ltB_nil _) (ltB_nil _) hd

/-! The edges. -/
/-- A text put among rising ones, once. -/
def putL : List (List UInt8) → List UInt8 → List (List UInt8)
  | [], s => [s]
  | x :: l, s => match ltB x s with | true => x :: putL l s | false => match decide (x = s) with | true => x :: l | false => s :: x :: l
theorem putL_behind {x : List UInt8} {l : List (List UInt8)} {s : List UInt8} (h : ltB x s = true) : putL (x :: l) s = x :: putL l s := by rw [putL, h]
theorem putL_there {x : List UInt8} {l : List (List UInt8)} : putL (x :: l) x = x :: l := by rw [putL, ltB_irrefl, decide_eq_true rfl]
theorem putL_here {x : List UInt8} {l : List (List UInt8)} {s : List UInt8} (h : ltB x s = false) (h' : x ≠ s) : putL (x :: l) s = s :: x :: l := by rw [putL, h, decide_eq_false h']
theorem putL_mem : ∀ {l : List (List UInt8)} {s x : List UInt8}, x ∈ putL l s ↔ x = s ∨ x ∈ l
  | [], s, x => by simp [putL]
  | y :: l, s, x => by
    cases h : ltB y s with
    | true => rw [putL_behind h, List.mem_cons, List.mem_cons, putL_mem]; constructor <;> (rintro (h | h | h) <;> simp [h])
    | false =>
      by_cases h' : y = s
      · subst h'; rw [putL_there]; constructor
        · exact .inr
        · rintro (rfl | h)
          · exact List.mem_cons_self ..
          · exact h
      · rw [putL_here h h', List.mem_cons]
theorem putL_rising : ∀ {l : List (List UInt8)} {c s : List UInt8}, risingB c l = true → ltB c s = true → risingB c (putL l s) = true
  | [], c, s, _, h => by simp [putL, risingB, h]
  | x :: l, c, s, hr, hs => by
    obtain ⟨h1, h2⟩ := rising_head hr
    cases h : ltB x s with
    | true => rw [putL_behind h]; unfold risingB; rw [h1, putL_rising h2 h]; rfl
    | false =>
      by_cases h' : x = s
      · subst h'; rw [putL_there]; exact hr
      · have h3 : ltB s x = true := by
          cases hc : ltB s x with
          | true => rfl
          | false => exact absurd (ltB_total h hc) h'
        rw [putL_here h h']; unfold risingB risingB; rw [hs, h3, h2]; rfl
/-- The empty text stands first. -/
theorem putL_first {l : List (List UInt8)} {s : List UInt8} (h : risingB [] l = true) : ∃ m, putL ([] :: l) s = [] :: m ∧ risingB [] m = true := by
  cases s with
  | nil => exact ⟨l, putL_there, h⟩
  | cons x s => exact ⟨putL l (x :: s), putL_behind (ltB_nil_cons x s), putL_rising h (ltB_nil_cons x s)⟩
def addE (E : List (List UInt8)) (r : Rng) : List (List UInt8) := match rightR r with
  | true => (match r.op with | true => putL E r.lo | false => putL (putL E r.lo) r.hi)
  | false => E
def edgesL (l : List Rng) : List (List UInt8) := l.foldl addE [[]]
theorem edgesL_snoc (l : List Rng) (r : Rng) : edgesL (l ++ [r]) = addE (edgesL l) r := by simp [edgesL]
/-- Texts that begin with the empty one, rise, and are edges. -/
def EdgesOk (E : List (List UInt8)) : Prop := ∃ m, E = [] :: m ∧ risingB [] m = true ∧ ∀ x ∈ m, x.length ≤ 17
theorem EdgesOk.put {E : List (List UInt8)} (h : EdgesOk E) {s : List UInt8} (hs : s.length ≤ 17) : EdgesOk (putL E s) := by
  obtain ⟨m, rfl, h1, h2⟩ := h
  obtain ⟨m', h3, h4⟩ := putL_first (s := s) h1
  refine ⟨m', h3, h4, fun x hx => ?_⟩
  have h5 : x ∈ putL ([] :: m) s := by rw [h3]; exact List.mem_cons_of_mem _ hx
  rcases putL_mem.1 h5 with rfl | h5
  · exact hs
  · rcases List.mem_cons.1 h5 with rfl | h5
    · simp
    · exact h2 x h5
theorem EdgesOk.add {E : List (List UInt8)} (h : EdgesOk E) (r : Rng) : EdgesOk (addE E r) := by
  unfold addE
  cases hr : rightR r with
  | false => exact h
  | true => cases r.op with
    | true => exact h.put (rightR_lo hr)
    | false => exact (h.put (rightR_lo hr)).put (rightR_hi hr)
theorem edges_ok : ∀ (l : List Rng) (E : List (List UInt8)), EdgesOk E → EdgesOk (l.foldl addE E)
  | [], _, h => h
  | r :: l, E, h => edges_ok l (addE E r) (h.add r)
theorem addE_keep {E : List (List UInt8)} {r : Rng} {x : List UInt8} (h : x ∈ E) : x ∈ addE E r := by
  unfold addE
  cases rightR r with
  | false => exact h
  | true => cases r.op with
    | true => exact putL_mem.2 (.inr h)
    | false => exact putL_mem.2 (.inr (putL_mem.2 (.inr h)))
theorem edges_keep : ∀ (l : List Rng) (E : List (List UInt8)) {x : List UInt8}, x ∈ E → x ∈ l.foldl addE E
  | [], _, _, h => h
  | r :: l, E, _, h => edges_keep l (addE E r) (addE_keep h)
theorem edges_mem : ∀ (l : List Rng) (E : List (List UInt8)) {r : Rng}, r ∈ l → rightR r = true → r.lo ∈ l.foldl addE E ∧ (r.op = false → r.hi ∈ l.foldl addE E)
  | [], _, _, h, _ => by cases h
  | t :: l, E, r, h, hr => by
    rcases List.mem_cons.1 h with rfl | h
    · constructor
      · refine edges_keep l _ ?_
        unfold addE; rw [hr]
        cases r.op with
        | true => exact putL_mem.2 (.inl rfl)
        | false => exact putL_mem.2 (.inr (putL_mem.2 (.inl rfl)))
      · intro ho
        refine edges_keep l _ ?_
        unfold addE; rw [hr, ho]
        exact putL_mem.2 (.inl rfl)
    · exact edges_mem l (addE E t) h hr
theorem edgesL_ok (l : List Rng) : EdgesOk (edgesL l) := edges_ok l [[]] ⟨[], rfl, rfl, by simp⟩
theorem hasR_det {r : Rng} {E : List (List UInt8)} (h : rightR r = true → r.lo ∈ E ∧ (r.op = false → r.hi ∈ E)) : Det (hasR r) E := fun s c hs => by
  cases hr : rightR r with
  | false => unfold hasR; rw [hr]; rfl
  | true =>
    obtain ⟨h1, h2⟩ := h hr
    unfold hasR aheadR
    rw [hs _ h1]
    cases ho : r.op with
    | true => rfl
    | false => rw [hs _ (h2 ho)]
theorem hasL_det : ∀ {l : List Rng} {E : List (List UInt8)}, (∀ r ∈ l, rightR r = true → r.lo ∈ E ∧ (r.op = false → r.hi ∈ E)) → Det (hasL l) E
  | [], _, _ => fun _ _ _ => rfl
  | r :: l, E, h => fun s c hs => by
    rw [hasL_cons, hasL_cons, hasR_det (h r (List.mem_cons_self ..)) s c hs, hasL_det (fun t ht => h t (List.mem_cons_of_mem _ ht)) s c hs]
/-- The right list of what is told by what two lists have. -/
theorem make_ok (a b : List Rng) (g : Bool → Bool → Bool) : rightL (mkR (fun s => g (hasL a s) (hasL b s)) (edgesL (a ++ b)) none) = true ∧ ∀ s, hasL (mkR (fun s => g (hasL a s) (hasL b s)) (edgesL (a ++ b)) none) s = g (hasL a s) (hasL b s) := by
  obtain ⟨m, hm, h1, h2⟩ := edgesL_ok (a ++ b)
  have ha : Det (hasL a) (edgesL (a ++ b)) := hasL_det fun r hr hR => edges_mem (a ++ b) [[]] (List.mem_append.2 (.inl hr)) hR
  have hb : Det (hasL b) (edgesL (a ++ b)) := hasL_det fun r hr hR => edges_mem (a ++ b) [[]] (List.mem_append.2 (.inr hr)) hR
  rw [hm] at ha hb ⊢
  exact mkR_all h1 h2 fun s c hs => by simp only [ha s c hs, hb s c hs]
end Go.Proofs.YtaodifpnfejbbaaGreat

/-
  Lists of ranges, and of texts, as values of the program.
-/
namespace Go.Proofs.YtaodifpnfejbbaaGreat
open Go.RowKit

/-- A range's cells. -/
def rngCells (r : Rng) : List Value := [.string (str r.lo), .string (str r.hi), .bool r.op]
noncomputable def kRng : Kind Tryz.prog Rng where
  ty := 36
  el := 42
  size := 3
  bytes := 40
  zero := .agg #[.string ⟨#[]⟩, .string ⟨#[]⟩, .bool false]
  cells := rngCells
  len := fun _ => rfl
  one := fun r u hu => by simp [rngCells] at hu; rcases hu with rfl | rfl | rfl <;> rfl
  pos := by decide
  under := Tryz.underlying36
  info := by kernel_rfl
  zsize := rfl
noncomputable def kStr : Kind Tryz.prog (List UInt8) where
  ty := 101
  el := 9
  size := 1
  bytes := 16
  zero := .string ⟨#[]⟩
  cells := fun s => [.string (str s)]
  len := fun _ => rfl
  one := fun s u hu => by simp at hu; subst hu; rfl
  pos := by decide
  under := Tryz.underlying101
  info := by kernel_rfl
  zsize := rfl
/-- The cells of range k of a list. -/
theorem rngs_at {w : World} {B : Nat} {A : Option Addr} {c : Nat} {l : List Rng} (h : kRng.Rd w B A c l) (hp : 0 < l.length) :
    ∃ b o, A = some ⟨b, o, none⟩ ∧ b < B ∧ ∀ k r, l[k]? = some r → w.cell? ⟨b, o + k * 3, none⟩ = some (.string (str r.lo)) ∧ w.cell? ⟨b, o + k * 3 + 1, none⟩ = some (.string (str r.hi)) ∧ w.cell? ⟨b, o + k * 3 + 2, none⟩ = some (.bool r.op) := by
  obtain ⟨b, o, h1, h2, h3⟩ := h.at_ hp
  exact ⟨b, o, h1, h2, fun k r hr => ⟨h3 k r hr 0 _ rfl, h3 k r hr 1 _ rfl, h3 k r hr 2 _ rfl⟩⟩
theorem texts_at {w : World} {B : Nat} {A : Option Addr} {c : Nat} {l : List (List UInt8)} (h : kStr.Rd w B A c l) (hp : 0 < l.length) :
    ∃ b o, A = some ⟨b, o, none⟩ ∧ b < B ∧ ∀ k s, l[k]? = some s → w.cell? ⟨b, o + k, none⟩ = some (.string (str s)) := by
  obtain ⟨b, o, h1, h2, h3⟩ := h.at_ hp
  refine ⟨b, o, h1, h2, fun k s hs => ?_⟩
  have := h3 k s hs 0 _ rfl
  rwa [show o + (k * kStr.size + 0) = o + k by show o + (k * 1 + 0) = o + k; omega] at this
theorem get_some {α : Type} {l : List α} {k : Nat} (h : k < l.length) : ∃ x, l[k]? = some x ∧ l.drop k = x :: l.drop (k + 1) ∧ x ∈ l := ⟨l[k], List.getElem?_eq_getElem h, List.drop_eq_getElem_cons h, List.getElem_mem h⟩
end Go.Proofs.YtaodifpnfejbbaaGreat

/-
  Ranges that came in as a slice.
-/
namespace Go.Proofs.YtaodifpnfejbbaaGreat
open Go.ChangeShapes Go.WideShapes Go.ChangeAt Go.RowKit

theorem cells_string : Tryz.prog.cellsOf 9 = 1 := by kernel_rfl
theorem cells_bool : Tryz.prog.cellsOf 4 = 1 := by kernel_rfl
set_option maxRecDepth 100000 in
theorem in_rngs {H : Type} {enc : TypeId × Value → H} {W : World} {base : Nat} {v : Value} {d : DataW H} {p : List MemPlace}
    (hok : Value.okWide Tryz.prog W .any base 36 v) (h : DataW.Trod enc Tryz.prog W 0 (fun _ => true) true 36 v d p) :
    ∃ (A : Option Addr) (c : Nat) (l : List Rng), v = .slice A l.length c ∧ kRng.Rd W W.heap.size A c l := by
  obtain ⟨A, c, l, rfl, h1, -, h2, h3⟩ := in_slice rngCells (fun _ => True) Tryz.underlying36 (k := 3) (by kernel_rfl) (by omega) (fun n cs y hl hy => by
    obtain ⟨y0, y1, y2, n', -, -, h0, h1, h2⟩ := Go.Deep.trod_struct3 Tryz.underlying42 hy
    rw [cells_string] at h0 h1
    rw [cells_bool] at h2
    match cs, hl with
    | [a, b, c], _ =>
      obtain ⟨s, e0, -, w0⟩ := DataW.trod_string Tryz.underlying9 h0
      obtain ⟨t, e1, -, w1⟩ := DataW.trod_string Tryz.underlying9 h1
      obtain ⟨q, e2, -⟩ := DataW.trod_bool Tryz.underlying4 h2
      simp at e0 e1 e2
      subst e0 e1 e2
      exact ⟨⟨s.data.toList, t.data.toList, q⟩, by simp only [rngCells, str_of], trivial⟩) hok h
  exact ⟨A, c, l, rfl, h1, h2, h3⟩
end Go.Proofs.YtaodifpnfejbbaaGreat

/-
  Plain facts on lists of ranges as sets of texts (layer 8): union, meet, what is left, what a list hasn't. No program in this text.
-/
namespace Go.Proofs.YtaodifpnfejbbaaGreat

/-- What is meant by a number: 1 of one of both, 2 of both, 3 of a and not b, else of none of both. -/
def gV (op : Int) (x y : Bool) : Bool :=
  match decide (op = 1) with
  | true => x || y
  | false => match decide (op = 2) with
    | true => x && y
    | false => match decide (op = 3) with
      | true => x && !y
      | false => !x && !y
def inV (op : Int) (a b : List Rng) (s : List UInt8) : Bool := gV op (hasL a s) (hasL b s)
/-- The right list of what is meant. -/
def makeV (op : Int) (a b : List Rng) : List Rng := mkR (inV op a b) (edgesL (a ++ b)) none
theorem makeV_right (op : Int) (a b : List Rng) : rightL (makeV op a b) = true := (make_ok a b (gV op)).1
theorem makeV_has (op : Int) (a b : List Rng) (s : List UInt8) : hasL (makeV op a b) s = gV op (hasL a s) (hasL b s) := (make_ok a b (gV op)).2 s
theorem makeV_unique {op : Int} {a b u : List Rng} (h : rightL u = true) (hs : ∀ s, hasL u s = gV op (hasL a s) (hasL b s)) : u = makeV op a b :=
  rightL_unique h (makeV_right op a b) fun s => by rw [hs, makeV_has]
theorem gV1 (x y : Bool) : gV 1 x y = (x || y) := rfl
theorem gV2 (x y : Bool) : gV 2 x y = (x && y) := rfl
theorem gV3 (x y : Bool) : gV 3 x y = (x && !y) := rfl
theorem gV4 (x y : Bool) : gV 4 x y = (!x && !y) := rfl
theorem hasL_nil (s : List UInt8) : hasL [] s = false := rfl
/-- The right list of a list's texts. -/
def normV (a : List Rng) : List Rng := makeV 1 a []
def notV (a : List Rng) : List Rng := makeV 4 a []
theorem normV_has (a : List Rng) (s : List UInt8) : hasL (normV a) s = hasL a s := by rw [normV, makeV_has, gV1, hasL_nil, Bool.or_false]
theorem notV_has (a : List Rng) (s : List UInt8) : hasL (notV a) s = !hasL a s := by rw [notV, makeV_has, gV4, hasL_nil, Bool.not_false, Bool.and_true]
theorem normV_right {a : List Rng} (h : rightL a = true) : normV a = a := (makeV_unique h fun s => by rw [gV1, hasL_nil, Bool.or_false]).symm
instance : DecidableEq Rng := fun r t => match decEq r.lo t.lo, decEq r.hi t.hi, decEq r.op t.op with
  | .isTrue h1, .isTrue h2, .isTrue h3 => .isTrue (rng_ext h1 h2 h3)
  | .isFalse h, _, _ => .isFalse fun e => h (by rw [e])
  | _, .isFalse h, _ => .isFalse fun e => h (by rw [e])
  | _, _, .isFalse h => .isFalse fun e => h (by rw [e])
def sameV (a b : List Rng) : Bool := decide (normV a = normV b)
def withinV (a b : List Rng) : Bool := (makeV 3 a b).isEmpty
theorem rightL_empty {u : List Rng} (h : rightL u = true) (hs : ∀ s, hasL u s = false) : u = [] := rightL_unique h rfl fun s => by rw [hs]; rfl
theorem sameV_iff {a b : List Rng} : sameV a b = true ↔ ∀ s, hasL a s = hasL b s := by
  unfold sameV
  rw [decide_eq_true_eq]
  constructor
  · intro h s; rw [← normV_has a, h, normV_has]
  · intro h; exact rightL_unique (makeV_right _ _ _) (makeV_right _ _ _) fun s => by rw [normV_has, normV_has, h]
theorem withinV_iff {a b : List Rng} : withinV a b = true ↔ ∀ s, hasL a s = true → hasL b s = true := by
  unfold withinV
  rw [List.isEmpty_iff]
  constructor
  · intro h s hs
    have := makeV_has 3 a b s
    rw [h, hasL_nil, gV3, hs, Bool.true_and] at this
    cases hb : hasL b s with
    | true => rfl
    | false => rw [hb] at this; cases this
  · intro h
    refine rightL_empty (makeV_right _ _ _) fun s => ?_
    rw [makeV_has, gV3]
    cases ha : hasL a s with
    | false => rfl
    | true => rw [h s ha]; rfl
theorem sameV_within (a b : List Rng) : sameV a b = (withinV a b && withinV b a) := by
  rw [Bool.eq_iff_iff, Bool.and_eq_true, sameV_iff, withinV_iff, withinV_iff]
  constructor
  · intro h; exact ⟨fun s e => by rw [← h]; exact e, fun s e => by rw [h]; exact e⟩
  · intro ⟨h1, h2⟩ s
    cases ha : hasL a s with
    | true => exact (h1 s ha).symm
    | false => cases hb : hasL b s with
      | false => rfl
      | true => rw [h2 s hb] at ha; cases ha
theorem notV_notV (a : List Rng) : sameV (notV (notV a)) a = true := sameV_iff.2 fun s => by rw [notV_has, notV_has, Bool.not_not]
theorem not_union (a b : List Rng) : sameV (notV (makeV 1 a b)) (makeV 2 (notV a) (notV b)) = true := sameV_iff.2 fun s => by
  rw [notV_has, makeV_has, makeV_has, notV_has, notV_has, gV1, gV2, Bool.not_or]
theorem less_meet (a b : List Rng) : sameV (makeV 1 (makeV 3 a b) (makeV 2 a b)) a = true := sameV_iff.2 fun s => by
  rw [makeV_has, makeV_has, makeV_has, gV1, gV2, gV3]; cases hasL a s <;> cases hasL b s <;> rfl
theorem meet_union (a b c : List Rng) : makeV 2 a (makeV 1 b c) = makeV 1 (makeV 2 a b) (makeV 2 a c) := makeV_unique (makeV_right _ _ _) fun s => by
  rw [makeV_has, makeV_has, makeV_has, makeV_has, gV1, gV1, gV2, gV2, gV2]; cases hasL a s <;> cases hasL b s <;> cases hasL c s <;> rfl
theorem union_meet (a b c : List Rng) : makeV 1 a (makeV 2 b c) = makeV 2 (makeV 1 a b) (makeV 1 a c) := makeV_unique (makeV_right _ _ _) fun s => by
  rw [makeV_has, makeV_has, makeV_has, makeV_has, gV1, gV1, gV1, gV2, gV2]; cases hasL a s <;> cases hasL b s <;> cases hasL c s <;> rfl
theorem less_union (a b c : List Rng) : makeV 3 (makeV 1 a b) c = makeV 1 (makeV 3 a c) (makeV 3 b c) := makeV_unique (makeV_right _ _ _) fun s => by
  rw [makeV_has, makeV_has, makeV_has, makeV_has, gV1, gV1, gV3, gV3, gV3]; cases hasL a s <;> cases hasL b s <;> cases hasL c s <;> rfl
theorem union_comm (a b : List Rng) : makeV 1 a b = makeV 1 b a := makeV_unique (makeV_right _ _ _) fun s => by rw [makeV_has, gV1, gV1, Bool.or_comm]
theorem norm_append (a b : List Rng) : normV (a ++ b) = makeV 1 a b := makeV_unique (makeV_right _ _ _) fun s => by rw [normV_has, hasL_append, gV1]
/-- How many ranges, and how long their texts. -/
def SmallL (n : Nat) (l : List Rng) : Prop := l.length ≤ n ∧ ∀ r ∈ l, r.lo.length ≤ 1000 ∧ r.hi.length ≤ 1000
theorem rightL_all : ∀ {l : List Rng}, rightL l = true → ∀ r ∈ l, rightR r = true
  | [], _, _, h => by cases h
  | t :: l, h, r, hr => by
    rcases List.mem_cons.1 hr with rfl | hr
    · exact rightL_head h
    · exact rightL_all (rightL_tail h) r hr
theorem mkR_len (f : List UInt8 → Bool) : ∀ (es : List (List UInt8)) (o : Option (List UInt8)), (mkR f es o).length ≤ es.length + 1
  | [], none => by simp [mkR]
  | [], some lo => by simp [mkR]
  | e :: es, none => by
    rw [mkR]
    cases f e
    · have := mkR_len f es none; simp; omega
    · have := mkR_len f es (some e); simp; omega
  | e :: es, some lo => by
    rw [mkR]
    cases f e
    · have := mkR_len f es none; simp; omega
    · have := mkR_len f es (some lo); simp; omega
theorem putL_len : ∀ (l : List (List UInt8)) (s : List UInt8), (putL l s).length ≤ l.length + 1
  | [], s => by simp [putL]
  | x :: l, s => by
    have := putL_len l s
    rw [putL]
    cases ltB x s with
    | true => simp; omega
    | false => cases decide (x = s) <;> simp
theorem addE_len (E : List (List UInt8)) (r : Rng) : (addE E r).length ≤ E.length + 2 := by
  unfold addE
  have h1 := putL_len E r.lo
  have h2 := putL_len (putL E r.lo) r.hi
  cases rightR r with
  | false => simp
  | true => cases r.op <;> simp <;> omega
theorem edges_len : ∀ (l : List Rng) (E : List (List UInt8)), (l.foldl addE E).length ≤ E.length + 2 * l.length
  | [], E => by simp
  | r :: l, E => by
    have h1 := edges_len l (addE E r)
    have h2 := addE_len E r
    simp only [List.foldl_cons, List.length_cons]
    omega
theorem edgesL_len (l : List Rng) : (edgesL l).length ≤ 1 + 2 * l.length := edges_len l [[]]
theorem makeV_small (op : Int) {a b : List Rng} {n m : Nat} (ha : SmallL n a) (hb : SmallL m b) : SmallL (2 * (n + m) + 2) (makeV op a b) := by
  refine ⟨?_, fun r hr => ?_⟩
  · have h1 := mkR_len (inV op a b) (edgesL (a ++ b)) none
    have h2 := edgesL_len (a ++ b)
    rw [List.length_append] at h2
    have h3 := ha.1
    have h4 := hb.1
    unfold makeV
    omega
  · have := rightL_all (makeV_right op a b) r hr
    have h1 := rightR_lo this
    have h2 := rightR_hi this
    omega
theorem smallL_nil (n : Nat) : SmallL n [] := ⟨by simp, by simp⟩
theorem SmallL.mono {n m : Nat} {l : List Rng} (h : SmallL n l) (hm : n ≤ m) : SmallL m l := ⟨Nat.le_trans h.1 hm, h.2⟩
end Go.Proofs.YtaodifpnfejbbaaGreat

/-
  Plain facts on knowledge (layer 15): which is right, what it has of a text; each knowledge has one right list; the right list of what is meant, edge by edge. No program in this text.
-/
namespace Go.Proofs.YtaodifpnfejbbaaGreat

instance : DecidableEq Rn := fun r t => match decEq r.fr t.fr, decEq r.to t.to with
  | .isTrue h1, .isTrue h2 => .isTrue (rn_ext h1 h2)
  | .isFalse h, _ => .isFalse fun e => h (by rw [e])
  | _, .isFalse h => .isFalse fun e => h (by rw [e])
instance : DecidableEq Kn := fun r t => match decEq r.rep t.rep, decEq r.runs t.runs with
  | .isTrue h1, .isTrue h2 => .isTrue (kn_ext h1 h2)
  | .isFalse h, _ => .isFalse fun e => h (by rw [e])
  | _, .isFalse h => .isFalse fun e => h (by rw [e])
/-- A piece: a range, and a set. -/
structure Pc where
  rng : Rng
  set : List Kn
theorem pc_ext {a b : Pc} (h1 : a.rng = b.rng) (h2 : a.set = b.set) : a = b := by cases a; cases b; simp_all
theorem hasK_append (a b : List Kn) (r n : Int) : hasK (a ++ b) r n = (hasK a r n || hasK b r n) := by
  unfold hasK
  rw [runsV_append, hasC_append]
  cases decide (1 ≤ r) <;> cases decide (r ≤ 16) <;> rfl
theorem hasS_append (a b : List Kn) (v : Vr) : hasS (a ++ b) v = (hasS a v || hasS b v) := by rw [hasS_hasK, hasS_hasK, hasS_hasK, hasK_append]
theorem hasS_nil (v : Vr) : hasS [] v = false := by rw [hasS_hasK, hasK_nil]
/-- What a piece has of a text. -/
def setP (p : Pc) (s : List UInt8) : List Kn := match hasR p.rng s with
  | true => p.set
  | false => []
theorem setP_yes {p : Pc} {s : List UInt8} (h : hasR p.rng s = true) : setP p s = p.set := by unfold setP; rw [h]
theorem setP_no {p : Pc} {s : List UInt8} (h : hasR p.rng s = false) : setP p s = [] := by unfold setP; rw [h]
/-- All Known of the pieces that have a text. -/
def catK : List Pc → List UInt8 → List Kn
  | [], _ => []
  | p :: k, s => setP p s ++ catK k s
theorem catK_append : ∀ (a b : List Pc) (s : List UInt8), catK (a ++ b) s = catK a s ++ catK b s
  | [], _, _ => rfl
  | p :: a, b, s => by rw [List.cons_append, catK, catK, catK_append a b, List.append_assoc]
def atK (k : List Pc) (s : List UInt8) : List Kn := ofS (catK k s)
def hasP (k : List Pc) (s : List UInt8) (v : Vr) : Bool := k.any fun p => hasR p.rng s && hasS p.set v
theorem hasP_cat : ∀ (k : List Pc) (s : List UInt8) (v : Vr), hasP k s v = hasS (catK k s) v
  | [], s, v => (hasS_nil v).symm
  | p :: k, s, v => by
    rw [catK, hasS_append, ← hasP_cat k s v]
    show ((hasR p.rng s && hasS p.set v) || hasP k s v) = _
    cases h : hasR p.rng s with
    | true => rw [setP_yes h]; rfl
    | false => rw [setP_no h, hasS_nil]; rfl
theorem hasP_at (k : List Pc) (s : List UInt8) (v : Vr) : hasP k s v = hasS (atK k s) v := by
  rw [hasP_cat, hasS_hasK, hasS_hasK, atK, ofS_has]
theorem ofS_self {s : List Kn} (h : rightS s = true) : ofS s = s := (ofS_unique h fun _ _ => rfl).symm
theorem ofS_nil : ofS [] = [] := ofS_self rfl

/-! Which are right. -/
def fullK (s : List Kn) : Bool := (match s with | [] => false | _ :: _ => true) && rightS s
theorem fullK_iff {s : List Kn} : fullK s = true ↔ s ≠ [] ∧ rightS s = true := by
  unfold fullK
  cases s <;> simp
def onePc (p : Pc) : Bool := rightR p.rng && fullK p.set
theorem onePc_iff {p : Pc} : onePc p = true ↔ rightR p.rng = true ∧ p.set ≠ [] ∧ rightS p.set = true := by
  unfold onePc; rw [Bool.and_eq_true, fullK_iff]
def gapP (p q : Pc) : Bool := !p.rng.op && (!ltB q.rng.lo p.rng.hi && !(decide (p.rng.hi = q.rng.lo) && decide (p.set = q.set)))
theorem gapP_iff {p q : Pc} : gapP p q = true ↔ p.rng.op = false ∧ ltB q.rng.lo p.rng.hi = false ∧ (p.rng.hi = q.rng.lo → p.set ≠ q.set) := by
  unfold gapP
  simp only [Bool.and_eq_true, Bool.not_eq_true', Bool.and_eq_false_iff, decide_eq_false_iff_not]
  constructor
  · rintro ⟨h1, h2, h3 | h3⟩
    · exact ⟨h1, h2, fun e => absurd e h3⟩
    · exact ⟨h1, h2, fun _ => h3⟩
  · rintro ⟨h1, h2, h3⟩
    refine ⟨h1, h2, ?_⟩
    by_cases e : p.rng.hi = q.rng.lo
    · exact .inr (h3 e)
    · exact .inl e
def rightP : List Pc → Bool
  | [] => true
  | [p] => onePc p
  | p :: q :: k => onePc p && gapP p q && rightP (q :: k)
theorem rightP_head {p : Pc} {k : List Pc} (h : rightP (p :: k) = true) : onePc p = true := by
  cases k with
  | nil => exact h
  | cons q k => unfold rightP at h; simp only [Bool.and_eq_true] at h; exact h.1.1
theorem rightP_tail {p : Pc} {k : List Pc} (h : rightP (p :: k) = true) : rightP k = true := by
  cases k with
  | nil => rfl
  | cons q k => unfold rightP at h; simp only [Bool.and_eq_true] at h; exact h.2
theorem rightP_gap {p q : Pc} {k : List Pc} (h : rightP (p :: q :: k) = true) : p.rng.op = false ∧ ltB q.rng.lo p.rng.hi = false ∧ (p.rng.hi = q.rng.lo → p.set ≠ q.set) := by
  unfold rightP at h; simp only [Bool.and_eq_true] at h; exact gapP_iff.1 h.1.2
theorem rightP_all : ∀ {k : List Pc}, rightP k = true → ∀ p ∈ k, onePc p = true
  | [], _, _, h => by cases h
  | q :: k, h, p, hp => by
    rcases List.mem_cons.1 hp with rfl | hp
    · exact rightP_head h
    · exact rightP_all (rightP_tail h) p hp
/-- What a right list has stands not ahead of its first text. -/
theorem catK_ge : ∀ {k : List Pc} {p : Pc} {s : List UInt8}, rightP (p :: k) = true → catK (p :: k) s ≠ [] → ltB s p.rng.lo = false
  | [], p, s, _, hs => by
    cases hr : hasR p.rng s with
    | true => exact hasR_ge hr
    | false => rw [catK, setP_no hr] at hs; exact absurd rfl hs
  | q :: k, p, s, h, hs => by
    cases hr : hasR p.rng s with
    | true => exact hasR_ge hr
    | false =>
      rw [catK, setP_no hr, List.nil_append] at hs
      have h1 := catK_ge (rightP_tail h) hs
      obtain ⟨h2, h3, -⟩ := rightP_gap h
      have h4 := rightR_lt (onePc_iff.1 (rightP_head h)).1 h2
      cases hc : ltB s p.rng.lo with
      | false => rfl
      | true => rw [ltB_of_lt_of_le (ltB_trans hc h4) h3] at h1; cases h1
/-- What the rest has stands not ahead of the first one's end: the first one hasn't it. -/
theorem catK_apart {p : Pc} {k : List Pc} {s : List UInt8} (h : rightP (p :: k) = true) (hs : catK k s ≠ []) : hasR p.rng s = false ∧ p.rng.op = false ∧ ltB s p.rng.hi = false := by
  cases k with
  | nil => exact absurd rfl hs
  | cons q k =>
    have h1 := catK_ge (rightP_tail h) hs
    obtain ⟨h2, h3, -⟩ := rightP_gap h
    have h4 : ltB s p.rng.hi = false := leB_trans h3 h1
    refine ⟨?_, h2, h4⟩
    cases hr : hasR p.rng s with
    | false => rfl
    | true =>
      have := hasR_ahead hr
      unfold aheadR at this
      rw [h2, Bool.false_or, h4] at this
      cases this
theorem catK_head {p : Pc} {k : List Pc} {s : List UInt8} (h : rightP (p :: k) = true) (hr : hasR p.rng s = true) : catK (p :: k) s = p.set := by
  rw [catK, setP_yes hr]
  cases hk : catK k s with
  | nil => exact List.append_nil _
  | cons x y =>
    have := (catK_apart h (by rw [hk]; exact List.cons_ne_nil _ _)).1
    rw [hr] at this; cases this
theorem catK_rest {p : Pc} {k : List Pc} {s : List UInt8} (hr : hasR p.rng s = false) : catK (p :: k) s = catK k s := by rw [catK, setP_no hr]; rfl
/-- Of right knowledge it is one piece's set, or none. -/
theorem catK_right : ∀ {k : List Pc}, rightP k = true → ∀ s, rightS (catK k s) = true
  | [], _, _ => rfl
  | p :: k, h, s => by
    cases hr : hasR p.rng s with
    | true => rw [catK_head h hr]; exact (onePc_iff.1 (rightP_head h)).2.2
    | false => rw [catK_rest hr]; exact catK_right (rightP_tail h) s
theorem atK_right {k : List Pc} (h : rightP k = true) (s : List UInt8) : atK k s = catK k s := ofS_self (catK_right h s)
theorem onePc_lo {p : Pc} (h : onePc p = true) : hasR p.rng p.rng.lo = true := hasR_lo (onePc_iff.1 h).1
theorem catK_lo {p : Pc} {k : List Pc} (h : rightP (p :: k) = true) : catK (p :: k) p.rng.lo = p.set := catK_head h (onePc_lo (rightP_head h))
theorem end_splitP {p q : Pc} {k m : List Pc} (hk : rightP (p :: k) = true) (hm : rightP (q :: m) = true) (he : p.rng.lo = q.rng.lo) (hset : p.set = q.set) (h : endLt p.rng q.rng = true) (hs : ∀ s, catK (p :: k) s = catK (q :: m) s) : False := by
  unfold endLt at h
  simp only [Bool.and_eq_true, Bool.not_eq_true'] at h
  obtain ⟨ho, h⟩ := h
  have p1 := (onePc_iff.1 (rightP_head hk)).1
  have q1 := onePc_iff.1 (rightP_head hm)
  have h1 := hs p.rng.hi
  have h2 : hasR q.rng p.rng.hi = true := by
    unfold hasR aheadR
    rw [q1.1, h, ← he, ltB_asymm (rightR_lt p1 ho)]; rfl
  rw [catK_head hm h2] at h1
  have h3 : hasR p.rng p.rng.hi = false := by
    unfold hasR aheadR; rw [ho, ltB_irrefl, Bool.false_or, Bool.and_false]
  rw [catK_rest h3] at h1
  cases k with
  | nil => exact q1.2.1 h1.symm
  | cons t k =>
    have h4 := catK_ge (rightP_tail hk) (by rw [h1]; exact q1.2.1)
    obtain ⟨-, h5, h6⟩ := rightP_gap hk
    have h7 : p.rng.hi = t.rng.lo := ltB_total h4 h5
    refine h6 h7 ?_
    rw [hset, ← h1, h7]
    exact catK_lo (rightP_tail hk)
/-- P15.4: two right lists that have the same of all texts are the same. -/
theorem rightP_unique : ∀ {k m : List Pc}, rightP k = true → rightP m = true → (∀ s, catK k s = catK m s) → k = m
  | [], [], _, _, _ => rfl
  | [], q :: m, _, hm, h => by
    have := h q.rng.lo
    rw [catK_lo hm] at this
    exact absurd this.symm (onePc_iff.1 (rightP_head hm)).2.1
  | p :: k, [], hk, _, h => by
    have := h p.rng.lo
    rw [catK_lo hk] at this
    exact absurd this (onePc_iff.1 (rightP_head hk)).2.1
  | p :: k, q :: m, hk, hm, h => by
    have p1 := onePc_iff.1 (rightP_head hk)
    have q1 := onePc_iff.1 (rightP_head hm)
    have e1 : p.rng.lo = q.rng.lo := by
      have h1 : catK (q :: m) p.rng.lo ≠ [] := by rw [← h, catK_lo hk]; exact p1.2.1
      have h2 : catK (p :: k) q.rng.lo ≠ [] := by rw [h, catK_lo hm]; exact q1.2.1
      exact ltB_total (catK_ge hm h1) (catK_ge hk h2)
    have e0 : p.set = q.set := by
      have h1 := h p.rng.lo
      rwa [catK_lo hk, e1, catK_lo hm] at h1
    have e2 : endLt p.rng q.rng = false := by
      cases hc : endLt p.rng q.rng with
      | false => rfl
      | true => exact (end_splitP hk hm e1 e0 hc h).elim
    have e3 : endLt q.rng p.rng = false := by
      cases hc : endLt q.rng p.rng with
      | false => rfl
      | true => exact (end_splitP hm hk e1.symm e0.symm hc (fun s => (h s).symm)).elim
    obtain ⟨e4, e5⟩ := end_same p1.1 q1.1 e2 e3
    obtain rfl := pc_ext (rng_ext e1 e4 e5) e0
    have key : ∀ s, catK k s = catK m s := fun s => by
      cases hr : hasR p.rng s with
      | false => have := h s; rwa [catK_rest hr, catK_rest hr] at this
      | true =>
        have h1 : catK k s = [] := by
          cases hc : catK k s with
          | nil => rfl
          | cons x y =>
            have := (catK_apart hk (by rw [hc]; exact List.cons_ne_nil _ _)).1
            rw [hr] at this; cases this
        have h2 : catK m s = [] := by
          cases hc : catK m s with
          | nil => rfl
          | cons x y =>
            have := (catK_apart hm (by rw [hc]; exact List.cons_ne_nil _ _)).1
            rw [hr] at this; cases this
        rw [h1, h2]
    rw [rightP_unique (rightP_tail hk) (rightP_tail hm) key]

/-! The right list of what is meant, edge by edge. -/
/-- The pieces that begin at an edge where something is had, and end where another thing is; o: the one that has begun. -/
def mkP (f : List UInt8 → List Kn) : List (List UInt8) → Option (List UInt8 × List Kn) → List Pc
  | [], none => []
  | [], some (lo, S) => [⟨⟨lo, [], true⟩, S⟩]
  | e :: es, none => match f e with
    | [] => mkP f es none
    | x :: y => mkP f es (some (e, x :: y))
  | e :: es, some (lo, S) => match decide (f e = S) with
    | true => mkP f es (some (lo, S))
    | false => ⟨⟨lo, e, false⟩, S⟩ :: (match f e with
      | [] => mkP f es none
      | x :: y => mkP f es (some (e, x :: y)))
theorem mkP_none_no {f : List UInt8 → List Kn} {e : List UInt8} {es : List (List UInt8)} (h : f e = []) : mkP f (e :: es) none = mkP f es none := by rw [mkP, h]
theorem mkP_none_yes {f : List UInt8 → List Kn} {e : List UInt8} {es : List (List UInt8)} (h : f e ≠ []) : mkP f (e :: es) none = mkP f es (some (e, f e)) := by
  rw [mkP]
  cases hf : f e with
  | nil => exact absurd hf h
  | cons x y => rfl
theorem mkP_on {f : List UInt8 → List Kn} {e lo : List UInt8} {S : List Kn} {es : List (List UInt8)} (h : f e = S) : mkP f (e :: es) (some (lo, S)) = mkP f es (some (lo, S)) := by rw [mkP, decide_eq_true h]
theorem mkP_end {f : List UInt8 → List Kn} {e lo : List UInt8} {S : List Kn} {es : List (List UInt8)} (h : f e ≠ S) : mkP f (e :: es) (some (lo, S)) = ⟨⟨lo, e, false⟩, S⟩ :: mkP f (e :: es) none := by simp only [mkP, decide_eq_false h]
/-- What is had of a text, told by what is had at the edges. -/
def floorP (f : List UInt8 → List Kn) : List Kn → List (List UInt8) → List UInt8 → List Kn
  | v, [], _ => v
  | v, x :: l, s => match ltB s x with | true => v | false => floorP f (f x) l s
theorem floorP_low {f : List UInt8 → List Kn} {v : List Kn} {l : List (List UInt8)} {s : List UInt8} (h : ∀ x ∈ l, ltB s x = true) : floorP f v l s = v := by
  cases l with
  | nil => rfl
  | cons x l => unfold floorP; rw [h x (List.mem_cons_self ..)]
def curP : Option (List UInt8 × List Kn) → List Kn
  | none => []
  | some x => x.2
theorem mkP_low (f : List UInt8 → List Kn) : ∀ (es : List (List UInt8)) (o : Option (List UInt8 × List Kn)) (c s : List UInt8), risingB c es = true → (∀ x, o = some x → ltB s x.1 = true) → (o = none → ltB c s = false) → (∀ x, o = some x → ltB c x.1 = false) → catK (mkP f es o) s = []
  | [], none, _, _, _, _, _, _ => rfl
  | [], some (lo, S), c, s, _, h, _, _ => by
    unfold mkP; rw [catK]
    have : hasR ⟨lo, [], true⟩ s = false := by unfold hasR; rw [h _ rfl]; simp
    rw [setP_no this]; rfl
  | e :: es, none, c, s, hr, _, h2, _ => by
    obtain ⟨h3, h4⟩ := rising_head hr
    have hse : ltB s e = true := ltB_of_le_of_lt (h2 rfl) h3
    by_cases hf : f e = []
    · rw [mkP_none_no hf]; exact mkP_low f es none e s h4 (fun x h => by cases h) (fun _ => ltB_asymm hse) (fun x h => by cases h)
    · rw [mkP_none_yes hf]; exact mkP_low f es _ e s h4 (fun x h => by injection h with h; subst h; exact hse) (fun h => by cases h) (fun x h => by injection h with h; subst h; exact ltB_irrefl _)
  | e :: es, some (lo, S), c, s, hr, h, _, hc => by
    obtain ⟨h3, h4⟩ := rising_head hr
    have hsl : ltB s lo = true := h _ rfl
    have h5 : ltB lo e = true := ltB_of_le_of_lt (hc _ rfl) h3
    have hse : ltB s e = true := ltB_trans hsl h5
    by_cases hf : f e = S
    · rw [mkP_on hf]; exact mkP_low f es _ e s h4 (fun x h' => by injection h' with h'; subst h'; exact hsl) (fun h => by cases h) (fun x h' => by injection h' with h'; subst h'; exact ltB_asymm h5)
    · have : hasR ⟨lo, e, false⟩ s = false := by unfold hasR; rw [hsl]; simp
      rw [mkP_end hf, catK, setP_no this, List.nil_append]
      by_cases hf : f e = []
      · rw [mkP_none_no hf]; exact mkP_low f es none e s h4 (fun x h => by cases h) (fun _ => ltB_asymm hse) (fun x h => by cases h)
      · rw [mkP_none_yes hf]; exact mkP_low f es _ e s h4 (fun x h => by injection h with h; subst h; exact hse) (fun h => by cases h) (fun x h => by injection h with h; subst h; exact ltB_irrefl _)
/-- What the list has. -/
theorem mkP_has (f : List UInt8 → List Kn) : ∀ (es : List (List UInt8)) (o : Option (List UInt8 × List Kn)) (c s : List UInt8), risingB c es = true → (∀ x ∈ es, x.length ≤ 17) → (∀ x, o = some x → x.1.length ≤ 17 ∧ ltB c x.1 = false ∧ ltB s x.1 = false) → catK (mkP f es o) s = floorP f (curP o) es s
  | [], none, _, _, _, _, _ => rfl
  | [], some (lo, S), c, s, _, _, h => by
    obtain ⟨h1, _, h3⟩ := h _ rfl
    unfold mkP; rw [catK, setP_yes (by rw [hasR_open h1, h3]; rfl)]
    exact List.append_nil _
  | e :: es, none, c, s, hr, hl, _ => by
    obtain ⟨h3, h4⟩ := rising_head hr
    have hl' : ∀ x ∈ es, x.length ≤ 17 := fun x hx => hl x (List.mem_cons_of_mem _ hx)
    have he := hl e (List.mem_cons_self ..)
    unfold floorP
    cases hse : ltB s e with
    | true =>
      by_cases hf : f e = []
      · rw [mkP_none_no hf]; exact mkP_low f es none e s h4 (fun x h => by cases h) (fun _ => ltB_asymm hse) (fun x h => by cases h)
      · rw [mkP_none_yes hf]; exact mkP_low f es _ e s h4 (fun x h => by injection h with h; subst h; exact hse) (fun h => by cases h) (fun x h => by injection h with h; subst h; exact ltB_irrefl _)
    | false =>
      by_cases hf : f e = []
      · rw [mkP_none_no hf, hf]; exact mkP_has f es none e s h4 hl' (fun x h => by cases h)
      · rw [mkP_none_yes hf]; exact mkP_has f es (some (e, f e)) e s h4 hl' (fun x h => by injection h with h; subst h; exact ⟨he, ltB_irrefl _, hse⟩)
  | e :: es, some (lo, S), c, s, hr, hl, h => by
    obtain ⟨h3, h4⟩ := rising_head hr
    obtain ⟨k1, k2, k3⟩ := h _ rfl
    have hl' : ∀ x ∈ es, x.length ≤ 17 := fun x hx => hl x (List.mem_cons_of_mem _ hx)
    have he := hl e (List.mem_cons_self ..)
    have h5 : ltB lo e = true := ltB_of_le_of_lt k2 h3
    unfold floorP
    by_cases hf : f e = S
    · rw [mkP_on hf, mkP_has f es (some (lo, S)) e s h4 hl' (fun x h' => by injection h' with h'; subst h'; exact ⟨k1, ltB_asymm h5, k3⟩)]
      cases hse : ltB s e with
      | true => exact floorP_low fun x hx => ltB_trans hse (rising_all h4 x hx)
      | false => rw [hf]; rfl
    · rw [mkP_end hf, catK]
      have hh : hasR ⟨lo, e, false⟩ s = ltB s e := by rw [hasR_shut k1 he h5, k3]; rfl
      cases hse : ltB s e with
      | true =>
        rw [hse] at hh
        rw [setP_yes hh]
        have : catK (mkP f (e :: es) none) s = [] := by
          by_cases hf : f e = []
          · rw [mkP_none_no hf]; exact mkP_low f es none e s h4 (fun x h => by cases h) (fun _ => ltB_asymm hse) (fun x h => by cases h)
          · rw [mkP_none_yes hf]; exact mkP_low f es _ e s h4 (fun x h => by injection h with h; subst h; exact hse) (fun h => by cases h) (fun x h => by injection h with h; subst h; exact ltB_irrefl _)
        rw [this]
        exact List.append_nil _
      | false =>
        rw [hse] at hh
        rw [setP_no hh, List.nil_append]
        by_cases hf : f e = []
        · rw [mkP_none_no hf, hf]; exact mkP_has f es none e s h4 hl' (fun x h => by cases h)
        · rw [mkP_none_yes hf]; exact mkP_has f es (some (e, f e)) e s h4 hl' (fun x h => by injection h with h; subst h; exact ⟨he, ltB_irrefl _, hse⟩)
theorem mkP_first (f : List UInt8 → List Kn) : ∀ (es : List (List UInt8)) (o : Option (List UInt8 × List Kn)) (c : List UInt8) (t : Pc) (m : List Pc), risingB c es = true → mkP f es o = t :: m → (∀ x, o = some x → t.rng.lo = x.1 ∧ t.set = x.2) ∧ (o = none → ltB c t.rng.lo = true)
  | [], none, _, _, _, _, h => by cases h
  | [], some (lo, S), _, t, m, _, h => by
    unfold mkP at h; injection h with h h'; subst h
    exact ⟨(fun x e => by injection e with e; subst e; exact ⟨rfl, rfl⟩), (fun e => by cases e)⟩
  | e :: es, none, c, t, m, hr, h => by
    obtain ⟨h3, h4⟩ := rising_head hr
    refine ⟨(fun x e => by cases e), fun _ => ?_⟩
    by_cases hf : f e = []
    · rw [mkP_none_no hf] at h; exact ltB_trans h3 ((mkP_first f es none e t m h4 h).2 rfl)
    · rw [mkP_none_yes hf] at h; rw [((mkP_first f es _ e t m h4 h).1 _ rfl).1]; exact h3
  | e :: es, some (lo, S), c, t, m, hr, h => by
    obtain ⟨h3, h4⟩ := rising_head hr
    refine ⟨fun x e' => ?_, (fun e => by cases e)⟩
    injection e' with e'; subst e'
    by_cases hf : f e = S
    · rw [mkP_on hf] at h; exact (mkP_first f es _ e t m h4 h).1 _ rfl
    · rw [mkP_end hf] at h; injection h with h h'; subst h; exact ⟨rfl, rfl⟩
theorem onePc_of {r : Rng} {S : List Kn} (h1 : rightR r = true) (h2 : S ≠ []) (h3 : rightS S = true) : onePc ⟨r, S⟩ = true := onePc_iff.2 ⟨h1, h2, h3⟩
/-- The list is right. -/
theorem mkP_right (f : List UInt8 → List Kn) (hf9 : ∀ s, rightS (f s) = true) : ∀ (es : List (List UInt8)) (o : Option (List UInt8 × List Kn)) (c : List UInt8), risingB c es = true → (∀ x ∈ es, x.length ≤ 17) → (∀ x, o = some x → x.1.length ≤ 17 ∧ ltB c x.1 = false ∧ x.2 ≠ [] ∧ rightS x.2 = true) → rightP (mkP f es o) = true
  | [], none, _, _, _, _ => rfl
  | [], some (lo, S), _, _, _, h => by
    obtain ⟨h1, -, h2, h3⟩ := h _ rfl
    exact onePc_of (rightR_iff.2 ⟨h1, by simp, fun _ => rfl, (fun h => by cases h)⟩) h2 h3
  | e :: es, none, c, hr, hl, _ => by
    obtain ⟨h3, h4⟩ := rising_head hr
    have hl' : ∀ x ∈ es, x.length ≤ 17 := fun x hx => hl x (List.mem_cons_of_mem _ hx)
    have he := hl e (List.mem_cons_self ..)
    by_cases hf : f e = []
    · rw [mkP_none_no hf]; exact mkP_right f hf9 es none e h4 hl' (fun x h => by cases h)
    · rw [mkP_none_yes hf]; exact mkP_right f hf9 es _ e h4 hl' (fun x h => by injection h with h; subst h; exact ⟨he, ltB_irrefl _, hf, hf9 e⟩)
  | e :: es, some (lo, S), c, hr, hl, h => by
    obtain ⟨h3, h4⟩ := rising_head hr
    obtain ⟨k1, k2, k3, k4⟩ := h _ rfl
    have hl' : ∀ x ∈ es, x.length ≤ 17 := fun x hx => hl x (List.mem_cons_of_mem _ hx)
    have he := hl e (List.mem_cons_self ..)
    have h5 : ltB lo e = true := ltB_of_le_of_lt k2 h3
    by_cases hf : f e = S
    · rw [mkP_on hf]; exact mkP_right f hf9 es _ e h4 hl' (fun x h' => by injection h' with h'; subst h'; exact ⟨k1, ltB_asymm h5, k3, k4⟩)
    · have hp : onePc ⟨⟨lo, e, false⟩, S⟩ = true := onePc_of (right_shut k1 he h5) k3 k4
      rw [mkP_end hf]
      by_cases hn : f e = []
      · rw [mkP_none_no hn]
        have h6 := mkP_right f hf9 es none e h4 hl' (fun x h => by cases h)
        cases hm : mkP f es none with
        | nil => exact hp
        | cons t m =>
          rw [hm] at h6
          have h7 := (mkP_first f es none e t m h4 hm).2 rfl
          have h8 : gapP ⟨⟨lo, e, false⟩, S⟩ t = true := gapP_iff.2 ⟨rfl, ltB_asymm h7, fun (e1 : e = t.rng.lo) => by rw [← e1, ltB_irrefl] at h7; cases h7⟩
          unfold rightP; rw [hp, h8, h6]; rfl
      · rw [mkP_none_yes hn]
        have h6 := mkP_right f hf9 es (some (e, f e)) e h4 hl' (fun x h => by injection h with h; subst h; exact ⟨he, ltB_irrefl _, hn, hf9 e⟩)
        cases hm : mkP f es (some (e, f e)) with
        | nil => exact hp
        | cons t m =>
          rw [hm] at h6
          obtain ⟨h7, h7'⟩ := (mkP_first f es _ e t m h4 hm).1 _ rfl
          simp only at h7 h7'
          have h8 : gapP ⟨⟨lo, e, false⟩, S⟩ t = true := gapP_iff.2 ⟨rfl, by rw [h7]; exact ltB_irrefl _, fun _ => by rw [h7']; exact fun e => hf e.symm⟩
          unfold rightP; rw [hp, h8, h6]; rfl
/-- Is it told by these edges what is had of a text? -/
def DetP (f : List UInt8 → List Kn) (E : List (List UInt8)) : Prop := ∀ s c, (∀ x ∈ E, ltB s x = ltB c x) → f s = f c
theorem floorP_det (f : List UInt8 → List Kn) (s : List UInt8) : ∀ (es D : List (List UInt8)) (c : List UInt8), risingB c es = true → (∀ x ∈ D, ltB c x = false) → ltB s c = false → DetP f (D ++ es) → floorP f (f c) es s = f s
  | [], D, c, _, hD, hs, h => by
    refine (h s c fun x hx => ?_).symm
    rw [List.append_nil] at hx
    rw [hD x hx]
    exact leB_trans (hD x hx) hs
  | x :: l, D, c, hr, hD, hs, h => by
    obtain ⟨h3, h4⟩ := rising_head hr
    unfold floorP
    cases hx : ltB s x with
    | true =>
      refine (h s c fun y hy => ?_).symm
      rcases List.mem_append.1 hy with hy | hy
      · rw [hD y hy]; exact leB_trans (hD y hy) hs
      · have h5 := rising_all hr y hy
        rw [h5]
        rcases List.mem_cons.1 hy with rfl | hy
        · exact hx
        · exact ltB_trans hx (rising_all h4 y hy)
    | false =>
      refine floorP_det f s l (D ++ [x]) x h4 (fun y hy => ?_) hx (by rw [List.append_assoc]; exact h)
      rcases List.mem_append.1 hy with hy | hy
      · exact ltB_asymm (ltB_of_le_of_lt (hD y hy) h3)
      · rw [List.mem_singleton.1 hy]; exact ltB_irrefl _
/-- Of the empty text and rising edges, by which it is told what is had: the right list of it. -/
theorem mkP_all {f : List UInt8 → List Kn} {E : List (List UInt8)} (hf9 : ∀ s, rightS (f s) = true) (hE : EdgesOk E) (hd : DetP f E) : rightP (mkP f E none) = true ∧ ∀ s, catK (mkP f E none) s = f s := by
  obtain ⟨es, rfl, hr, hl⟩ := hE
  by_cases hf : f [] = []
  · rw [mkP_none_no hf]
    refine ⟨mkP_right f hf9 es none [] hr hl (fun x h => by cases h), fun s => ?_⟩
    rw [mkP_has f es none [] s hr hl (fun x h => by cases h)]
    have := floorP_det f s es [[]] [] hr (fun x hx => by rw [List.mem_singleton.1 hx]; exact ltB_nil _) (ltB_nil _) hd
    rwa [hf] at this
  · rw [mkP_none_yes hf]
    refine ⟨mkP_right f hf9 es _ [] hr hl (fun x h => by injection h with h; subst h; exact ⟨Nat.zero_le _, ltB_nil _, hf, hf9 []⟩), fun s => ?_⟩
    rw [mkP_has f es (some ([], f [])) [] s hr hl (fun x h => by injection h with h; subst h; exact ⟨Nat.zero_le _, ltB_nil _, ltB_nil _⟩)]
    exact floorP_det f s es [[]] [] hr (fun x hx => by rw [List.mem_singleton.1 hx]; exact ltB_nil _) (ltB_nil _) hd
end Go.Proofs.YtaodifpnfejbbaaGreat
