/-
  Several texts in one: CntD, VstPure, VstA, OpenKns, VstB, VstC, VstD, Deep, VstE, VstF.
-/
import Derived.Deep.CutRange
import Derived.Deep.Strs
import Derived.Deep.RegionHeld3
import Derived.Deep.DeepCutAuto
import Derived.Test.YtdlloobdmfoalaaMg2
/-
  Layer 13 (counts), the document's words: the right list of what is meant.
-/
namespace Go.Proofs.Ytdlloobdmfoalaa
open Go.RowKit

def RetC (w : World) (N : Nat) (l : List Rn) (e : Ending) (w' : World) : Prop := ∃ A c, e = .returned (.slice A N c) ∧ kRn.Rd w' w'.heap.size A c l ∧ Below w.heap.size w w'
/-- .. of the call's own: made since it began. -/
def RetOC (w : World) (N : Nat) (l : List Rn) (e : Ending) (w' : World) : Prop := ∃ A c, e = .returned (.slice A N c) ∧ kRn.Own w' w.heap.size (.slice A N c) l ∧ Below w.heap.size w w'
theorem RetOC.ret {w w' : World} {N : Nat} {l : List Rn} {e : Ending} (h : RetOC w N l e w') : RetC w N l e w' := by
  obtain ⟨A, c, h1, h2, h3⟩ := h
  exact ⟨A, c, h1, h2.rd, h3⟩
theorem rn_row (w : World) (x y : Int) : RowAt (w.alloc (.cells #[.int .i64 x, .int .i64 y] 45)) (w.heap.size + 1) (some ⟨w.heap.size, 0, none⟩) (kRn.row [⟨x, y⟩]) := (Kind.rd_new (k := kRn) (l := [⟨x, y⟩]) (n := 1) (by rw [kRn.row_one]; rfl) rfl (by simp)).row
theorem own_to {w : World} {base g n c D : Nat} {dn : List Rn} {r : Rn} (h : kRn.Own w base (.slice (some ⟨g, 0, none⟩) n c) (dn ++ [r])) (hn : n = (dn ++ [r]).length) (hD : dn.length = D) (y : Int) :
    kRn.Own (w.setCell ⟨g, D * 2 + 1, none⟩ (.int .i64 y)) base (.slice (some ⟨g, 0, none⟩) n c) (dn ++ [⟨r.fr, y⟩]) := by
  subst hD
  have g1 : (dn ++ [r])[dn.length]? = some r := by rw [List.getElem?_append_right (Nat.le_refl _), Nat.sub_self]; rfl
  have h1 := h.stored (j := 1) (y := ⟨r.fr, y⟩) (v := .int .i64 y) hn g1 (by decide) rfl
  rwa [show (dn ++ [r]).set dn.length ⟨r.fr, y⟩ = dn ++ [⟨r.fr, y⟩] from by simp] at h1
set_option maxRecDepth 100000 in
set_option maxHeartbeats 8000000 in
theorem ref_cmake_own (op : Int) (A B : Option Addr) (c d n m : Nat) (a b : List Rn) (hn : n = a.length) (hm : m = b.length) (hnl : n ≤ 100000) (hml : m ≤ 100000) (U : List Rn) (hU : makeC op a b = U) (N : Nat) (hN : U.length = N) (w : World) (ha : kRn.Rd w w.heap.size A c a) (hb : kRn.Rd w w.heap.size B d b) :
    Calls Try.prog 46 #[.int .i64 op, .slice A n c, .slice B m d] w (RetOC w N U) := by
  have HA := Lib.hid ha
  have HB := Lib.hid hb
  obtain ⟨E, hE⟩ : ∃ E, edgesC a b = E := ⟨_, rfl⟩
  obtain ⟨M, hM⟩ : ∃ M, E.length = M := ⟨_, rfl⟩
  have ED := fun w ha hb => Lib.hid (ref_cedges A B c d n m a b hn hm hnl hml M (by rw [hE]; exact hM) w ha hb)
  have HEB := Lib.hid (show ∀ x ∈ E, 0 < x ∧ x ≤ 1099511627777 from fun x hx => by
    have h := edgesC_ok a b
    rw [hE] at h
    exact ⟨upC_all h.1 x hx, h.2.1 x hx⟩)
  have hM9 : M ≤ 400000 := by
    have h1 := edges_lenC b (a.foldl addC [])
    have h2 := edges_lenC a []
    simp only [List.length_nil] at h2
    unfold edgesC at hE
    rw [hE] at h1
    omega
  obtain ⟨f, hf⟩ : ∃ f, isC op a b = f := ⟨_, rfl⟩
  have HF := Lib.hid (show ∀ x, gC op (hasC a x) (hasC b x) = f x from fun x => by rw [← hf]; rfl)
  have HU := Lib.hid (show mkC f E none = U by rw [← hU]; unfold makeC; rw [hE, hf])
  have HNN := Lib.hid hN
  have HM := Lib.hid hM
  have HNA := Lib.hid hn
  have HNB := Lib.hid hm
  rw [hE] at ED
  clear hE hf hU hn hm ha hb hN hM
  go_enter Try.func46, Try.ntmps46
  go_wp2_with ((with_reducible refine (ED _ HA.out HB.out).out.mono ?_); rintro e w1 ⟨A1, c1, rfl, hrd, hb1⟩; have HD := Lib.hid hrd; have HB1 := Lib.hid hb1; clear hrd hb1)
  clear ED
  have hmc : M ≤ c1 := by rw [← HM.out]; exact HD.out.room
  go_loopw [8, 9] (fun v i wr => ∃ (k : Nat) (o : Option Rn) (dn : List Rn), k ≤ M ∧ Hid (U = dn ++ mkC f (E.drop k) o) ∧ Hid (kRn.Own wr w1.heap.size v (dn ++ o.toList)) ∧ Hid (o = none → dn = []) ∧ (dn ++ o.toList).length ≤ k ∧ i = .int .i64 k ∧ Hid (Below w1.heap.size w1 wr)) (fun _ i _ => M - (intOf i).toNat)
  case atStart => exact ⟨0, none, [], by omega, HU.out.symm, Kind.Own.nil _ _, fun _ => rfl, by simp, rfl, Below.refl _ _⟩
  case round =>
    obtain ⟨k, o, dn, hk, HL, HO, HE0, hol, rfl, HBW⟩ := hrel
    obtain ⟨n9, hn9⟩ : ∃ n9, (dn ++ o.toList).length = n9 := ⟨_, rfl⟩
    obtain ⟨A9, c9, rfl, -⟩ := HO.out.read_n hn9.symm
    have HN9 := Lib.hid hn9
    rw [hn9] at hol
    clear hn9
    have hkw : IntKind.i64.wrap ((k : Int) + 1) = (k : Int) + 1 := IntWalk.i64_in _ (by omega)
    by_cases hlt : k + 1 < M
    · obtain ⟨X, hgx, hdx, hmx⟩ := cnt_get (l := E) (k := k) (by have := HM.out; omega)
      obtain ⟨Y, hgy, hdy, hmy⟩ := cnt_get (l := E) (k := k + 1) (by have := HM.out; omega)
      obtain ⟨b1, o1, rfl, hbl1, hcell⟩ := its_at HD.out (by have := HM.out; omega)
      have e0 := ((bcell HBW.out).1 _ _ hbl1).trans (hcell k X hgx)
      have e1 := ((bcell HBW.out).1 _ _ hbl1).trans (hcell (k + 1) Y hgy)
      have hX9 := HEB.out X hmx
      have hY9 := HEB.out Y hmy
      have hXw : IntKind.i64.wrap (X - 1) = X - 1 := IntWalk.i64_in _ (by omega)
      have hYw : IntKind.i64.wrap (Y - 1) = Y - 1 := IntWalk.i64_in _ (by omega)
      have hk0 : (0 : Int) ≤ (k : Int) := by omega
      have hkn : (k : Int) < (M : Int) := by omega
      have hk1 : (0 : Int) ≤ (k : Int) + 1 := by omega
      have hkn1 : (k : Int) + 1 < (M : Int) := by omega
      have hkd : decide ((k : Int) + 1 < (M : Int)) = true := decide_eq_true (by omega)
      have hkd2 : decide (k + 1 < M) = true := decide_eq_true hlt
      have HRW := fun W : World => Lib.hid (rn_row W X (Y - 1))
      have HLE := Lib.hid (show (dn ++ o.toList).length + [(⟨X, Y - 1⟩ : Rn)].length ≤ 1000000 by rw [HN9.out, List.length_singleton]; omega)
      obtain ⟨x, hx⟩ : ∃ x, hasC a X = x := ⟨_, rfl⟩
      obtain ⟨y, hy⟩ : ∃ y, hasC b X = y := ⟨_, rfl⟩
      obtain ⟨v, hv⟩ : ∃ v, gC op x y = v := ⟨_, rfl⟩
      have hfx : f X = v := by rw [← HF.out, hx, hy, hv]
      have CA := Lib.hid (fun (L : List (Addr × Value)) => fun (W : World) (hC : CellL wr L W) => (ref_chas A c n a X HNA.out x hx W (HA.out.call (HB1.out.trans ((HBW.out.trans ((cellL_size hC).mono HBW.out.size)).mono HB1.out.size)))).mono fun (e : Ending) (W' : World) ⟨h1, h2⟩ => (⟨h1, cellL_call h2 hC⟩ : e = Ending.returned (.bool x) ∧ CellL wr L W'))
      have CB := Lib.hid (fun (L : List (Addr × Value)) => fun (W : World) (hC : CellL wr L W) => (ref_chas B d m b X HNB.out y hy W (HB.out.call (HB1.out.trans ((HBW.out.trans ((cellL_size hC).mono HBW.out.size)).mono HB1.out.size)))).mono fun (e : Ending) (W' : World) ⟨h1, h2⟩ => (⟨h1, cellL_call h2 hC⟩ : e = Ending.returned (.bool y) ∧ CellL wr L W'))
      have HC := Lib.hid (show CellL wr [(⟨b1, o1 + k, none⟩, .int .i64 X), (⟨b1, o1 + (k + 1), none⟩, .int .i64 Y)] wr from ⟨e0, e1, Below.refl _ _⟩)
      have HV := Lib.hid hv
      have HL1 := Lib.hid (fun h : v = false => show U = dn ++ mkC f (E.drop (k + 1)) o from HL.out.trans (by rw [hdx, hdy, mkC_out (hfx.trans h)]))
      have HL2 := Lib.hid (fun h : v = true => fun h' : o = none => show U = dn ++ mkC f (E.drop (k + 1)) (some ⟨X, Y - 1⟩) from HL.out.trans (by rw [hdx, hdy, h', mkC_on (hfx.trans h)]))
      have HL3 := Lib.hid (fun h : v = true => fun (r : Rn) (h' : o = some r) (h2 : r.to = X - 1) => show U = dn ++ mkC f (E.drop (k + 1)) (some ⟨r.fr, Y - 1⟩) from HL.out.trans (by rw [hdx, hdy, h', mkC_more (hfx.trans h) h2]))
      have HL4 := Lib.hid (fun h : v = true => fun (r : Rn) (h' : o = some r) (h2 : r.to ≠ X - 1) => show U = (dn ++ [r]) ++ mkC f (E.drop (k + 1)) (some ⟨X, Y - 1⟩) from HL.out.trans (by rw [hdx, hdy, h', mkC_next (hfx.trans h) h2, List.append_assoc]; rfl))
      clear hcell hgx hgy hdx hdy hmx hmy hx hy hv hfx HL e0 e1
      go_wp2_with fail
      refine q_region (CellL wr [(⟨b1, o1 + k, none⟩, .int .i64 X), (⟨b1, o1 + (k + 1), none⟩, .int .i64 Y)]) (by kernel_rfl) (by kernel_rfl) (cellL_drew HC.out) ?_
      repeat (first
        | go_big_quiet_skip
        | (go_big_quiet_want; (first
          | (refine q_take (v := ?_) ?_ ?_; rotate_left; (focus (intro w hSw; (try simp only [CellL] at hSw); go_split_ands; go_simp; (try (rw [if_neg (by omega)])); (try with_reducible rfl); done)))
          | (refine q_call (CA.out _) ?_ ?_; (focus (intro w hSw; (try simp only [CellL] at hSw); go_split_ands; go_simp; (try (rw [if_neg (by omega)])); done)))
          | (refine q_call (CB.out _) ?_ ?_; (focus (intro w hSw; (try simp only [CellL] at hSw); go_split_ands; go_simp; (try (rw [if_neg (by omega)])); done)))); (try simp only [Act.put, List.setIfInBounds_toArray, List.set_cons_zero, List.set_cons_succ]); go_big_quiet_on))
      refine wpQuiet_nil ?_
      intro w2 hw2
      have HO2 := Lib.hid (HO.out.below (cellL_size hw2))
      have HB2 := Lib.hid (HBW.out.trans ((cellL_size hw2).mono HBW.out.size))
      simp only [CellL] at hw2
      obtain ⟨e0, e1, -⟩ := hw2
      clear CA CB HC HO HBW
      go_upto_region 7 with fail
      go_cut [63] from 15 to 107 (fun s wx => s = .bool (!v) ∧ wx = w2)
      case first =>
        have HV := HV.out
        clear HL1 HL2 HL3 HL4 HRW HLE
        by_cases p1 : op = 1
        · subst p1
          cases x <;> cases y
          all_goals
            go_wp2_with fail
            go_meet
            exact ⟨by rw [← HV]; rfl, rfl⟩
        · have n1 : (op == 1) = false := beq_eq_false_iff_ne.2 p1
          by_cases p2 : op = 2
          · subst p2
            cases x <;> cases y
            all_goals
              go_wp2_with fail
              go_meet
              exact ⟨by rw [← HV]; rfl, rfl⟩
          · have n2 : (op == 2) = false := beq_eq_false_iff_ne.2 p2
            by_cases p3 : op = 3
            · subst p3
              cases x <;> cases y
              all_goals
                go_wp2_with fail
                go_meet
                exact ⟨by rw [← HV]; rfl, rfl⟩
            · have n3 : (op == 3) = false := beq_eq_false_iff_ne.2 p3
              have HG : gC op x y = false := by unfold gC; rw [n1, n2, n3]; rfl
              have HW := Lib.hid (HV.symm.trans HG)
              clear HV HG p1 p2 p3
              cases x <;> cases y
              all_goals
                go_wp2_with fail
                go_meet
                exact ⟨by rw [HW.out]; rfl, rfl⟩
      case rest =>
        obtain ⟨rfl, rfl⟩ := hcut
        clear HV
        cases v
        · replace HL1 := Lib.hid (HL1.out rfl)
          clear HL2 HL3 HL4
          go_wp2_with fail
          go_roundw
          case rel => exact ⟨k + 1, o, dn, by omega, HL1, HO2, HE0, by rw [HN9.out]; omega, by go_num, HB2⟩
          case measure => simp [intOf]; omega
        · clear HL1
          cases o with
          | none =>
            replace HL2 := Lib.hid (HL2.out rfl rfl)
            obtain rfl := HE0.out rfl
            obtain rfl : n9 = 0 := HN9.out.symm
            clear HL3 HL4 HE0
            have HC2 := Lib.hid (show CellL wc [(⟨b1, o1 + k, none⟩, .int .i64 X), (⟨b1, o1 + (k + 1), none⟩, .int .i64 Y)] wc from ⟨e0, e1, Below.refl _ _⟩)
            go_wp2_with fail
            clear e0 e1
            refine q_region (CellL wc [(⟨b1, o1 + k, none⟩, .int .i64 X), (⟨b1, o1 + (k + 1), none⟩, .int .i64 Y)]) (by kernel_rfl) (by kernel_rfl) (cellL_drew HC2.out) ?_
            repeat (first
              | go_big_quiet_skip
              | (go_big_quiet_want; (first
                | (refine q_take (v := ?_) ?_ ?_; rotate_left; (focus (intro w hSw; (try simp only [CellL] at hSw); go_split_ands; go_simp; (try (rw [if_neg (by omega)])); (try with_reducible rfl); done)))); (try simp only [Act.put, List.setIfInBounds_toArray, List.set_cons_zero, List.set_cons_succ]); go_big_quiet_on))
            refine wpQuiet_nil ?_
            intro w3 hw3
            have HO3 := Lib.hid (HO2.out.below (cellL_size hw3))
            have HB3 := Lib.hid (HB2.out.trans ((cellL_size hw3).mono HB2.out.size))
            simp only [CellL] at hw3
            obtain ⟨e0, e1, -⟩ := hw3
            clear HC2 HO2
            go_upto_region 10 with fail
            have HCL := Lib.hid (show CellL w1 [(⟨b1, o1 + k, none⟩, .int .i64 X), (⟨b1, o1 + (k + 1), none⟩, .int .i64 Y)] w3 from ⟨e0, e1, HB3.out⟩)
            clear e0 e1
            refine wp_region_noPanic ?_
            refine wp_region_held_drew (S := CellL w1 [(⟨b1, o1 + k, none⟩, .int .i64 X), (⟨b1, o1 + (k + 1), none⟩, .int .i64 Y)]) (by kernel_rfl) (cellL_drew HCL.out) (fun hHeld => ?_)
            refine take_yes (i := 0) (v := ?_) rfl (by kernel_rfl) (by kernel_rfl) (by kernel_rfl) (fun _ _ _ h => h) (by rfl) (by assumption) ?_ ?_; rotate_left; (focus ((intro w hSw); (try simp only [CellL] at hSw); go_split_ands; go_simp; (try with_reducible rfl); done))
            (try simp only [Act.put, List.setIfInBounds_toArray, List.set_cons_zero, List.set_cons_succ])
            refine take_yes (i := 1) (v := ?_) rfl (by kernel_rfl) (by kernel_rfl) (by kernel_rfl) (fun _ _ _ h => h) (by rfl) (by assumption) ?_ ?_; rotate_left; (focus ((intro w hSw); (try simp only [CellL] at hSw); go_split_ands; go_simp; (try with_reducible rfl); done))
            (try simp only [Act.put, List.setIfInBounds_toArray, List.set_cons_zero, List.set_cons_succ])
            refine take_yes (i := 2) (v := ?_) rfl (by kernel_rfl) (by kernel_rfl) (by kernel_rfl) (fun _ _ _ h => h) (by rfl) (by assumption) ?_ ?_; rotate_left; (focus ((intro w hSw); (try simp only [CellL] at hSw); go_split_ands; go_simp; (try with_reducible rfl); done))
            (try simp only [Act.put, List.setIfInBounds_toArray, List.set_cons_zero, List.set_cons_succ])
            refine take_yes (i := 3) (v := ?_) rfl (by kernel_rfl) (by kernel_rfl) (by kernel_rfl) (fun _ _ _ h => h) (by rfl) (by assumption) ?_ ?_; rotate_left; (focus ((intro w hSw); (try simp only [CellL] at hSw); go_split_ands; go_simp; (try with_reducible rfl); done))
            (try simp only [Act.put, List.setIfInBounds_toArray, List.set_cons_zero, List.set_cons_succ])
            refine take_yes (i := 4) (v := ?_) rfl (by kernel_rfl) (by kernel_rfl) (by kernel_rfl) (fun _ _ _ h => h) (by rfl) (by assumption) ?_ ?_; rotate_left; (focus ((intro w hSw); (try simp only [CellL] at hSw); go_split_ands; go_simp; (try with_reducible rfl); done))
            (try simp only [Act.put, List.setIfInBounds_toArray, List.set_cons_zero, List.set_cons_succ])
            refine take_yes (i := 5) (v := ?_) rfl (by kernel_rfl) (by kernel_rfl) (by kernel_rfl) (fun _ _ _ h => h) (by rfl) (by assumption) ?_ ?_; rotate_left; (focus ((intro w hSw); (try simp only [CellL] at hSw); go_split_ands; go_simp; (try with_reducible rfl); done))
            (try simp only [Act.put, List.setIfInBounds_toArray, List.set_cons_zero, List.set_cons_succ])
            refine take_yes (i := 6) (v := ?_) rfl (by kernel_rfl) (by kernel_rfl) (by kernel_rfl) (fun _ _ _ h => h) (by rfl) (by assumption) ?_ ?_; rotate_left; (focus ((intro w hSw); (try simp only [CellL] at hSw); go_split_ands; go_simp; (try with_reducible rfl); done))
            (try simp only [Act.put, List.setIfInBounds_toArray, List.set_cons_zero, List.set_cons_succ])
            refine take_yes (i := 7) (v := ?_) rfl (by kernel_rfl) (by kernel_rfl) (by kernel_rfl) (fun _ _ _ h => h) (by rfl) (by assumption) ?_ ?_; rotate_left; (focus ((intro w hSw); (try simp only [CellL] at hSw); go_split_ands; go_simp; (try with_reducible rfl); done))
            (try simp only [Act.put, List.setIfInBounds_toArray, List.set_cons_zero, List.set_cons_succ])
            refine take_yes (i := 8) (v := ?_) rfl (by kernel_rfl) (by kernel_rfl) (by kernel_rfl) (fun _ _ _ h => h) (by rfl) (by assumption) ?_ ?_; rotate_left; (focus ((intro w hSw); (try simp only [CellL] at hSw); go_split_ands; go_simp; (try with_reducible rfl); done))
            (try simp only [Act.put, List.setIfInBounds_toArray, List.set_cons_zero, List.set_cons_succ])
            refine take_yes (i := 9) (v := ?_) rfl (by kernel_rfl) (by kernel_rfl) (by kernel_rfl) (fun _ _ _ h => h) (by rfl) (by assumption) ?_ ?_; rotate_left; (focus ((intro w hSw); (try simp only [CellL] at hSw); go_split_ands; go_simp; (try with_reducible rfl); done))
            (try simp only [Act.put, List.setIfInBounds_toArray, List.set_cons_zero, List.set_cons_succ])
            refine take_yes (i := 10) (v := ?_) rfl (by kernel_rfl) (by kernel_rfl) (by kernel_rfl) (fun _ _ _ h => h) (by rfl) (by assumption) ?_ ?_; rotate_left; (focus ((intro w hSw); (try simp only [CellL] at hSw); go_split_ands; go_simp; (try with_reducible rfl); done))
            (try simp only [Act.put, List.setIfInBounds_toArray, List.set_cons_zero, List.set_cons_succ])
            refine take_yes (i := 11) (v := ?_) rfl (by kernel_rfl) (by kernel_rfl) (by kernel_rfl) (fun _ _ _ h => h) (by rfl) (by assumption) ?_ ?_; rotate_left; (focus ((intro w hSw); (try simp only [CellL] at hSw); go_split_ands; go_simp; (try with_reducible rfl); done))
            (try simp only [Act.put, List.setIfInBounds_toArray, List.set_cons_zero, List.set_cons_succ])
            refine call_one (i := 12) rfl (by kernel_rfl) (by rfl) (fun K hK => ?_)
            go_simp
            refine hK.out _ _ (cellL_call (below_new _ _) (by assumption)) (fun hHeld => ?_)
            clear hK K
            (try simp only [Act.put, List.setIfInBounds_toArray, List.set_cons_zero, List.set_cons_succ])
            have HOd := Lib.hid (show kRn.Own w3.drew w1.heap.size _ _ from HO3.out)
            have HBd := Lib.hid HB3.out.drew
            refine call_one (i := 13) rfl (by kernel_rfl) (by rfl) (fun K hK => ?_)
            refine op_app_k kRn (.tmp 94) (.tmp 106) rfl w1.heap.size _ _ rfl (Kind.Own.alloc HOd.out _) _ (some ⟨w3.heap.size, 0, none⟩) 1 1 [⟨X, Y - 1⟩] rfl rfl (HRW w3.drew).out HLE.out (by decide) (cle_alloc HBd.out.size _) ?_
            intro v5 w5 hown5 hg5 hb5 _
            have HO5 := Lib.hid hown5
            have HB5 := Lib.hid ((HBd.out.alloc HBd.out.size _).trans hb5)
            refine hK.out _ _ ⟨((bcell hb5).1 _ _ hbl1).trans ((alloc_keeps w3.drew _ _ _ (Nat.lt_of_lt_of_le hbl1 HB3.out.size)).trans HCL.out.1), ((bcell hb5).1 _ _ hbl1).trans ((alloc_keeps w3.drew _ _ _ (Nat.lt_of_lt_of_le hbl1 HB3.out.size)).trans HCL.out.2.1), HB5.out⟩ (fun hHeld => ?_)
            clear hK K hown5 hg5 hb5
            (try simp only [Act.put, List.setIfInBounds_toArray, List.set_cons_zero, List.set_cons_succ])
            refine take_yes (i := 14) (v := ?_) rfl (by kernel_rfl) (by kernel_rfl) (by kernel_rfl) (fun _ _ _ h => h) (by rfl) (by assumption) ?_ ?_; rotate_left; (focus ((intro w hSw); (try simp only [CellL] at hSw); go_split_ands; go_simp; (try with_reducible rfl); done))
            (try simp only [Act.put, List.setIfInBounds_toArray, List.set_cons_zero, List.set_cons_succ])
            refine wpAnyH_done (by kernel_rfl) ?_ _
            refine NoPanic.normal ?_
            clear hHeld
            go_wp2_with fail
            go_roundw
            case rel => exact ⟨k + 1, some ⟨X, Y - 1⟩, [], by omega, HL2, HO5, (fun h => by cases h), by simp, by go_num, HB5⟩
            case measure => simp [intOf]; omega
          | some r =>
            obtain ⟨D, hD⟩ : ∃ D, dn.length = D := ⟨_, rfl⟩
            obtain rfl : n9 = D + 1 := by rw [← HN9.out, List.length_append, hD]; rfl
            have hga : (dn ++ [r])[D]? = some r := by rw [← hD, List.getElem?_append_right (Nat.le_refl _), Nat.sub_self]; rfl
            have hLn : D + 1 = (dn ++ [r]).length := HN9.out.symm
            obtain ⟨g, cp, hv9, hcp, hgb, -, -, -⟩ := HO2.out.some_ hLn (by omega)
            injection hv9 with hA9 _ hc9
            subst hA9 hc9
            obtain ⟨-, hgl, hfz, hcs⟩ := HO2.out.at_g hLn (by omega)
            have t0 := hcs D r hga 1 _ rfl
            change wc.cell? ⟨g, D * 2 + 1, none⟩ = some (.int .i64 r.to) at t0
            obtain ⟨R, hR⟩ : ∃ R, r.to = R := ⟨_, rfl⟩
            rw [hR] at t0
            have hD9 : D ≤ 500000 := by omega
            have hj0 : (0 : Int) ≤ (D : Int) := by omega
            have hjn : (D : Int) < (D : Int) + 1 := by omega
            have hjd : decide ((D : Int) < 0) = false := decide_eq_false (by omega)
            have hjp : decide ((0 : Int) < (D : Int) + 1) = true := decide_eq_true (by omega)
            have hjw : IntKind.i64.wrap ((D : Int) + 1 - 1) = (D : Int) := by rw [Int.add_sub_cancel]; exact IntWalk.i64_in _ (by omega)
            have hjw2 : IntKind.i64.wrap (D : Int) = (D : Int) := IntWalk.i64_in _ (by omega)
            have HC2 := Lib.hid (show CellL wc [(⟨b1, o1 + k, none⟩, .int .i64 X), (⟨b1, o1 + (k + 1), none⟩, .int .i64 Y), (⟨g, D * 2 + 1, none⟩, .int .i64 R)] wc from ⟨e0, e1, t0, Below.refl _ _⟩)
            obtain ⟨q, hq⟩ : ∃ q, (R == X - 1) = q := ⟨_, rfl⟩
            have HL3 := Lib.hid (fun h : q = true => HL3.out rfl r rfl (by rw [hR]; rw [h] at hq; simpa using hq))
            have HL4 := Lib.hid (fun h : q = false => HL4.out rfl r rfl (by rw [hR]; rw [h] at hq; simpa using hq))
            have HDD := Lib.hid hD
            clear HL2 HE0 hga hLn hcs hfz hD hR t0
            go_wp2_with fail
            clear e0 e1
            refine q_region (CellL wc [(⟨b1, o1 + k, none⟩, .int .i64 X), (⟨b1, o1 + (k + 1), none⟩, .int .i64 Y), (⟨g, D * 2 + 1, none⟩, .int .i64 R)]) (by kernel_rfl) (by kernel_rfl) (cellL_drew HC2.out) ?_
            repeat (first
              | go_big_quiet_skip
              | (go_big_quiet_want; (first
                | (refine q_take (v := ?_) ?_ ?_; rotate_left; (focus (intro w hSw; (try simp only [CellL] at hSw); go_split_ands; go_simp; (try (rw [if_neg (by omega)])); (try with_reducible rfl); done)))); (try simp only [Act.put, List.setIfInBounds_toArray, List.set_cons_zero, List.set_cons_succ]); go_big_quiet_on))
            refine wpQuiet_nil ?_
            intro w3 hw3
            have HO3 := Lib.hid (HO2.out.below (cellL_size hw3))
            have HB3 := Lib.hid (HB2.out.trans ((cellL_size hw3).mono HB2.out.size))
            simp only [CellL] at hw3
            obtain ⟨e0, e1, t0, -⟩ := hw3
            clear HC2 HO2
            cases q
            · replace HL4 := Lib.hid (HL4.out rfl)
              clear HL3 t0
              go_upto_region 10 with fail
              have HCL := Lib.hid (show CellL w1 [(⟨b1, o1 + k, none⟩, .int .i64 X), (⟨b1, o1 + (k + 1), none⟩, .int .i64 Y)] w3 from ⟨e0, e1, HB3.out⟩)
              clear e0 e1
              refine wp_region_noPanic ?_
              refine wp_region_held_drew (S := CellL w1 [(⟨b1, o1 + k, none⟩, .int .i64 X), (⟨b1, o1 + (k + 1), none⟩, .int .i64 Y)]) (by kernel_rfl) (cellL_drew HCL.out) (fun hHeld => ?_)
              refine take_yes (i := 0) (v := ?_) rfl (by kernel_rfl) (by kernel_rfl) (by kernel_rfl) (fun _ _ _ h => h) (by rfl) (by assumption) ?_ ?_; rotate_left; (focus ((intro w hSw); (try simp only [CellL] at hSw); go_split_ands; go_simp; (try with_reducible rfl); done))
              (try simp only [Act.put, List.setIfInBounds_toArray, List.set_cons_zero, List.set_cons_succ])
              refine take_yes (i := 1) (v := ?_) rfl (by kernel_rfl) (by kernel_rfl) (by kernel_rfl) (fun _ _ _ h => h) (by rfl) (by assumption) ?_ ?_; rotate_left; (focus ((intro w hSw); (try simp only [CellL] at hSw); go_split_ands; go_simp; (try with_reducible rfl); done))
              (try simp only [Act.put, List.setIfInBounds_toArray, List.set_cons_zero, List.set_cons_succ])
              refine take_yes (i := 2) (v := ?_) rfl (by kernel_rfl) (by kernel_rfl) (by kernel_rfl) (fun _ _ _ h => h) (by rfl) (by assumption) ?_ ?_; rotate_left; (focus ((intro w hSw); (try simp only [CellL] at hSw); go_split_ands; go_simp; (try with_reducible rfl); done))
              (try simp only [Act.put, List.setIfInBounds_toArray, List.set_cons_zero, List.set_cons_succ])
              refine take_yes (i := 3) (v := ?_) rfl (by kernel_rfl) (by kernel_rfl) (by kernel_rfl) (fun _ _ _ h => h) (by rfl) (by assumption) ?_ ?_; rotate_left; (focus ((intro w hSw); (try simp only [CellL] at hSw); go_split_ands; go_simp; (try with_reducible rfl); done))
              (try simp only [Act.put, List.setIfInBounds_toArray, List.set_cons_zero, List.set_cons_succ])
              refine take_yes (i := 4) (v := ?_) rfl (by kernel_rfl) (by kernel_rfl) (by kernel_rfl) (fun _ _ _ h => h) (by rfl) (by assumption) ?_ ?_; rotate_left; (focus ((intro w hSw); (try simp only [CellL] at hSw); go_split_ands; go_simp; (try with_reducible rfl); done))
              (try simp only [Act.put, List.setIfInBounds_toArray, List.set_cons_zero, List.set_cons_succ])
              refine take_yes (i := 5) (v := ?_) rfl (by kernel_rfl) (by kernel_rfl) (by kernel_rfl) (fun _ _ _ h => h) (by rfl) (by assumption) ?_ ?_; rotate_left; (focus ((intro w hSw); (try simp only [CellL] at hSw); go_split_ands; go_simp; (try with_reducible rfl); done))
              (try simp only [Act.put, List.setIfInBounds_toArray, List.set_cons_zero, List.set_cons_succ])
              refine take_yes (i := 6) (v := ?_) rfl (by kernel_rfl) (by kernel_rfl) (by kernel_rfl) (fun _ _ _ h => h) (by rfl) (by assumption) ?_ ?_; rotate_left; (focus ((intro w hSw); (try simp only [CellL] at hSw); go_split_ands; go_simp; (try with_reducible rfl); done))
              (try simp only [Act.put, List.setIfInBounds_toArray, List.set_cons_zero, List.set_cons_succ])
              refine take_yes (i := 7) (v := ?_) rfl (by kernel_rfl) (by kernel_rfl) (by kernel_rfl) (fun _ _ _ h => h) (by rfl) (by assumption) ?_ ?_; rotate_left; (focus ((intro w hSw); (try simp only [CellL] at hSw); go_split_ands; go_simp; (try with_reducible rfl); done))
              (try simp only [Act.put, List.setIfInBounds_toArray, List.set_cons_zero, List.set_cons_succ])
              refine take_yes (i := 8) (v := ?_) rfl (by kernel_rfl) (by kernel_rfl) (by kernel_rfl) (fun _ _ _ h => h) (by rfl) (by assumption) ?_ ?_; rotate_left; (focus ((intro w hSw); (try simp only [CellL] at hSw); go_split_ands; go_simp; (try with_reducible rfl); done))
              (try simp only [Act.put, List.setIfInBounds_toArray, List.set_cons_zero, List.set_cons_succ])
              refine take_yes (i := 9) (v := ?_) rfl (by kernel_rfl) (by kernel_rfl) (by kernel_rfl) (fun _ _ _ h => h) (by rfl) (by assumption) ?_ ?_; rotate_left; (focus ((intro w hSw); (try simp only [CellL] at hSw); go_split_ands; go_simp; (try with_reducible rfl); done))
              (try simp only [Act.put, List.setIfInBounds_toArray, List.set_cons_zero, List.set_cons_succ])
              refine take_yes (i := 10) (v := ?_) rfl (by kernel_rfl) (by kernel_rfl) (by kernel_rfl) (fun _ _ _ h => h) (by rfl) (by assumption) ?_ ?_; rotate_left; (focus ((intro w hSw); (try simp only [CellL] at hSw); go_split_ands; go_simp; (try with_reducible rfl); done))
              (try simp only [Act.put, List.setIfInBounds_toArray, List.set_cons_zero, List.set_cons_succ])
              refine take_yes (i := 11) (v := ?_) rfl (by kernel_rfl) (by kernel_rfl) (by kernel_rfl) (fun _ _ _ h => h) (by rfl) (by assumption) ?_ ?_; rotate_left; (focus ((intro w hSw); (try simp only [CellL] at hSw); go_split_ands; go_simp; (try with_reducible rfl); done))
              (try simp only [Act.put, List.setIfInBounds_toArray, List.set_cons_zero, List.set_cons_succ])
              refine call_one (i := 12) rfl (by kernel_rfl) (by rfl) (fun K hK => ?_)
              go_simp
              refine hK.out _ _ (cellL_call (below_new _ _) (by assumption)) (fun hHeld => ?_)
              clear hK K
              (try simp only [Act.put, List.setIfInBounds_toArray, List.set_cons_zero, List.set_cons_succ])
              have HOd := Lib.hid (show kRn.Own w3.drew w1.heap.size _ _ from HO3.out)
              have HBd := Lib.hid HB3.out.drew
              refine call_one (i := 13) rfl (by kernel_rfl) (by rfl) (fun K hK => ?_)
              refine op_app_k kRn (.tmp 94) (.tmp 106) rfl w1.heap.size _ _ rfl (Kind.Own.alloc HOd.out _) _ (some ⟨w3.heap.size, 0, none⟩) 1 1 [⟨X, Y - 1⟩] rfl rfl (HRW w3.drew).out HLE.out (by decide) (cle_alloc HBd.out.size _) ?_
              intro v5 w5 hown5 hg5 hb5 _
              have HO5 := Lib.hid hown5
              have HB5 := Lib.hid ((HBd.out.alloc HBd.out.size _).trans hb5)
              refine hK.out _ _ ⟨((bcell hb5).1 _ _ hbl1).trans ((alloc_keeps w3.drew _ _ _ (Nat.lt_of_lt_of_le hbl1 HB3.out.size)).trans HCL.out.1), ((bcell hb5).1 _ _ hbl1).trans ((alloc_keeps w3.drew _ _ _ (Nat.lt_of_lt_of_le hbl1 HB3.out.size)).trans HCL.out.2.1), HB5.out⟩ (fun hHeld => ?_)
              clear hK K hown5 hg5 hb5
              (try simp only [Act.put, List.setIfInBounds_toArray, List.set_cons_zero, List.set_cons_succ])
              refine take_yes (i := 14) (v := ?_) rfl (by kernel_rfl) (by kernel_rfl) (by kernel_rfl) (fun _ _ _ h => h) (by rfl) (by assumption) ?_ ?_; rotate_left; (focus ((intro w hSw); (try simp only [CellL] at hSw); go_split_ands; go_simp; (try with_reducible rfl); done))
              (try simp only [Act.put, List.setIfInBounds_toArray, List.set_cons_zero, List.set_cons_succ])
              refine wpAnyH_done (by kernel_rfl) ?_ _
              refine NoPanic.normal ?_
              clear hHeld
              go_wp2_with fail
              go_roundw
              case rel => exact ⟨k + 1, some ⟨X, Y - 1⟩, dn ++ [r], by omega, HL4, HO5, (fun h => by cases h), by show ((dn ++ [r]) ++ [_]).length ≤ k + 1; have := HN9.out; rw [List.length_append]; show (dn ++ (some r).toList).length + 1 ≤ k + 1; omega, by go_num, HB5⟩
              case measure => simp [intOf]; omega
            · replace HL3 := Lib.hid (HL3.out rfl)
              clear HL4
              obtain ⟨hg1, -, hfz, -⟩ := HO3.out.at_g HN9.out.symm (by omega)
              have HOF := Lib.hid (own_to HO3.out HN9.out.symm HDD.out (Y - 1))
              have HBF := Lib.hid (HB3.out.setCell (p := ⟨g, D * 2 + 1, none⟩) hg1 (.int .i64 (Y - 1)))
              go_wp2_with fail
              go_roundw
              case rel => exact ⟨k + 1, some ⟨r.fr, Y - 1⟩, dn, by omega, HL3, HOF, (fun h => by cases h), by show (dn ++ [_]).length ≤ k + 1; rw [List.length_append, HDD.out]; simp; omega, by go_num, HBF⟩
              case measure => simp [intOf]; omega
    · have HL2 := Lib.hid (show U = dn ++ o.toList by
        rw [HL.out]
        have h1 : (E.drop k).length ≤ 1 := by rw [List.length_drop]; have := HM.out; omega
        match E.drop k, h1 with
        | [], _ => rfl
        | [x], _ => rfl)
      have hkd : decide ((k : Int) + 1 < (M : Int)) = false := decide_eq_false (by omega)
      have hkd2 : decide (k + 1 < M) = false := decide_eq_false hlt
      go_wp2_with fail
      go_ret
      obtain rfl : n9 = N := by rw [← HN9.out, ← HL2.out]; exact HNN.out
      exact ⟨A9, c9, rfl, by rw [HL2.out]; exact HO.out.mono HB1.out.size, HB1.out.trans (HBW.out.mono HB1.out.size)⟩
theorem ref_cmake (op : Int) (A B : Option Addr) (c d n m : Nat) (a b : List Rn) (hn : n = a.length) (hm : m = b.length) (hnl : n ≤ 100000) (hml : m ≤ 100000) (U : List Rn) (hU : makeC op a b = U) (N : Nat) (hN : U.length = N) (w : World) (ha : kRn.Rd w w.heap.size A c a) (hb : kRn.Rd w w.heap.size B d b) :
    Calls Try.prog 46 #[.int .i64 op, .slice A n c, .slice B m d] w (RetC w N U) :=
  (ref_cmake_own op A B c d n m a b hn hm hnl hml U hU N hN w ha hb).mono fun _ _ h => h.ret
theorem ref_cof (A : Option Addr) (c n : Nat) (a : List Rn) (hn : n = a.length) (hnl : n ≤ 100000) (U : List Rn) (hU : ofC a = U) (N : Nat) (hN : U.length = N) (w : World) (ha : kRn.Rd w w.heap.size A c a) :
    Calls Try.prog 26 #[.slice A n c] w (RetC w N U) := by
  have C := fun (W : World) (h1 : kRn.Rd W W.heap.size A c a) (h2 : kRn.Rd W W.heap.size (some ⟨w.heap.size, 0, none⟩) 0 []) => Lib.hid (ref_cmake 1 A (some ⟨w.heap.size, 0, none⟩) c 0 n 0 a [] hn rfl hnl (by omega) U hU N hN W h1 h2)
  have HB := Lib.hid (below_new w (.cells #[] 45))
  have H1 := Lib.hid (ha.call HB.out)
  have H2 := Lib.hid (Kind.Rd.empty (k := kRn) (w.alloc (.cells #[] 45)) (w.alloc (.cells #[] 45)).heap.size (some ⟨w.heap.size, 0, none⟩) 0 (Nat.zero_le _))
  clear hn ha hU hN hnl
  go_enter Try.func26, Try.ntmps26
  go_wp2_with ((with_reducible refine (C _ H1.out H2.out).out.mono ?_); rintro e w1 ⟨A1, c1, rfl, hrd, hq⟩; have HF := Lib.hid (show RetC w N U (.returned (.slice A1 N c1)) w1 from ⟨A1, c1, rfl, hrd, HB.out.trans (hq.mono HB.out.size)⟩); clear hrd hq)
  go_ret
  exact HF.out
end Go.Proofs.Ytdlloobdmfoalaa

/-
  Plain facts on sets of versions (layer 14): which are right, which versions they have, the one right set, what is made of two. No program in this text.
-/
namespace Go.Proofs.Ytdlloobdmfoalaa

structure Kn where
  rep : Int
  runs : List Rn
theorem kn_ext {a b : Kn} (h1 : a.rep = b.rep) (h2 : a.runs = b.runs) : a = b := by cases a; cases b; simp_all
/-- All runs of a replica. -/
def partV (k : Kn) (r : Int) : List Rn := match decide (k.rep = r) with
  | true => k.runs
  | false => []
theorem partV_yes {k : Kn} {r : Int} (h : k.rep = r) : partV k r = k.runs := by unfold partV; rw [decide_eq_true h]
theorem partV_no {k : Kn} {r : Int} (h : k.rep ≠ r) : partV k r = [] := by unfold partV; rw [decide_eq_false h]
def runsV : List Kn → Int → List Rn
  | [], _ => []
  | k :: s, r => partV k r ++ runsV s r
theorem runsV_append : ∀ (a b : List Kn) (r : Int), runsV (a ++ b) r = runsV a r ++ runsV b r
  | [], _, _ => rfl
  | k :: a, b, r => by rw [List.cons_append, runsV, runsV, runsV_append a b, List.append_assoc]
theorem runsV_none : ∀ {s : List Kn} {r : Int}, (∀ k ∈ s, k.rep ≠ r) → runsV s r = []
  | [], _, _ => rfl
  | k :: s, r, h => by rw [runsV, partV_no (h k (List.mem_cons_self ..)), runsV_none fun x hx => h x (List.mem_cons_of_mem _ hx)]; rfl
def hasK (s : List Kn) (r n : Int) : Bool := decide (1 ≤ r) && (decide (r ≤ 16) && hasC (runsV s r) n)
theorem hasK_in {s : List Kn} {r n : Int} (h1 : 1 ≤ r) (h2 : r ≤ 16) : hasK s r n = hasC (runsV s r) n := by unfold hasK; rw [decide_eq_true h1, decide_eq_true h2]; rfl
theorem hasK_out {s : List Kn} {r n : Int} (h : r < 1 ∨ 16 < r) : hasK s r n = false := by
  unfold hasK
  rcases h with h | h
  · rw [decide_eq_false (by omega : ¬ 1 ≤ r)]; rfl
  · rw [decide_eq_false (by omega : ¬ r ≤ 16), Bool.false_and, Bool.and_false]
def hasS (s : List Kn) (v : Vr) : Bool := rightVr v && hasC (runsV s v.rep) v.cnt
theorem hasS_hasK (s : List Kn) (v : Vr) : hasS s v = hasK s v.rep v.cnt := by
  unfold hasS
  cases h : rightVr v with
  | true =>
    have h1 := rightVr_iff.1 h
    rw [hasK_in h1.1 h1.2.1]; rfl
  | false =>
    by_cases h1 : 1 ≤ v.rep ∧ v.rep ≤ 16
    · rw [hasK_in h1.1 h1.2]
      cases h2 : hasC (runsV s v.rep) v.cnt with
      | false => rfl
      | true =>
        have h3 := hasC_range h2
        rw [rightVr_iff.2 ⟨h1.1, h1.2, h3.1, h3.2⟩] at h; cases h
    · rw [hasK_out (by omega)]; rfl
/-! Which sets are right. -/
def oneK (k : Kn) : Bool := (match k.runs with | [] => false | _ :: _ => true) && rightC k.runs
theorem oneK_iff {k : Kn} : oneK k = true ↔ k.runs ≠ [] ∧ rightC k.runs = true := by
  unfold oneK
  cases k.runs <;> simp
def upS : Int → List Kn → Bool
  | _, [] => true
  | c, k :: s => decide (c < k.rep) && (decide (k.rep ≤ 16) && (oneK k && upS k.rep s))
theorem upS_cons {c : Int} {k : Kn} {s : List Kn} : upS c (k :: s) = true ↔ c < k.rep ∧ k.rep ≤ 16 ∧ oneK k = true ∧ upS k.rep s = true := by
  rw [upS]; simp only [Bool.and_eq_true, decide_eq_true_eq]
def rightS (s : List Kn) : Bool := upS 0 s
theorem upS_all : ∀ {s : List Kn} {c : Int}, upS c s = true → ∀ k ∈ s, c < k.rep ∧ k.rep ≤ 16 ∧ oneK k = true
  | k :: s, c, h, x, hx => by
    obtain ⟨h1, h2, h3, h4⟩ := upS_cons.1 h
    rcases List.mem_cons.1 hx with rfl | hx
    · exact ⟨h1, h2, h3⟩
    · have := upS_all h4 x hx
      exact ⟨by omega, this.2⟩
theorem upS_snoc : ∀ {s : List Kn} {c : Int} {k : Kn}, upS c s = true → c < k.rep → (∀ x ∈ s, x.rep < k.rep) → k.rep ≤ 16 → oneK k = true → upS c (s ++ [k]) = true
  | [], _, _, _, h1, _, h3, h4 => upS_cons.2 ⟨h1, h3, h4, rfl⟩
  | x :: s, c, k, h, h1, h2, h3, h4 => by
    obtain ⟨a1, a2, a3, a4⟩ := upS_cons.1 h
    exact upS_cons.2 ⟨a1, a2, a3, upS_snoc a4 (h2 x (List.mem_cons_self ..)) (fun y hy => h2 y (List.mem_cons_of_mem _ hy)) h3 h4⟩
/-- The runs of a replica, in a right set: of one Known, or none. -/
theorem upS_runs : ∀ {s : List Kn} {c r : Int}, upS c s = true → rightC (runsV s r) = true
  | [], _, _, _ => rfl
  | k :: s, c, r, h => by
    obtain ⟨h1, h2, h3, h4⟩ := upS_cons.1 h
    rw [runsV]
    by_cases e : k.rep = r
    · rw [partV_yes e, runsV_none (fun x hx => by have := (upS_all h4 x hx).1; omega), List.append_nil]
      exact (oneK_iff.1 h3).2
    · rw [partV_no e]
      exact upS_runs h4
theorem upS_same : ∀ {a b : List Kn} {c d : Int}, upS c a = true → upS d b = true → (∀ r, runsV a r = runsV b r) → a = b
  | [], [], _, _, _, _, _ => rfl
  | [], k :: b, _, _, _, hb, h => by
    obtain ⟨-, -, h3, -⟩ := upS_cons.1 hb
    have h1 := h k.rep
    rw [runsV, runsV, partV_yes rfl] at h1
    exact absurd (List.append_eq_nil_iff.1 h1.symm).1 (oneK_iff.1 h3).1
  | k :: a, [], _, _, ha, _, h => by
    obtain ⟨-, -, h3, -⟩ := upS_cons.1 ha
    have h1 := h k.rep
    rw [runsV, runsV, partV_yes rfl] at h1
    exact absurd (List.append_eq_nil_iff.1 h1).1 (oneK_iff.1 h3).1
  | k :: a, x :: b, c, d, ha, hb, h => by
    obtain ⟨-, -, h3, h4⟩ := upS_cons.1 ha
    obtain ⟨-, -, g3, g4⟩ := upS_cons.1 hb
    have ua : ∀ r, r ≤ k.rep → runsV a r = [] := fun r hr => runsV_none fun y hy => by have := (upS_all h4 y hy).1; omega
    have ub : ∀ r, r ≤ x.rep → runsV b r = [] := fun r hr => runsV_none fun y hy => by have := (upS_all g4 y hy).1; omega
    have e : k.rep = x.rep := by
      rcases Int.lt_trichotomy k.rep x.rep with e | e | e
      · have h1 := h k.rep
        rw [runsV, runsV, partV_yes rfl, partV_no (by omega), ub _ (by omega)] at h1
        exact absurd (List.append_eq_nil_iff.1 h1).1 (oneK_iff.1 h3).1
      · exact e
      · have h1 := h x.rep
        rw [runsV, runsV, partV_yes (k := x) rfl, partV_no (by omega), ua _ (by omega)] at h1
        exact absurd (List.append_eq_nil_iff.1 h1.symm).1 (oneK_iff.1 g3).1
    have e2 : k.runs = x.runs := by
      have h1 := h k.rep
      rwa [runsV, runsV, partV_yes rfl, partV_yes e.symm, ua _ (by omega), ub _ (by omega), List.append_nil, List.append_nil] at h1
    rw [kn_ext e e2, upS_same h4 g4 fun r => by
      by_cases hr : r ≤ k.rep
      · rw [ua r hr, ub r (by omega)]
      · have h1 := h r
        rwa [runsV, runsV, partV_no (by omega), partV_no (by omega)] at h1]
/-- P14.4: one right set for each set of versions. -/
theorem rightS_unique {a b : List Kn} (ha : rightS a = true) (hb : rightS b = true) (h : ∀ r n, hasK a r n = hasK b r n) : a = b :=
  upS_same ha hb fun r => by
    by_cases hr : 1 ≤ r ∧ r ≤ 16
    · exact rightC_unique (upS_runs ha) (upS_runs hb) fun n => by have := h r n; rwa [hasK_in hr.1 hr.2, hasK_in hr.1 hr.2] at this
    · rw [runsV_none fun k hk => by have := upS_all ha k hk; omega, runsV_none fun k hk => by have := upS_all hb k hk; omega]
/-! What is made, replica by replica. -/
def putK (n : Int) (l : List Rn) : List Kn := match l with
  | [] => []
  | _ :: _ => [⟨n, l⟩]
theorem putK_nil (n : Int) : putK n [] = [] := rfl
theorem putK_some {n : Int} {l : List Rn} (h : l ≠ []) : putK n l = [⟨n, l⟩] := by
  unfold putK
  cases l
  · exact absurd rfl h
  · rfl
def colS (f : Int → List Rn) : Nat → List Kn
  | 0 => []
  | k + 1 => colS f k ++ putK ((k : Int) + 1) (f ((k : Int) + 1))
theorem colS_succ (f : Int → List Rn) (k : Nat) : colS f (k + 1) = colS f k ++ putK ((k : Int) + 1) (f ((k : Int) + 1)) := rfl
theorem colS_reps (f : Int → List Rn) : ∀ (k : Nat), ∀ x ∈ colS f k, 1 ≤ x.rep ∧ x.rep ≤ k
  | 0, x, hx => by cases hx
  | k + 1, x, hx => by
    rw [colS_succ] at hx
    rcases List.mem_append.1 hx with hx | hx
    · have := colS_reps f k x hx; omega
    · by_cases h : f ((k : Int) + 1) = []
      · rw [h] at hx; cases hx
      · rw [putK_some h] at hx
        rcases List.mem_singleton.1 hx with rfl
        exact ⟨by show (1 : Int) ≤ (k : Int) + 1; omega, by show (k : Int) + 1 ≤ ((k + 1 : Nat) : Int); omega⟩
theorem colS_up {f : Int → List Rn} (hf : ∀ r, rightC (f r) = true) : ∀ {k : Nat}, k ≤ 16 → rightS (colS f k) = true
  | 0, _ => rfl
  | k + 1, hk => by
    rw [colS_succ]
    by_cases h : f ((k : Int) + 1) = []
    · rw [h, putK_nil, List.append_nil]
      exact colS_up hf (by omega)
    · rw [putK_some h]
      exact upS_snoc (colS_up hf (by omega)) (by show (0 : Int) < (k : Int) + 1; omega) (fun x hx => by have := colS_reps f k x hx; show x.rep < (k : Int) + 1; omega) (by show (k : Int) + 1 ≤ 16; omega) (oneK_iff.2 ⟨h, hf _⟩)
theorem putK_runs (n : Int) (l : List Rn) (r : Int) : runsV (putK n l) r = match decide (n = r) with | true => l | false => [] := by
  by_cases h : l = []
  · subst h
    cases decide (n = r) <;> rfl
  · rw [putK_some h, runsV, runsV, List.append_nil]
    rfl
theorem colS_runs (f : Int → List Rn) : ∀ (k : Nat) (r : Int), runsV (colS f k) r = match decide (1 ≤ r) && decide (r ≤ k) with | true => f r | false => []
  | 0, r => by
    have : (decide (1 ≤ r) && decide (r ≤ ((0 : Nat) : Int))) = false := by
      by_cases h : 1 ≤ r
      · rw [decide_eq_false (by omega : ¬ r ≤ ((0 : Nat) : Int)), Bool.and_false]
      · rw [decide_eq_false h]; rfl
    rw [this]; rfl
  | k + 1, r => by
    rw [colS_succ, runsV_append, colS_runs f k, putK_runs]
    by_cases h : (k : Int) + 1 = r
    · rw [decide_eq_true h, decide_eq_false (by omega : ¬ r ≤ (k : Int)), Bool.and_false, decide_eq_true (by omega : 1 ≤ r), decide_eq_true (by omega : r ≤ ((k + 1 : Nat) : Int))]
      show [] ++ f ((k : Int) + 1) = f r
      rw [h]; rfl
    · rw [decide_eq_false h, List.append_nil, show decide (r ≤ ((k + 1 : Nat) : Int)) = decide (r ≤ (k : Int)) from by
        rw [Bool.eq_iff_iff]; simp only [decide_eq_true_eq]; omega]
def makeS (op : Int) (a b : List Kn) : List Kn := colS (fun r => makeC op (runsV a r) (runsV b r)) 16
def ofS (s : List Kn) : List Kn := makeS 1 s []
theorem makeS_right (op : Int) (a b : List Kn) : rightS (makeS op a b) = true := colS_up (fun _ => makeC_right _ _ _) (Nat.le_refl _)
theorem makeS_runs {op : Int} {a b : List Kn} {r : Int} (h1 : 1 ≤ r) (h2 : r ≤ 16) : runsV (makeS op a b) r = makeC op (runsV a r) (runsV b r) := by
  unfold makeS
  rw [colS_runs, decide_eq_true h1, decide_eq_true (show r ≤ ((16 : Nat) : Int) from h2)]; rfl
theorem makeS_has (op : Int) (a b : List Kn) (r n : Int) : hasK (makeS op a b) r n = gC op (hasK a r n) (hasK b r n) := by
  by_cases hr : 1 ≤ r ∧ r ≤ 16
  · rw [hasK_in hr.1 hr.2, hasK_in hr.1 hr.2, hasK_in hr.1 hr.2, makeS_runs hr.1 hr.2, makeC_has]
  · rw [hasK_out (by omega), hasK_out (by omega), hasK_out (by omega), gC_no]
theorem makeS_unique {op : Int} {a b u : List Kn} (h : rightS u = true) (hs : ∀ r n, hasK u r n = gC op (hasK a r n) (hasK b r n)) : u = makeS op a b :=
  rightS_unique h (makeS_right op a b) fun r n => by rw [hs, makeS_has]
theorem ofS_right (s : List Kn) : rightS (ofS s) = true := makeS_right 1 s []
theorem hasK_nil (r n : Int) : hasK [] r n = false := by unfold hasK; rw [runsV, hasC_nil, Bool.and_false, Bool.and_false]
theorem ofS_has (s : List Kn) (r n : Int) : hasK (ofS s) r n = hasK s r n := by unfold ofS; rw [makeS_has, gC1, hasK_nil, Bool.or_false]
theorem ofS_unique {s u : List Kn} (h : rightS u = true) (hs : ∀ r n, hasK u r n = hasK s r n) : u = ofS s := rightS_unique h (ofS_right s) fun r n => by rw [hs, ofS_has]
theorem ofS_runs {s : List Kn} {r : Int} (h1 : 1 ≤ r) (h2 : r ≤ 16) : runsV (ofS s) r = ofC (runsV s r) := makeS_runs h1 h2
theorem ofS_iff {a b : List Kn} : ofS a = ofS b ↔ ∀ r n, hasK a r n = hasK b r n :=
  ⟨fun h r n => by rw [← ofS_has a, ← ofS_has b, h], fun h => ofS_unique (ofS_right a) fun r n => by rw [ofS_has, h]⟩
theorem makeS_less {a b : List Kn} : makeS 3 a b = [] ↔ ∀ r n, hasK a r n = true → hasK b r n = true :=
  ⟨fun h r n h1 => by
    have h2 := makeS_has 3 a b r n
    rw [h, hasK_nil, gC3, h1] at h2
    cases h3 : hasK b r n
    · rw [h3] at h2; cases h2
    · rfl,
  fun h => (makeS_unique (u := []) rfl fun r n => by
    rw [hasK_nil, gC3]
    cases h1 : hasK a r n
    · rfl
    · rw [h r n h1]; rfl).symm⟩
theorem same_within {a b : List Kn} : ofS a = ofS b ↔ makeS 3 a b = [] ∧ makeS 3 b a = [] := by
  rw [ofS_iff, makeS_less, makeS_less]
  constructor
  · exact fun h => ⟨fun r n h1 => by rw [← h]; exact h1, fun r n h1 => by rw [h]; exact h1⟩
  · intro h r n
    cases h1 : hasK a r n
    · cases h2 : hasK b r n
      · rfl
      · rw [h.2 r n h2] at h1; cases h1
    · exact (h.1 r n h1).symm
theorem makeS_back1 (a b : List Kn) : makeS 1 b a = makeS 1 a b := (makeS_unique (makeS_right 1 a b) fun r n => by rw [makeS_has, gC1, gC1, Bool.or_comm]).symm
theorem makeS_parts (a b : List Kn) : makeS 1 (makeS 3 a b) (makeS 2 a b) = ofS a := (makeS_unique (ofS_right a) fun r n => by
  rw [makeS_has, makeS_has, gC1, gC2, gC3, ofS_has]
  cases hasK a r n <;> cases hasK b r n <;> rfl).symm
theorem makeS_joined (a b : List Kn) : makeS 1 (makeS 3 a b) b = makeS 1 a b := (makeS_unique (makeS_right 1 a b) fun r n => by
  rw [makeS_has, makeS_has, gC1, gC1, gC3]
  cases hasK a r n <;> cases hasK b r n <;> rfl).symm
theorem makeS_apart (a b : List Kn) : makeS 2 (makeS 3 a b) b = [] := (makeS_unique (u := []) rfl fun r n => by
  rw [hasK_nil, makeS_has, gC2, gC3]
  cases hasK a r n <;> cases hasK b r n <;> rfl).symm
theorem makeS_in (a b : List Kn) : makeS 3 (makeS 2 a b) a = [] := makeS_less.2 fun r n h => by
  rw [makeS_has, gC2, Bool.and_eq_true] at h
  exact h.1
theorem makeS_on (a b : List Kn) : makeS 3 a (makeS 1 a b) = [] := makeS_less.2 fun r n h => by rw [makeS_has, gC1, h]; rfl
theorem colS_len (f : Int → List Rn) : ∀ k : Nat, (colS f k).length ≤ k
  | 0 => Nat.le_refl _
  | k + 1 => by
    have h1 := colS_len f k
    have h2 : (putK ((k : Int) + 1) (f ((k : Int) + 1))).length ≤ 1 := by
      by_cases h : f ((k : Int) + 1) = []
      · rw [h]; exact Nat.zero_le _
      · rw [putK_some h]; exact Nat.le_refl _
    rw [colS_succ, List.length_append]
    omega
/-! Some versions more. -/
def oneS (v : Vr) : List Kn := [⟨v.rep, [⟨v.cnt, v.cnt⟩]⟩]
def addS (s : List Kn) (v : Vr) : List Kn := match rightVr v with
  | true => makeS 1 s (oneS v)
  | false => s
theorem addS_right {s : List Kn} {v : Vr} (h : rightS s = true) : rightS (addS s v) = true := by
  unfold addS
  cases rightVr v
  · exact h
  · exact makeS_right _ _ _
def addsS (s : List Kn) (l : List Vr) : List Kn := l.foldl addS (ofS s)
/-! Up to where all is known. -/
theorem baseC_least {l : List Rn} {b : Int} (h : ∀ n, 1 ≤ n → n ≤ b → hasC l n = true) : b ≤ baseC l := by
  have h1 := base_ok l
  rcases Int.lt_or_le (baseC l) b with h2 | h2
  · have h3 := h (baseC l + 1) (by omega) (by omega)
    rw [h1.2.1] at h3; cases h3
  · exact h2
theorem baseC_join (a b : List Rn) : baseC a ≤ baseC (makeC 1 a b) ∧ baseC b ≤ baseC (makeC 1 a b) :=
  ⟨baseC_least fun n h1 h2 => by rw [makeC_has, gC1, (base_ok a).1 n h1 h2]; rfl, baseC_least fun n h1 h2 => by rw [makeC_has, gC1, (base_ok b).1 n h1 h2, Bool.or_true]⟩
theorem baseC_meet (a b : List Rn) : baseC (makeC 2 a b) = min (baseC a) (baseC b) := by
  have h1 : min (baseC a) (baseC b) ≤ baseC (makeC 2 a b) := baseC_least fun n h1 h2 => by
    rw [makeC_has, gC2, (base_ok a).1 n h1 (by omega), (base_ok b).1 n h1 (by omega)]; rfl
  have h2 : baseC (makeC 2 a b) ≤ baseC a := baseC_least fun n h1 h2 => by
    have h3 := (base_ok (makeC 2 a b)).1 n h1 h2
    rw [makeC_has, gC2, Bool.and_eq_true] at h3
    exact h3.1
  have h3 : baseC (makeC 2 a b) ≤ baseC b := baseC_least fun n h1 h2 => by
    have h3 := (base_ok (makeC 2 a b)).1 n h1 h2
    rw [makeC_has, gC2, Bool.and_eq_true] at h3
    exact h3.2
  omega
end Go.Proofs.Ytdlloobdmfoalaa

/-
  Layer 14 (vset), the document's words: sets as values; all runs of a replica.
-/
namespace Go.Proofs.Ytdlloobdmfoalaa
open Go.RowKit

/-- A Known as it lies: the replica, and where its runs are. -/
structure Ks where
  rep : Int
  A : Option Addr
  n : Nat
  c : Nat
def ksCells (k : Ks) : List Value := [.int .i64 k.rep, .slice k.A k.n k.c]
noncomputable def kKs : Kind Try.prog Ks where
  ty := 22
  el := 48
  size := 2
  bytes := 32
  zero := .agg #[.int .i64 0, .slice none 0 0]
  cells := ksCells
  len := fun _ => rfl
  one := fun r u hu => by simp [ksCells] at hu; rcases hu with rfl | rfl <;> rfl
  pos := by decide
  under := Try.underlying22
  info := by kernel_rfl
  zsize := rfl
/-- A set that reads: each of its Known lies, and its runs read. -/
def RdK (w : World) (B : Nat) (A : Option Addr) (c : Nat) (s : List Kn) : Prop := ∃ ks : List Ks, kKs.Rd w B A c ks ∧ ks.length = s.length ∧ ∀ (i : Nat) (k : Ks) (x : Kn), ks[i]? = some k → s[i]? = some x → k.rep = x.rep ∧ k.n = x.runs.length ∧ kRn.Rd w B k.A k.c x.runs
theorem RdK.below {w w' : World} {B : Nat} {A : Option Addr} {c : Nat} {s : List Kn} (h : RdK w B A c s) (hb : Below B w w') : RdK w' B A c s := by
  obtain ⟨ks, h1, h2, h3⟩ := h
  exact ⟨ks, h1.below hb, h2, fun i k x hk hx => ⟨(h3 i k x hk hx).1, (h3 i k x hk hx).2.1, (h3 i k x hk hx).2.2.below hb⟩⟩
theorem RdK.call {w w' : World} {A : Option Addr} {c : Nat} {s : List Kn} (h : RdK w w.heap.size A c s) (hb : Below w.heap.size w w') : RdK w' w'.heap.size A c s := by
  obtain ⟨ks, h1, h2, h3⟩ := h
  exact ⟨ks, h1.call hb, h2, fun i k x hk hx => ⟨(h3 i k x hk hx).1, (h3 i k x hk hx).2.1, (h3 i k x hk hx).2.2.call hb⟩⟩
theorem RdK.room {w : World} {B : Nat} {A : Option Addr} {c : Nat} {s : List Kn} (h : RdK w B A c s) : s.length ≤ c := by
  obtain ⟨ks, h1, h2, -⟩ := h
  rw [← h2]; exact h1.room
theorem rdk_max {w : World} {B : Nat} {A : Option Addr} {c n : Nat} {s : List Kn} (h : RdK w B A c s) (hn : n = s.length) : n ≤ 9223372036854775807 := by
  obtain ⟨ks, h1, h2, -⟩ := h
  exact rd_maxC h1 (hn.trans h2.symm)
/-- Where its Known lie. -/
theorem knowns_at {w : World} {B : Nat} {A : Option Addr} {c : Nat} {s : List Kn} (h : RdK w B A c s) (hp : 0 < s.length) :
    ∃ b o, A = some ⟨b, o, none⟩ ∧ b < B ∧ ∀ k x, s[k]? = some x → ∃ (A' : Option Addr) (n' c' : Nat), n' = x.runs.length ∧ kRn.Rd w B A' c' x.runs ∧ w.cell? ⟨b, o + k * 2, none⟩ = some (.int .i64 x.rep) ∧ w.cell? ⟨b, o + k * 2 + 1, none⟩ = some (.slice A' n' c') := by
  obtain ⟨ks, h1, h2, h3⟩ := h
  obtain ⟨b, o, e1, e2, e3⟩ := h1.at_ (by omega)
  refine ⟨b, o, e1, e2, fun k x hx => ?_⟩
  obtain ⟨y, hy⟩ : ∃ y, ks[k]? = some y := ⟨_, List.getElem?_eq_getElem (by have := (List.getElem?_eq_some_iff.1 hx).1; omega)⟩
  obtain ⟨g1, g2, g3⟩ := h3 k y x hy hx
  refine ⟨y.A, y.n, y.c, g2, g3, ?_, ?_⟩
  · have := e3 k y hy 0 _ rfl
    rw [← g1]; exact this
  · exact e3 k y hy 1 _ rfl
/-- How many runs a set has. -/
def sizeV (m : Nat) (s : List Kn) : Prop := s.length ≤ m ∧ ∀ k ∈ s, k.runs.length ≤ m
theorem runsV_len {m : Nat} : ∀ {s : List Kn} (r : Int), (∀ k ∈ s, k.runs.length ≤ m) → (runsV s r).length ≤ m * s.length
  | [], _, _ => Nat.zero_le _
  | k :: s, r, h => by
    have h1 := runsV_len (s := s) r fun x hx => h x (List.mem_cons_of_mem _ hx)
    have h2 : (partV k r).length ≤ m := by
      by_cases e : k.rep = r
      · rw [partV_yes e]; exact h k (List.mem_cons_self ..)
      · rw [partV_no e]; exact Nat.zero_le _
    rw [runsV, List.length_append, List.length_cons, Nat.mul_succ]
    omega
theorem runsV_take {s : List Kn} {k : Nat} {x : Kn} (r : Int) (h : s[k]? = some x) : runsV (s.take (k + 1)) r = runsV (s.take k) r ++ partV x r := by
  rw [List.take_add_one, h, runsV_append]
  show _ ++ (partV x r ++ []) = _
  rw [List.append_nil]
end Go.Proofs.Ytdlloobdmfoalaa

/-
  Known that came in as a slice: each with its runs.
-/
namespace Go.Proofs.Ytdlloobdmfoalaa
open Go.ChangeShapes Go.WideShapes Go.ChangeAt Go.RowKit

theorem kcells_runs : Try.prog.cellsOf 41 = 1 := by kernel_rfl
/-- What a Known that lies and one that is meant have in common. -/
def KnIn (W : World) (x : Ks × Kn) : Prop := x.1.rep = x.2.rep ∧ x.1.n = x.2.runs.length ∧ kRn.Rd W W.heap.size x.1.A x.1.c x.2.runs
set_option maxRecDepth 100000 in
theorem kn_of {H : Type} {enc : TypeId × Value → H} {W : World} (n : Nat) (cs : List Value) (y : DataW H × List MemPlace) (hl : cs.length = 2)
    (hy : DataW.trod enc Try.prog W 0 (fun _ => true) true n 48 cs = some y) : ∃ x : Ks × Kn, cs = ksCells x.1 ∧ KnIn W x := by
  obtain ⟨xs, n', _, rfl, -, hlen, hf⟩ := DataW.trod_struct Try.underlying48 hy
  match xs, hlen with
  | [y0, y1], _ =>
    have h0 := hf 0 _ rfl
    have h1 := hf 1 _ rfl
    match cs, hl with
    | [a, b], _ =>
      have h0 : DataW.trod enc Try.prog W 0 (fun _ => true) true n' 3 (([a, b].drop 0).take (Try.prog.cellsOf 3)) = some y0 := by simpa using h0
      have h1 : DataW.trod enc Try.prog W 0 (fun _ => true) true n' 41 (([a, b].drop 1).take (Try.prog.cellsOf 41)) = some y1 := by simpa using h1
      rw [rcells_int] at h0
      rw [kcells_runs] at h1
      obtain ⟨i, e0, -, w0⟩ := DataW.trod_int Try.underlying3 h0
      obtain ⟨A, c, l, e1, g1, -, g2, g3⟩ := cells_slice rnCells (fun _ => True) Try.underlying41 (k := 2) (by kernel_rfl) (by omega) rn_of h1
      simp at e0 e1
      subst e0 e1
      exact ⟨(⟨i, A, l.length, c⟩, ⟨i, l⟩), rfl, rfl, rfl, g1, g2, g3⟩
set_option maxRecDepth 100000 in
theorem in_kns {H : Type} {enc : TypeId × Value → H} {W : World} {base : Nat} {v : Value} {d : DataW H} {p : List MemPlace}
    (hok : Value.okWide Try.prog W .any base 22 v) (h : DataW.Trod enc Try.prog W 0 (fun _ => true) true 22 v d p) :
    ∃ (A : Option Addr) (c : Nat) (l : List Kn), v = .slice A l.length c ∧ RdK W W.heap.size A c l := by
  obtain ⟨A, c, sl, rfl, h1, hg, h2, h3⟩ := in_slice (fun x : Ks × Kn => ksCells x.1) (KnIn W) Try.underlying22 (k := 2) (by kernel_rfl) (by omega) kn_of hok h
  refine ⟨A, c, sl.map (·.2), by rw [List.length_map], sl.map (·.1), ⟨?_, by rw [List.length_map]; exact h2, h3⟩, by rw [List.length_map, List.length_map], fun i s l hs hl => ?_⟩
  · show RowAt W W.heap.size A ((sl.map (·.1)).flatMap ksCells)
    rw [List.flatMap_map]
    exact h1
  · rw [List.getElem?_map] at hs hl
    cases hx : sl[i]? with
    | none => rw [hx] at hs; cases hs
    | some x =>
      rw [hx] at hs hl
      cases hs; cases hl
      exact hg x (List.mem_of_getElem? hx)
end Go.Proofs.Ytdlloobdmfoalaa

/-
  Layer 14 (vset), the document's words: all runs of a replica; is a set too long to be looked at.
-/
namespace Go.Proofs.Ytdlloobdmfoalaa
open Go.RowKit

theorem runsV_part (s : List Kn) (k : Nat) (r : Int) : (runsV (s.take k) r).length ≤ (runsV s r).length := by
  conv => rhs; rw [← List.take_append_drop k s, runsV_append, List.length_append]
  omega
set_option maxRecDepth 100000 in
set_option maxHeartbeats 4000000 in
theorem ref_vruns (A : Option Addr) (c n : Nat) (s : List Kn) (r : Int) (hn : n = s.length) (N : Nat) (hN : (runsV s r).length = N) (hNl : N ≤ 100000) (w : World) (hr : RdK w w.heap.size A c s) :
    Calls Try.prog 27 #[.slice A n c, .int .i64 r] w (RetC w N (runsV s r)) := by
  have HN := Lib.hid hn
  have HR := Lib.hid hr
  have HNN := Lib.hid hN
  have hmx := rdk_max hr hn
  have hcx : n ≤ c := by rw [hn]; exact hr.room
  clear hn hr hN
  go_enter Try.func27, Try.ntmps27
  go_wp2_with fail
  go_loopw [5, 6] (fun v i wr => ∃ k : Nat, k ≤ n ∧ Hid (kRn.Own wr w.heap.size v (runsV (s.take k) r)) ∧ i = .int .i64 k ∧ Hid (Below w.heap.size w wr)) (fun _ i _ => n - (intOf i).toNat)
  case atStart => exact ⟨0, by omega, Kind.Own.nil _ _, rfl, Below.refl _ _⟩
  case round =>
    obtain ⟨k, hk, HO, rfl, HB⟩ := hrel
    by_cases hlt : k < n
    · obtain ⟨x, hg, -, -⟩ := cnt_get (l := s) (k := k) (by have := HN.out; omega)
      obtain ⟨b, o, rfl, hb1, hcell⟩ := knowns_at (HR.out.below HB.out) (by have := HN.out; omega)
      obtain ⟨A', n', c', hn', hrd, c0, c1⟩ := hcell k x hg
      have HT := Lib.hid (runsV_take r hg)
      have HLE := Lib.hid (show (runsV (s.take k) r).length + (partV x r).length ≤ 1000000 by
        have h1 := runsV_part s (k + 1) r
        rw [HT.out, List.length_append, HNN.out] at h1
        omega)
      have HX := Lib.hid hrd.row
      have HN' := Lib.hid hn'
      obtain ⟨R, hR⟩ : ∃ R, x.rep = R := ⟨_, rfl⟩
      rw [hR] at c0
      have hk0 : (0 : Int) ≤ (k : Int) := by omega
      have hkn : (k : Int) < (n : Int) := by omega
      by_cases he : R = r
      · have HP := Lib.hid (partV_yes (hR.trans he))
        have hd : (R == r) = true := beq_iff_eq.2 he
        rw [HP.out] at HLE HT
        clear hcell hg hrd hn' hR he
        go_wp2_with (at_builtin; refine wpList_app_k kRn rfl (.tmp 20) (.tmp 25) rfl w.heap.size _ _ rfl HO.out _ A' c' n' x.runs HN'.out rfl HX.out HLE.out (by decide) HB.out.size ?_; intro v3 w3 hown3 _ hb3 _; have HB3 := Lib.hid (HB.out.trans hb3); have HO3 := Lib.hid hown3; clear hb3 hown3)
        go_roundw
        case rel => exact ⟨k + 1, by omega, show kRn.Own _ _ _ _ from by rw [HT.out]; exact HO3.out, by go_num, HB3⟩
        case measure => simp [intOf]; omega
      · have HP := Lib.hid (partV_no (k := x) (r := r) (by rw [hR]; exact he))
        have hd : (R == r) = false := beq_eq_false_iff_ne.2 he
        rw [HP.out, List.append_nil] at HT
        clear hcell hg hrd hn' hR he
        go_wp2_with fail
        go_roundw
        case rel => exact ⟨k + 1, by omega, show kRn.Own _ _ _ _ from by rw [HT.out]; exact HO.out, by go_num, HB⟩
        case measure => simp [intOf]; omega
    · have HT := Lib.hid (show runsV (s.take k) r = runsV s r by rw [List.take_of_length_le (by have := HN.out; omega)])
      obtain ⟨A9, c9, rfl, hrd⟩ := HO.out.read_n (show N = (runsV (s.take k) r).length by rw [HT.out]; exact HNN.out.symm)
      have HF := Lib.hid (show kRn.Rd wr wr.heap.size A9 c9 (runsV s r) from HT.out ▸ hrd)
      clear hrd HO HT
      go_wp2_with fail
      go_ret
      exact ⟨A9, c9, rfl, HF.out, HB.out⟩
/-- Has a set too many numbers? -/
def longV (m : Nat) (s : List Kn) : Bool := decide (m < s.length) || s.any fun k => decide (m < k.runs.length)
theorem longV_size {m : Nat} {s : List Kn} (h : longV m s = false) : sizeV m s := by
  unfold longV at h
  simp only [Bool.or_eq_false_iff, decide_eq_false_iff_not, List.any_eq_false, decide_eq_true_eq] at h
  exact ⟨by omega, fun k hk => by have := h.2 k hk; omega⟩
set_option maxRecDepth 100000 in
set_option maxHeartbeats 4000000 in
theorem ref_vlong (m : Nat) (y : Int) (hy : (m : Int) = y) (hml : m ≤ 1000) (A : Option Addr) (c n : Nat) (s : List Kn) (hn : n = s.length) (v : Bool) (hv : longV m s = v) (w : World) (hr : RdK w w.heap.size A c s) :
    Calls Try.prog 9 #[.slice A n c, .int .i64 y] w fun e w' => e = .returned (.bool v) ∧ Below w.heap.size w w' := by
  subst hy
  have HN := Lib.hid hn
  have HR := Lib.hid hr
  have HV := Lib.hid hv
  have hmx := rdk_max hr hn
  have hcx : n ≤ c := by rw [hn]; exact hr.room
  by_cases h1 : m < n
  · have HV := Lib.hid (show true = v by rw [← hv]; unfold longV; rw [← hn, decide_eq_true h1]; rfl)
    have hd : decide (m < n) = true := decide_eq_true h1
    have HB := Lib.hid (Below.refl w.heap.size w)
    clear hn hr hv h1
    go_enter Try.func9, Try.ntmps9
    go_wp2_with fail
    go_ret
    exact ⟨ret_bool HV.out, HB.out⟩
  · have HV := Lib.hid (show (s.any fun k => decide (m < k.runs.length)) = v by rw [← hv]; unfold longV; rw [← hn, decide_eq_false h1]; rfl)
    have hd : decide (m < n) = false := decide_eq_false h1
    clear hn hr hv
    go_enter Try.func9, Try.ntmps9
    go_wp2_with fail
    go_loopw [5] (fun i wr => ∃ k : Nat, k ≤ n ∧ Hid (((s.drop k).any fun k => decide (m < k.runs.length)) = v) ∧ i = .int .i64 k ∧ Hid (Below w.heap.size w wr)) (fun i _ => n - (intOf i).toNat)
    case atStart => exact ⟨0, by omega, HV.out, rfl, Below.refl _ _⟩
    case round =>
      obtain ⟨k, hk, HL, rfl, HB⟩ := hrel
      by_cases hlt : k < n
      · obtain ⟨x, hg, hd2, -⟩ := cnt_get (l := s) (k := k) (by have := HN.out; omega)
        obtain ⟨b, o, rfl, hb1, hcell⟩ := knowns_at (HR.out.below HB.out) (by have := HN.out; omega)
        obtain ⟨A', n', c', hn', hrd, c0, c1⟩ := hcell k x hg
        have hmx' := rd_maxC hrd hn'
        have hL := HL.out
        rw [hd2, List.any_cons, ← hn'] at hL
        have hk0 : (0 : Int) ≤ (k : Int) := by omega
        have hkn : (k : Int) < (n : Int) := by omega
        by_cases he : m < n'
        · have HF := Lib.hid (show true = v by rw [← hL, decide_eq_true he]; rfl)
          have hdm : decide (m < n') = true := decide_eq_true he
          clear hcell hg hd2 hrd hn' hL he HL
          go_wp2_with fail
          go_ret
          exact ⟨ret_bool HF.out, HB.out⟩
        · have HF := Lib.hid (show ((s.drop (k + 1)).any fun k => decide (m < k.runs.length)) = v by rw [← hL, decide_eq_false he]; rfl)
          have hdm : decide (m < n') = false := decide_eq_false he
          clear hcell hg hd2 hrd hn' hL he HL
          go_wp2_with fail
          go_roundw
          case rel => exact ⟨k + 1, by omega, HF, by go_num, HB⟩
          case measure => simp [intOf]; omega
      · have HF := Lib.hid (show false = v by rw [← HL.out, List.drop_eq_nil_of_le (by have := HN.out; omega)]; rfl)
        go_wp2_with fail
        go_ret
        exact ⟨ret_bool HF.out, HB.out⟩
end Go.Proofs.Ytdlloobdmfoalaa

/-
  Layer 14 (vset), the document's words: are two lists of runs the same, and are two sets.
-/
namespace Go.Proofs.Ytdlloobdmfoalaa
open Go.RowKit

theorem sameC_iff : ∀ {a b : List Rn}, sameC a b = true ↔ a = b
  | [], [] => by simp [sameC]
  | [], _ :: _ => by simp [sameC]
  | _ :: _, [] => by simp [sameC]
  | r :: a, t :: b => by
    rw [sameC, Bool.and_eq_true, Bool.and_eq_true, beq_iff_eq, beq_iff_eq, sameC_iff (a := a), List.cons.injEq]
    constructor
    · exact fun h => ⟨rn_ext h.1.1 h.1.2, h.2⟩
    · exact fun h => ⟨by rw [h.1]; exact ⟨rfl, rfl⟩, h.2⟩
theorem sameC_len {a b : List Rn} (h : a.length ≠ b.length) : sameC a b = false := by
  cases h1 : sameC a b
  · rfl
  · exact absurd (congrArg List.length (sameC_iff.1 h1)) h
set_option maxHeartbeats 2000000 in
theorem ref_csame_any (A B : Option Addr) (c d n m : Nat) (a b : List Rn) (hn : n = a.length) (hm : m = b.length) (v : Bool) (hv : sameC a b = v) (w : World) (ha : kRn.Rd w w.heap.size A c a) (hb : kRn.Rd w w.heap.size B d b) :
    Calls Try.prog 37 #[.slice A n c, .slice B m d] w fun e w' => e = .returned (.bool v) ∧ Below w.heap.size w w' := by
  by_cases hnm : n = m
  · subst hnm
    have HN := Lib.hid hn
    have HM := Lib.hid hm
    have HA := Lib.hid ha
    have HB := Lib.hid hb
    have HV := Lib.hid hv
    have hmx := rd_maxC ha hn
    have hcx : n ≤ c := by rw [hn]; exact ha.room
    have hcy : n ≤ d := by rw [hm]; exact hb.room
    clear hn hm ha hb hv
    go_enter Try.func37, Try.ntmps37
    go_wp2_with fail
    go_loopw [5] (fun i wr => ∃ k q : Nat, k ≤ n ∧ i = .int .i64 k ∧ Hid (sameC (a.drop k) (b.drop k) = v) ∧ wr = w.drewN q) (fun i _ => n - (intOf i).toNat)
    case atStart => exact ⟨0, 0, by omega, rfl, HV, rfl⟩
    case round =>
      obtain ⟨k, q, hk, rfl, HL, rfl⟩ := hrel
      by_cases hlt : k < n
      · obtain ⟨r, hg, hd, -⟩ := cnt_get (l := a) (k := k) (by have := HN.out; omega)
        obtain ⟨t, hgt, hdt, -⟩ := cnt_get (l := b) (k := k) (by have := HM.out; omega)
        obtain ⟨b1, o1, rfl, hb1, hcell1⟩ := rns_at HA.out (by have := HN.out; omega)
        obtain ⟨b2, o2, rfl, hb2, hcell2⟩ := rns_at HB.out (by have := HM.out; omega)
        obtain ⟨a0, a1⟩ := hcell1 k r hg
        obtain ⟨c0, c1⟩ := hcell2 k t hgt
        obtain ⟨e, he⟩ : ∃ e, (r.fr == t.fr && r.to == t.to) = e := ⟨_, rfl⟩
        have EQ := fun w => eq_rn r.fr r.to t.fr t.to e he w
        have hL := HL.out
        rw [hd, hdt, sameC, he] at hL
        have hk0 : (0 : Int) ≤ (k : Int) := by omega
        have hkn : (k : Int) < (n : Int) := by omega
        obtain ⟨X, hX⟩ : ∃ X, r.fr = X := ⟨_, rfl⟩
        obtain ⟨Y, hY⟩ : ∃ Y, r.to = Y := ⟨_, rfl⟩
        obtain ⟨Z, hZ⟩ : ∃ Z, t.fr = Z := ⟨_, rfl⟩
        obtain ⟨V, hV⟩ : ∃ V, t.to = V := ⟨_, rfl⟩
        rw [hX, hY, hZ, hV] at EQ
        rw [hX] at a0
        rw [hY] at a1
        rw [hZ] at c0
        rw [hV] at c1
        cases e
        · have HF := Lib.hid (show false = v from hL)
          clear hcell1 hcell2 hg hgt hd hdt hX hY hZ hV he hL HL
          go_wp2_with fail
          go_quiet (fail)
          go_wp2_with fail
          go_ret
          exact ⟨ret_bool HF.out, below_drewN (below_drewN (Below.refl _ _) _) _⟩
        · have HF := Lib.hid (show sameC (a.drop (k + 1)) (b.drop (k + 1)) = v from hL)
          clear hcell1 hcell2 hg hgt hd hdt hX hY hZ hV he hL HL
          go_wp2_with fail
          go_quiet (fail)
          go_wp2_with fail
          go_roundw
          case rel => exact ⟨k + 1, _, by omega, by go_num, HF, rfl⟩
          case measure => simp [intOf]; omega
      · have HF := Lib.hid (show true = v by rw [← HL.out, List.drop_eq_nil_of_le (by have := HN.out; omega), List.drop_eq_nil_of_le (by have := HM.out; omega)]; rfl)
        go_wp2_with fail
        go_ret
        exact ⟨ret_bool HF.out, below_drewN (Below.refl _ _) _⟩
  · have HF := Lib.hid (show false = v by rw [← hv, sameC_len (by omega)])
    have hd : (n == m) = false := beq_eq_false_iff_ne.2 hnm
    have HW := Lib.hid (Below.refl w.heap.size w)
    clear hn hm ha hb hv
    go_enter Try.func37, Try.ntmps37
    go_wp2_with fail
    go_ret
    exact ⟨ret_bool HF.out, HW.out⟩
/-- Are two sets the same, in all their numbers? -/
def sameS : List Kn → List Kn → Bool
  | [], [] => true
  | x :: a, y :: b => ((x.rep == y.rep) && sameC x.runs y.runs) && sameS a b
  | _, _ => false
theorem sameS_iff : ∀ {a b : List Kn}, sameS a b = true ↔ a = b
  | [], [] => by simp [sameS]
  | [], _ :: _ => by simp [sameS]
  | _ :: _, [] => by simp [sameS]
  | r :: a, t :: b => by
    rw [sameS, Bool.and_eq_true, Bool.and_eq_true, beq_iff_eq, sameC_iff, sameS_iff (a := a), List.cons.injEq]
    constructor
    · exact fun h => ⟨kn_ext h.1.1 h.1.2, h.2⟩
    · exact fun h => ⟨by rw [h.1]; exact ⟨rfl, rfl⟩, h.2⟩
theorem sameS_len {a b : List Kn} (h : a.length ≠ b.length) : sameS a b = false := by
  cases h1 : sameS a b
  · rfl
  · exact absurd (congrArg List.length (sameS_iff.1 h1)) h
set_option maxRecDepth 100000 in
set_option maxHeartbeats 4000000 in
theorem ref_vsame (A B : Option Addr) (c d n m : Nat) (a b : List Kn) (hn : n = a.length) (hm : m = b.length) (v : Bool) (hv : sameS a b = v) (w : World) (ha : RdK w w.heap.size A c a) (hb : RdK w w.heap.size B d b) :
    Calls Try.prog 14 #[.slice A n c, .slice B m d] w fun e w' => e = .returned (.bool v) ∧ Below w.heap.size w w' := by
  by_cases hnm : n = m
  · subst hnm
    have HN := Lib.hid hn
    have HM := Lib.hid hm
    have HA := Lib.hid ha
    have HB := Lib.hid hb
    have HV := Lib.hid hv
    have hmx := rdk_max ha hn
    have hcx : n ≤ c := by rw [hn]; exact ha.room
    have hcy : n ≤ d := by rw [hm]; exact hb.room
    clear hn hm ha hb hv
    go_enter Try.func14, Try.ntmps14
    go_wp2_with fail
    go_loopw [5] (fun i wr => ∃ k : Nat, k ≤ n ∧ i = .int .i64 k ∧ Hid (sameS (a.drop k) (b.drop k) = v) ∧ Hid (Below w.heap.size w wr)) (fun i _ => n - (intOf i).toNat)
    case atStart => exact ⟨0, by omega, rfl, HV, Below.refl _ _⟩
    case round =>
      obtain ⟨k, hk, rfl, HL, HW⟩ := hrel
      by_cases hlt : k < n
      · obtain ⟨r, hg, hd, -⟩ := cnt_get (l := a) (k := k) (by have := HN.out; omega)
        obtain ⟨t, hgt, hdt, -⟩ := cnt_get (l := b) (k := k) (by have := HM.out; omega)
        obtain ⟨b1, o1, rfl, hb1, hcell1⟩ := knowns_at (HA.out.below HW.out) (by have := HN.out; omega)
        obtain ⟨b2, o2, rfl, hb2, hcell2⟩ := knowns_at (HB.out.below HW.out) (by have := HM.out; omega)
        obtain ⟨A1, n1, c1, hn1, hr1, p0, p1⟩ := hcell1 k r hg
        obtain ⟨A2, n2, c2, hn2, hr2, q0, q1⟩ := hcell2 k t hgt
        obtain ⟨e, he⟩ : ∃ e, sameC r.runs t.runs = e := ⟨_, rfl⟩
        have hL := HL.out
        rw [hd, hdt, sameS, he] at hL
        have hk0 : (0 : Int) ≤ (k : Int) := by omega
        have hkn : (k : Int) < (n : Int) := by omega
        have CS := Lib.hid (fun (L : List (Addr × Value)) => fun (W : World) (hC : CellL wr L W) => (ref_csame_any A1 A2 c1 c2 n1 n2 r.runs t.runs hn1 hn2 e he W ((hr1.more HW.out.size).call (cellL_size hC)) ((hr2.more HW.out.size).call (cellL_size hC))).mono fun (e' : Ending) (W' : World) ⟨h1, h2⟩ => (⟨h1, cellL_call h2 hC⟩ : e' = Ending.returned (.bool e) ∧ CellL wr L W'))
        obtain ⟨X, hX⟩ : ∃ X, r.rep = X := ⟨_, rfl⟩
        obtain ⟨Z, hZ⟩ : ∃ Z, t.rep = Z := ⟨_, rfl⟩
        rw [hX] at p0 hL
        rw [hZ] at q0 hL
        obtain ⟨f, hf⟩ : ∃ f, (X == Z) = f := ⟨_, rfl⟩
        rw [hf] at hL
        have hf2 : (X != Z) = !f := by rw [← hf]; rfl
        have HC := Lib.hid (show CellL wr [(⟨b1, o1 + k * 2, none⟩, .int .i64 X), (⟨b1, o1 + k * 2 + 1, none⟩, .slice A1 n1 c1), (⟨b2, o2 + k * 2, none⟩, .int .i64 Z), (⟨b2, o2 + k * 2 + 1, none⟩, .slice A2 n2 c2)] wr from ⟨p0, p1, q0, q1, Below.refl _ _⟩)
        have HF := Lib.hid hL
        clear hcell1 hcell2 hg hgt hd hdt hX hZ he hL HL hr1 hr2 hn1 hn2 p0 p1 q0 q1
        cases f <;> cases e
        all_goals simp only [Bool.not_true, Bool.not_false] at hf2
        all_goals
          go_wp2_with fail
          refine q_region (CellL wr [(⟨b1, o1 + k * 2, none⟩, .int .i64 X), (⟨b1, o1 + k * 2 + 1, none⟩, .slice A1 n1 c1), (⟨b2, o2 + k * 2, none⟩, .int .i64 Z), (⟨b2, o2 + k * 2 + 1, none⟩, .slice A2 n2 c2)]) (by kernel_rfl) (by kernel_rfl) (cellL_drew HC.out) ?_
          repeat (first
            | go_big_quiet_skip
            | (go_big_quiet_want; (first
              | (refine q_take (v := ?_) ?_ ?_; rotate_left; (focus (intro w hSw; (try simp only [CellL] at hSw); go_split_ands; go_simp; (try (rw [if_neg (by omega)])); (try with_reducible rfl); done)))
              | (refine q_call (CS.out _) ?_ ?_; (focus (intro w hSw; (try simp only [CellL] at hSw); go_split_ands; go_simp; (try (rw [if_neg (by omega)])); done)))); (try simp only [Act.put, List.setIfInBounds_toArray, List.set_cons_zero, List.set_cons_succ]); go_big_quiet_on))
          refine wpQuiet_nil ?_
          intro w2 hw2
          have HB2 := Lib.hid (HW.out.trans ((cellL_size hw2).mono HW.out.size))
          clear hw2
          go_wp2_with fail
          first
            | (go_ret; exact ⟨ret_bool HF.out, HB2.out⟩)
            | (go_roundw
               case rel => exact ⟨k + 1, by omega, by go_num, HF, HB2⟩
               case measure => simp [intOf]; omega)
      · have HF := Lib.hid (show true = v by rw [← HL.out, List.drop_eq_nil_of_le (by have := HN.out; omega), List.drop_eq_nil_of_le (by have := HM.out; omega)]; rfl)
        go_wp2_with fail
        go_ret
        exact ⟨ret_bool HF.out, HW.out⟩
  · have HF := Lib.hid (show false = v by rw [← hv, sameS_len (by omega)])
    have hd : (n == m) = false := beq_eq_false_iff_ne.2 hnm
    have HW := Lib.hid (Below.refl w.heap.size w)
    clear hn hm ha hb hv
    go_enter Try.func14, Try.ntmps14
    go_wp2_with fail
    go_ret
    exact ⟨ret_bool HF.out, HW.out⟩
end Go.Proofs.Ytdlloobdmfoalaa

/-
  Layer 14 (vset), the document's words: has a set a version. (Written by a program.)
-/
namespace Go.Proofs.Ytdlloobdmfoalaa
open Go.RowKit

theorem vbox_new (w : World) (x y : Int) : (w.alloc (.cells #[.int .i64 x, .int .i64 y] 25)).cell? ⟨w.heap.size, 0, none⟩ = some (.int .i64 x) ∧ (w.alloc (.cells #[.int .i64 x, .int .i64 y] 25)).cell? ⟨w.heap.size, 1, none⟩ = some (.int .i64 y) := by
  have hg := heap_new w (.cells #[.int .i64 x, .int .i64 y] 25) _ rfl
  exact ⟨by rw [cell_of_row _ _ _ _ _ _ hg]; rfl, by rw [cell_of_row _ _ _ _ _ _ hg]; rfl⟩
set_option maxRecDepth 100000 in
set_option maxHeartbeats 4000000 in
theorem ref_vhas (A : Option Addr) (c n : Nat) (s : List Kn) (v : Vr) (x y : Int) (hx : v.rep = x) (hy : v.cnt = y) (hn : n = s.length) (hl : (runsV s x).length ≤ 100000) (f : Bool) (hf : hasS s v = f) (w : World) (hr : RdK w w.heap.size A c s) :
    Calls Try.prog 13 #[.slice A n c, .agg #[.int .i64 x, .int .i64 y]] w fun e w' => e = .returned (.bool f) ∧ Below w.heap.size w w' := by
  obtain ⟨z, hz⟩ : ∃ z, rightVr v = z := ⟨_, rfl⟩
  have C1 := fun w => Lib.hid (ref_vrright v x y hx hy z hz w)
  obtain ⟨N, hN⟩ : ∃ N, (runsV s x).length = N := ⟨_, rfl⟩
  have C2 := fun w h => Lib.hid (ref_vruns A c n s x hn N hN (by omega) w h)
  obtain ⟨g, hg⟩ : ∃ g, hasC (runsV s x) y = g := ⟨_, rfl⟩
  have C3 := fun A c w h => Lib.hid (ref_chas A c N (runsV s x) y hN.symm g hg w h)
  have hV := hf
  unfold hasS at hV
  rw [hx, hy, hz, hg] at hV
  have HB := Lib.hid (below_new w (.cells #[.int .i64 x, .int .i64 y] 25))
  have HC := Lib.hid (show CellL (w.alloc (.cells #[.int .i64 x, .int .i64 y] 25)) [(⟨w.heap.size, 0, none⟩, .int .i64 x), (⟨w.heap.size, 1, none⟩, .int .i64 y)] (w.alloc (.cells #[.int .i64 x, .int .i64 y] 25)) from ⟨(vbox_new w x y).1, (vbox_new w x y).2, Below.refl _ _⟩)
  have HR := Lib.hid (hr.call HB.out)
  replace HB := Lib.hid HB.out.drew
  replace HR := Lib.hid (HR.out.call (Below.refl _ _).drew)
  clear hx hy hn hl hf hr hN hg
  cases z
  · have hV : false = f := hV
    subst hV
    clear hz
    go_enter Try.func13, Try.ntmps13
    go_upto_region 1 with fail
    refine wp_region_noPanic ?_
    refine wp_region_held_drew (S := CellL (w.alloc (.cells #[.int .i64 x, .int .i64 y] 25)) [(⟨w.heap.size, 0, none⟩, .int .i64 x), (⟨w.heap.size, 1, none⟩, .int .i64 y)]) (by kernel_rfl) (cellL_drew HC.out) (fun hHeld => ?_)
    refine take_yes (i := 0) (v := ?_) rfl (by kernel_rfl) (by kernel_rfl) (by kernel_rfl) (fun _ _ _ h => h) (by rfl) (by assumption) ?_ ?_; rotate_left; (focus ((intro w hSw); (try simp only [CellL] at hSw); go_split_ands; go_simp; (try with_reducible rfl); done))
    (try simp only [Act.put, List.setIfInBounds_toArray, List.set_cons_zero, List.set_cons_succ])
    refine call_one (i := 1) rfl (by kernel_rfl) (by rfl) (fun K hK => ?_)
    go_simp
    with_reducible refine (C1 _).out.mono ?_
    rintro e w9 ⟨rfl, hq⟩
    replace HB := Lib.hid (HB.out.trans (hq.mono HB.out.size))
    replace HR := Lib.hid (HR.out.call hq)
    refine hK.out _ _ (cellL_call hq (by assumption)) (fun hHeld => ?_)
    clear hK K hq
    (try simp only [Act.put, List.setIfInBounds_toArray, List.set_cons_zero, List.set_cons_succ])
    refine take_yes (i := 2) (v := ?_) rfl (by kernel_rfl) (by kernel_rfl) (by kernel_rfl) (fun _ _ _ h => h) (by rfl) (by assumption) ?_ ?_; rotate_left; (focus ((intro w hSw); (try simp only [CellL] at hSw); go_split_ands; go_simp; (try with_reducible rfl); done))
    (try simp only [Act.put, List.setIfInBounds_toArray, List.set_cons_zero, List.set_cons_succ])
    refine take_no (i := 3) rfl (by kernel_rfl) (by kernel_rfl) (by kernel_rfl) (fun _ _ _ h => h) (by rfl) (by assumption) ?_
    (try simp only [Act.put, List.setIfInBounds_toArray, List.set_cons_zero, List.set_cons_succ])
    refine take_no (i := 4) rfl (by kernel_rfl) (by kernel_rfl) (by kernel_rfl) (fun _ _ _ h => h) (by rfl) (by assumption) ?_
    (try simp only [Act.put, List.setIfInBounds_toArray, List.set_cons_zero, List.set_cons_succ])
    refine take_no (i := 5) rfl (by kernel_rfl) (by kernel_rfl) (by kernel_rfl) (fun _ _ _ h => h) (by rfl) (by assumption) ?_
    (try simp only [Act.put, List.setIfInBounds_toArray, List.set_cons_zero, List.set_cons_succ])
    refine take_no (i := 7) rfl (by kernel_rfl) (by kernel_rfl) (by kernel_rfl) (fun _ _ _ h => h) (by rfl) (by assumption) ?_
    (try simp only [Act.put, List.setIfInBounds_toArray, List.set_cons_zero, List.set_cons_succ])
    refine take_no (i := 8) rfl (by kernel_rfl) (by kernel_rfl) (by kernel_rfl) (fun _ _ _ h => h) (by rfl) (by assumption) ?_
    (try simp only [Act.put, List.setIfInBounds_toArray, List.set_cons_zero, List.set_cons_succ])
    refine take_no (i := 6) rfl (by kernel_rfl) (by kernel_rfl) (by kernel_rfl) (fun _ _ _ h => h) (by rfl) (by assumption) ?_
    (try simp only [Act.put, List.setIfInBounds_toArray, List.set_cons_zero, List.set_cons_succ])
    refine take_no (i := 9) rfl (by kernel_rfl) (by kernel_rfl) (by kernel_rfl) (fun _ _ _ h => h) (by rfl) (by assumption) ?_
    (try simp only [Act.put, List.setIfInBounds_toArray, List.set_cons_zero, List.set_cons_succ])
    refine take_yes (i := 10) (v := ?_) rfl (by kernel_rfl) (by kernel_rfl) (by kernel_rfl) (fun _ _ _ h => h) (by rfl) (by assumption) ?_ ?_; rotate_left; (focus ((intro w hSw); (try simp only [CellL] at hSw); go_split_ands; go_simp; (try with_reducible rfl); done))
    (try simp only [Act.put, List.setIfInBounds_toArray, List.set_cons_zero, List.set_cons_succ])
    refine take_yes (i := 11) (v := ?_) rfl (by kernel_rfl) (by kernel_rfl) (by kernel_rfl) (fun _ _ _ h => h) (by rfl) (by assumption) ?_ ?_; rotate_left; (focus ((intro w hSw); (try simp only [CellL] at hSw); go_split_ands; go_simp; (try with_reducible rfl); done))
    (try simp only [Act.put, List.setIfInBounds_toArray, List.set_cons_zero, List.set_cons_succ])
    refine wpAnyH_done (by kernel_rfl) ?_ _
    refine NoPanic.normal ?_
    clear hHeld
    go_wp2_with fail
    go_ret
    exact ⟨rfl, HB.out⟩
  · have hV : g = f := hV
    subst hV
    clear hz
    go_enter Try.func13, Try.ntmps13
    go_upto_region 1 with fail
    refine wp_region_noPanic ?_
    refine wp_region_held_drew (S := CellL (w.alloc (.cells #[.int .i64 x, .int .i64 y] 25)) [(⟨w.heap.size, 0, none⟩, .int .i64 x), (⟨w.heap.size, 1, none⟩, .int .i64 y)]) (by kernel_rfl) (cellL_drew HC.out) (fun hHeld => ?_)
    refine take_yes (i := 0) (v := ?_) rfl (by kernel_rfl) (by kernel_rfl) (by kernel_rfl) (fun _ _ _ h => h) (by rfl) (by assumption) ?_ ?_; rotate_left; (focus ((intro w hSw); (try simp only [CellL] at hSw); go_split_ands; go_simp; (try with_reducible rfl); done))
    (try simp only [Act.put, List.setIfInBounds_toArray, List.set_cons_zero, List.set_cons_succ])
    refine call_one (i := 1) rfl (by kernel_rfl) (by rfl) (fun K hK => ?_)
    go_simp
    with_reducible refine (C1 _).out.mono ?_
    rintro e w9 ⟨rfl, hq⟩
    replace HB := Lib.hid (HB.out.trans (hq.mono HB.out.size))
    replace HR := Lib.hid (HR.out.call hq)
    refine hK.out _ _ (cellL_call hq (by assumption)) (fun hHeld => ?_)
    clear hK K hq
    (try simp only [Act.put, List.setIfInBounds_toArray, List.set_cons_zero, List.set_cons_succ])
    refine take_yes (i := 2) (v := ?_) rfl (by kernel_rfl) (by kernel_rfl) (by kernel_rfl) (fun _ _ _ h => h) (by rfl) (by assumption) ?_ ?_; rotate_left; (focus ((intro w hSw); (try simp only [CellL] at hSw); go_split_ands; go_simp; (try with_reducible rfl); done))
    (try simp only [Act.put, List.setIfInBounds_toArray, List.set_cons_zero, List.set_cons_succ])
    refine take_yes (i := 3) (v := ?_) rfl (by kernel_rfl) (by kernel_rfl) (by kernel_rfl) (fun _ _ _ h => h) (by rfl) (by assumption) ?_ ?_; rotate_left; (focus ((intro w hSw); (try simp only [CellL] at hSw); go_split_ands; go_simp; (try with_reducible rfl); done))
    (try simp only [Act.put, List.setIfInBounds_toArray, List.set_cons_zero, List.set_cons_succ])
    refine take_yes (i := 4) (v := ?_) rfl (by kernel_rfl) (by kernel_rfl) (by kernel_rfl) (fun _ _ _ h => h) (by rfl) (by assumption) ?_ ?_; rotate_left; (focus ((intro w hSw); (try simp only [CellL] at hSw); go_split_ands; go_simp; (try with_reducible rfl); done))
    (try simp only [Act.put, List.setIfInBounds_toArray, List.set_cons_zero, List.set_cons_succ])
    refine take_yes (i := 5) (v := ?_) rfl (by kernel_rfl) (by kernel_rfl) (by kernel_rfl) (fun _ _ _ h => h) (by rfl) (by assumption) ?_ ?_; rotate_left; (focus ((intro w hSw); (try simp only [CellL] at hSw); go_split_ands; go_simp; (try with_reducible rfl); done))
    (try simp only [Act.put, List.setIfInBounds_toArray, List.set_cons_zero, List.set_cons_succ])
    refine take_yes (i := 7) (v := ?_) rfl (by kernel_rfl) (by kernel_rfl) (by kernel_rfl) (fun _ _ _ h => h) (by rfl) (by assumption) ?_ ?_; rotate_left; (focus ((intro w hSw); (try simp only [CellL] at hSw); go_split_ands; go_simp; (try with_reducible rfl); done))
    (try simp only [Act.put, List.setIfInBounds_toArray, List.set_cons_zero, List.set_cons_succ])
    refine take_yes (i := 8) (v := ?_) rfl (by kernel_rfl) (by kernel_rfl) (by kernel_rfl) (fun _ _ _ h => h) (by rfl) (by assumption) ?_ ?_; rotate_left; (focus ((intro w hSw); (try simp only [CellL] at hSw); go_split_ands; go_simp; (try with_reducible rfl); done))
    (try simp only [Act.put, List.setIfInBounds_toArray, List.set_cons_zero, List.set_cons_succ])
    refine call_one (i := 6) rfl (by kernel_rfl) (by rfl) (fun K hK => ?_)
    go_simp
    with_reducible refine (C2 _ HR.out).out.mono ?_
    rintro e w9 ⟨A9, c9, rfl, hrd, hq⟩
    replace HB := Lib.hid (HB.out.trans (hq.mono HB.out.size))
    replace HR := Lib.hid (HR.out.call hq)
    have HP := Lib.hid hrd
    clear hrd
    refine hK.out _ _ (cellL_call hq (by assumption)) (fun hHeld => ?_)
    clear hK K hq
    (try simp only [Act.put, List.setIfInBounds_toArray, List.set_cons_zero, List.set_cons_succ])
    refine call_one (i := 9) rfl (by kernel_rfl) (by rfl) (fun K hK => ?_)
    go_simp
    with_reducible refine (C3 _ _ _ HP.out).out.mono ?_
    rintro e w9 ⟨rfl, hq⟩
    replace HB := Lib.hid (HB.out.trans (hq.mono HB.out.size))
    replace HR := Lib.hid (HR.out.call hq)
    refine hK.out _ _ (cellL_call hq (by assumption)) (fun hHeld => ?_)
    clear hK K hq
    (try simp only [Act.put, List.setIfInBounds_toArray, List.set_cons_zero, List.set_cons_succ])
    refine take_yes (i := 10) (v := ?_) rfl (by kernel_rfl) (by kernel_rfl) (by kernel_rfl) (fun _ _ _ h => h) (by rfl) (by assumption) ?_ ?_; rotate_left; (focus ((intro w hSw); (try simp only [CellL] at hSw); go_split_ands; go_simp; (try with_reducible rfl); done))
    (try simp only [Act.put, List.setIfInBounds_toArray, List.set_cons_zero, List.set_cons_succ])
    refine take_yes (i := 11) (v := ?_) rfl (by kernel_rfl) (by kernel_rfl) (by kernel_rfl) (fun _ _ _ h => h) (by rfl) (by assumption) ?_ ?_; rotate_left; (focus ((intro w hSw); (try simp only [CellL] at hSw); go_split_ands; go_simp; (try with_reducible rfl); done))
    (try simp only [Act.put, List.setIfInBounds_toArray, List.set_cons_zero, List.set_cons_succ])
    refine wpAnyH_done (by kernel_rfl) ?_ _
    refine NoPanic.normal ?_
    clear hHeld
    go_wp2_with fail
    go_ret
    exact ⟨rfl, HB.out⟩
end Go.Proofs.Ytdlloobdmfoalaa

/-
  Lists of things that hold slices of others: read, owned, appended to; with the blocks that all of it lies in.
-/
namespace Go.Proofs.Ytdlloobdmfoalaa
open Go.RowKit

/-- A row that lies in a block that S lets in. -/
def RowS (w : World) (S : Nat → Prop) (A : Option Addr) (xs : List Value) : Prop :=
  xs = [] ∨ ∃ b o, A = some ⟨b, o, none⟩ ∧ S b ∧ ∀ k u, xs[k]? = some u → w.cell? ⟨b, o + k, none⟩ = some u
/-- What lies in these blocks is as it was. -/
def KeptS (S : Nat → Prop) (w w' : World) : Prop := ∀ p : Addr, S p.block → p.block < w.heap.size → w'.cell? p = w.cell? p
theorem keptS_below {w w' : World} (hb : Below w.heap.size w w') (S : Nat → Prop) : KeptS S w w' := fun _ _ h => hb.cell h
theorem keptS_under {w w' : World} {B : Nat} {S : Nat → Prop} (hb : Below B w w') (h : ∀ g, S g → g < B) : KeptS S w w' := fun _ hs _ => hb.cell (h _ hs)
theorem keptS_grown {w w' : World} {row : Option Nat} {S : Nat → Prop} (hg : w.grownBy w' row) (h : ∀ g, S g → row ≠ some g) : KeptS S w w' := fun p hs hp => hg.cell_far p hp fun e => h _ hs e.symm
theorem KeptS.mono {S T : Nat → Prop} {w w' : World} (h : KeptS T w w') (hs : ∀ g, S g → T g) : KeptS S w w' := fun p hp hl => h p (hs _ hp) hl
theorem row_lt {w : World} {b o : Nat} {xs : List Value} (hne : xs ≠ []) (h : ∀ k u, xs[k]? = some u → w.cell? ⟨b, o + k, none⟩ = some u) : b < w.heap.size := by
  cases xs with
  | nil => exact absurd rfl hne
  | cons x l => exact World.block_lt_of_cell? w _ (h 0 x rfl)
theorem RowS.lives {w : World} {S : Nat → Prop} {A : Option Addr} {xs : List Value} (h : RowS w S A xs) : RowS w (fun g => S g ∧ g < w.heap.size) A xs := by
  by_cases h0 : xs = []
  · exact .inl h0
  · rcases h with h | ⟨b, o, h1, h2, h3⟩
    · exact absurd h h0
    · exact .inr ⟨b, o, h1, ⟨h2, row_lt h0 h3⟩, h3⟩
theorem RowS.mono {w : World} {S T : Nat → Prop} {A : Option Addr} {xs : List Value} (h : RowS w S A xs) (hs : ∀ g, S g → T g) : RowS w T A xs := by
  rcases h with h | ⟨b, o, h1, h2, h3⟩
  · exact .inl h
  · exact .inr ⟨b, o, h1, hs _ h2, h3⟩
theorem RowS.keep {w w' : World} {S : Nat → Prop} {A : Option Addr} {xs : List Value} (h : RowS w S A xs) (hk : KeptS S w w') : RowS w' S A xs := by
  by_cases h0 : xs = []
  · exact .inl h0
  · rcases h with h | ⟨b, o, h1, h2, h3⟩
    · exact absurd h h0
    · exact .inr ⟨b, o, h1, h2, fun k u hu => (hk _ h2 (row_lt h0 h3)).trans (h3 k u hu)⟩
theorem RowS.at_ {w : World} {S : Nat → Prop} {A : Option Addr} {xs : List Value} (h : RowS w S A xs) : RowAt w w.heap.size A xs := by
  rcases h.lives with h | ⟨b, o, h1, h2, h3⟩
  · exact .inl h
  · exact .inr ⟨b, o, h1, h2.2, h3⟩
theorem RowAt.inS {w : World} {B : Nat} {A : Option Addr} {xs : List Value} (h : RowAt w B A xs) : RowS w (fun g => g < B) A xs := h

namespace Kind
variable {P : Program} {α : Type}
/-- A row that reads as these things, in a block that S lets in. -/
structure RdS (k : Kind P α) (w : World) (S : Nat → Prop) (A : Option Addr) (c : Nat) (l : List α) : Prop where
  row : RowS w S A (k.row l)
  room : l.length ≤ c
  cap : c ≤ maxLen
variable {k : Kind P α}
theorem RdS.mono {w : World} {S T : Nat → Prop} {A : Option Addr} {c : Nat} {l : List α} (h : k.RdS w S A c l) (hs : ∀ g, S g → T g) : k.RdS w T A c l := ⟨h.row.mono hs, h.room, h.cap⟩
theorem RdS.lives {w : World} {S : Nat → Prop} {A : Option Addr} {c : Nat} {l : List α} (h : k.RdS w S A c l) : k.RdS w (fun g => S g ∧ g < w.heap.size) A c l := ⟨h.row.lives, h.room, h.cap⟩
theorem RdS.keep {w w' : World} {S : Nat → Prop} {A : Option Addr} {c : Nat} {l : List α} (h : k.RdS w S A c l) (hk : KeptS S w w') : k.RdS w' S A c l := ⟨h.row.keep hk, h.room, h.cap⟩
theorem RdS.call {w w' : World} {S : Nat → Prop} {A : Option Addr} {c : Nat} {l : List α} (h : k.RdS w S A c l) (hb : Below w.heap.size w w') : k.RdS w' S A c l := h.keep (keptS_below hb S)
theorem RdS.rd {w : World} {S : Nat → Prop} {A : Option Addr} {c : Nat} {l : List α} (h : k.RdS w S A c l) : k.Rd w w.heap.size A c l := ⟨h.row.at_, h.room, h.cap⟩
theorem Rd.inS {w : World} {B : Nat} {A : Option Addr} {c : Nat} {l : List α} (h : k.Rd w B A c l) : k.RdS w (fun g => g < B) A c l := ⟨h.row.inS, h.room, h.cap⟩
theorem RdS.nil (w : World) (S : Nat → Prop) (A : Option Addr) (c : Nat) (hc : c ≤ maxLen) : k.RdS w S A c [] := ⟨.inl rfl, Nat.zero_le _, hc⟩
theorem Own.rdS {w : World} {base n c : Nat} {A : Option Addr} {l : List α} (h : k.Own w base (.slice A n c) l) (hn : n = l.length) : k.RdS w (fun g => base ≤ g) A c l := by
  have hr := h.rd
  refine ⟨?_, hr.room, hr.cap⟩
  by_cases h0 : 0 < n
  · obtain ⟨g, c', hv, -, h1, -, -, -⟩ := h.some_ hn h0
    injection hv with hA
    subst hA
    rcases hr.row with h2 | ⟨b, o, h2, h3, h4⟩
    · exact .inl h2
    · refine .inr ⟨b, o, h2, ?_, h4⟩
      injection h2 with h2
      injection h2 with h2
      rw [← h2]; exact h1
  · exact .inl (by rw [List.eq_nil_of_length_eq_zero (by omega : l.length = 0)]; rfl)
end Kind

/-- Things that lie as β (with addresses of what they hold) and mean α. -/
structure Deep (P : Program) (β α : Type) where
  k : Kind P β
  rel : World → (Nat → Prop) → β → α → Prop
  mono : ∀ {w : World} {S T : Nat → Prop} {b : β} {a : α}, rel w S b a → (∀ g, S g → T g) → rel w T b a
  lives : ∀ {w : World} {S : Nat → Prop} {b : β} {a : α}, rel w S b a → rel w (fun g => S g ∧ g < w.heap.size) b a
  keep : ∀ {w w' : World} {S : Nat → Prop} {b : β} {a : α}, rel w S b a → KeptS S w w' → rel w' S b a
namespace Deep
variable {P : Program} {β α : Type} (d : Deep P β α)
/-- Each of these things means that. -/
def All (w : World) (S : Nat → Prop) (bs : List β) (s : List α) : Prop := bs.length = s.length ∧ ∀ (i : Nat) (b : β) (a : α), bs[i]? = some b → s[i]? = some a → d.rel w S b a
/-- A row that reads as these things, all of it in blocks that S lets in. -/
def Rd (w : World) (S : Nat → Prop) (A : Option Addr) (c : Nat) (s : List α) : Prop := ∃ bs : List β, d.k.RdS w S A c bs ∧ d.All w S bs s
variable {d}
theorem All.mono {w : World} {S T : Nat → Prop} {bs : List β} {s : List α} (h : d.All w S bs s) (hs : ∀ g, S g → T g) : d.All w T bs s := ⟨h.1, fun i b a h1 h2 => d.mono (h.2 i b a h1 h2) hs⟩
theorem All.lives {w : World} {S : Nat → Prop} {bs : List β} {s : List α} (h : d.All w S bs s) : d.All w (fun g => S g ∧ g < w.heap.size) bs s := ⟨h.1, fun i b a h1 h2 => d.lives (h.2 i b a h1 h2)⟩
theorem All.keep {w w' : World} {S : Nat → Prop} {bs : List β} {s : List α} (h : d.All w S bs s) (hk : KeptS S w w') : d.All w' S bs s := ⟨h.1, fun i b a h1 h2 => d.keep (h.2 i b a h1 h2) hk⟩
theorem All.append {w : World} {S : Nat → Prop} {bs cs : List β} {s t : List α} (h : d.All w S bs s) (h' : d.All w S cs t) : d.All w S (bs ++ cs) (s ++ t) := by
  refine ⟨by rw [List.length_append, List.length_append, h.1, h'.1], fun i b a h1 h2 => ?_⟩
  by_cases hi : i < bs.length
  · rw [List.getElem?_append_left hi] at h1
    rw [List.getElem?_append_left (by rw [← h.1]; exact hi)] at h2
    exact h.2 i b a h1 h2
  · rw [List.getElem?_append_right (by omega)] at h1
    rw [List.getElem?_append_right (by rw [← h.1]; omega), ← h.1] at h2
    exact h'.2 _ b a h1 h2
theorem All.one {w : World} {S : Nat → Prop} {b : β} {a : α} (h : d.rel w S b a) : d.All w S [b] [a] := ⟨rfl, fun i b' a' h1 h2 => by
  cases i with
  | zero => injection h1 with h1; injection h2 with h2; subst h1 h2; exact h
  | succ i => cases h1⟩
theorem All.nil (w : World) (S : Nat → Prop) : d.All w S [] [] := ⟨rfl, fun i b a h => by cases h⟩
theorem Rd.mono {w : World} {S T : Nat → Prop} {A : Option Addr} {c : Nat} {s : List α} (h : d.Rd w S A c s) (hs : ∀ g, S g → T g) : d.Rd w T A c s := by
  obtain ⟨bs, h1, h2⟩ := h; exact ⟨bs, h1.mono hs, h2.mono hs⟩
theorem Rd.lives {w : World} {S : Nat → Prop} {A : Option Addr} {c : Nat} {s : List α} (h : d.Rd w S A c s) : d.Rd w (fun g => S g ∧ g < w.heap.size) A c s := by
  obtain ⟨bs, h1, h2⟩ := h; exact ⟨bs, h1.lives, h2.lives⟩
theorem Rd.keep {w w' : World} {S : Nat → Prop} {A : Option Addr} {c : Nat} {s : List α} (h : d.Rd w S A c s) (hk : KeptS S w w') : d.Rd w' S A c s := by
  obtain ⟨bs, h1, h2⟩ := h; exact ⟨bs, h1.keep hk, h2.keep hk⟩
theorem Rd.call {w w' : World} {S : Nat → Prop} {A : Option Addr} {c : Nat} {s : List α} (h : d.Rd w S A c s) (hb : Below w.heap.size w w') : d.Rd w' S A c s := h.keep (keptS_below hb S)
theorem Rd.all {w : World} {S : Nat → Prop} {A : Option Addr} {c : Nat} {s : List α} (h : d.Rd w S A c s) : d.Rd w (fun _ => True) A c s := h.mono fun _ _ => trivial
theorem Rd.room {w : World} {S : Nat → Prop} {A : Option Addr} {c : Nat} {s : List α} (h : d.Rd w S A c s) : s.length ≤ c := by
  obtain ⟨bs, h1, h2⟩ := h; rw [← h2.1]; exact h1.room
theorem Rd.max {w : World} {S : Nat → Prop} {A : Option Addr} {c n : Nat} {s : List α} (h : d.Rd w S A c s) (hn : n = s.length) : n ≤ 9223372036854775807 := by
  obtain ⟨bs, h1, h2⟩ := h
  have h3 := h1.room
  have h4 := h1.cap
  have h5 := h2.1
  unfold maxLen at h4
  omega
theorem Rd.nil (w : World) (S : Nat → Prop) (A : Option Addr) (c : Nat) (hc : c ≤ maxLen) : d.Rd w S A c [] := ⟨[], .nil _ _ _ _ hc, .nil _ _⟩
/-- Where the things lie, and what they mean. -/
theorem Rd.at_ {w : World} {S : Nat → Prop} {A : Option Addr} {c : Nat} {s : List α} (h : d.Rd w S A c s) (hp : 0 < s.length) :
    ∃ b o, A = some ⟨b, o, none⟩ ∧ S b ∧ b < w.heap.size ∧ ∀ i x, s[i]? = some x → ∃ y, d.rel w S y x ∧ ∀ j u, (d.k.cells y)[j]? = some u → w.cell? ⟨b, o + (i * d.k.size + j), none⟩ = some u := by
  obtain ⟨bs, h1, h2, h3⟩ := h
  rcases h1.lives.row with h0 | ⟨b, o, e1, ⟨e2, e3⟩, e4⟩
  · exfalso
    have := congrArg List.length h0
    rw [d.k.row_len, List.length_nil] at this
    have := Nat.mul_pos (show 0 < bs.length by omega) d.k.pos
    omega
  · refine ⟨b, o, e1, e2, e3, fun i x hx => ?_⟩
    obtain ⟨y, hy⟩ : ∃ y, bs[i]? = some y := ⟨_, List.getElem?_eq_getElem (by have := (List.getElem?_eq_some_iff.1 hx).1; omega)⟩
    refine ⟨y, h3 i y x hy hx, fun j u hu => e4 _ _ ?_⟩
    have hj : j < d.k.size := by
      rw [← d.k.len y]
      exact (List.getElem?_eq_some_iff.1 hu).1
    rw [d.k.row_get hy hj]; exact hu
variable (d)
/-- A row of the call's own; what its things hold lies off it, in blocks that S lets in. -/
def Own (w : World) (base : Nat) (S : Nat → Prop) (v : Value) (s : List α) : Prop := ∃ bs : List β, d.k.Own w base v bs ∧ d.All w (fun g => S g ∧ v.ownBlock ≠ some g) bs s
variable {d}
theorem Own.nil (w : World) (base : Nat) (S : Nat → Prop) : d.Own w base S (.slice none 0 0) [] := ⟨[], Kind.Own.nil _ _, .nil _ _⟩
theorem Own.below {w w' : World} {base : Nat} {S : Nat → Prop} {v : Value} {s : List α} (h : d.Own w base S v s) (hb : Below w.heap.size w w') : d.Own w' base S v s := by
  obtain ⟨bs, h1, h2⟩ := h
  exact ⟨bs, h1.below hb, h2.keep (keptS_below hb _)⟩
theorem Own.alloc {w : World} {base : Nat} {S : Nat → Prop} {v : Value} {s : List α} (h : d.Own w base S v s) (o : Obj) : d.Own (w.alloc o) base S v s := h.below (below_new w o)
theorem Own.lt {w : World} {base : Nat} {S : Nat → Prop} {v : Value} {s : List α} (h : d.Own w base S v s) : ∀ g, v.ownBlock = some g → base ≤ g ∧ g < w.heap.size := by
  obtain ⟨bs, h1, -⟩ := h; exact h1.lt
/-- Behind an append: what was there, and what has come. -/
theorem Own.app {w w' : World} {base : Nat} {S : Nat → Prop} {v v' : Value} {bs cs : List β} {s t : List α} (hs : d.All w (fun g => S g ∧ v.ownBlock ≠ some g) bs s) (ht : d.All w (fun g => S g ∧ v.ownBlock ≠ some g) cs t)
    (ho : d.k.Own w' base v' (bs ++ cs)) (hg : w.grownBy w' v.ownBlock) (hv : v'.ownBlock = v.ownBlock ∨ v'.ownBlock = some w.heap.size) : d.Own w' base S v' (s ++ t) := by
  refine ⟨bs ++ cs, ho, ((hs.append ht).lives.keep (keptS_grown hg fun g h => h.1.2)).mono fun g h => ⟨h.1.1, ?_⟩⟩
  rcases hv with e | e
  · rw [e]; exact h.1.2
  · rw [e]; intro h1; injection h1 with h1; have := h.2; omega
theorem Own.rd {w : World} {base n : Nat} {S : Nat → Prop} {v : Value} {s : List α} (h : d.Own w base S v s) (hn : n = s.length) (hS : ∀ g, base ≤ g → S g) : ∃ A c, v = .slice A n c ∧ d.Rd w S A c s := by
  obtain ⟨bs, h1, h2⟩ := h
  obtain ⟨A, c, rfl, -⟩ := h1.read_n (hn.trans h2.1.symm)
  exact ⟨A, c, rfl, bs, (h1.rdS (hn.trans h2.1.symm)).mono hS, h2.mono fun g h => h.1⟩
variable (d)
/-- What a call answers that may hand on what was handed in (in blocks that S lets in), or what it made. -/
def Ret (w : World) (S : Nat → Prop) (N : Nat) (s : List α) (e : Ending) (w' : World) : Prop := ∃ A c, e = .returned (.slice A N c) ∧ d.Rd w' (fun g => S g ∨ w.heap.size ≤ g) A c s ∧ Below w.heap.size w w'
variable {d}
/-- What a call has made since, or hands on, lies off a row that was there. -/
theorem All.off {w : World} {S T : Nat → Prop} {B : Nat} {v : Value} {cs : List β} {t : List α} (h : d.All w (fun g => S g ∨ B ≤ g) cs t) (hS : ∀ g, S g → T g ∧ v.ownBlock ≠ some g) (hB : ∀ g, B ≤ g → T g) (hv : ∀ g, v.ownBlock = some g → g < B) : d.All w (fun g => T g ∧ v.ownBlock ≠ some g) cs t :=
  h.mono fun g hg => by
    rcases hg with hg | hg
    · exact hS g hg
    · exact ⟨hB g hg, fun e => by have := hv g e; omega⟩
end Deep
/-- A flat kind as a deep one. -/
def Kind.deep {P : Program} {α : Type} (k : Kind P α) : Deep P α α where
  k := k
  rel := fun _ _ b a => b = a
  mono := fun h _ => h
  lives := fun h => h
  keep := fun h _ => h
end Go.Proofs.Ytdlloobdmfoalaa

/-
  Layer 14 (vset), the document's words: a set that a call makes, Known by Known; what is made of two sets.
-/
namespace Go.Proofs.Ytdlloobdmfoalaa
open Go.RowKit

/-- A Known as it lies, and what it means. -/
noncomputable def dKn : Deep Try.prog Ks Kn where
  k := kKs
  rel := fun w S b a => b.rep = a.rep ∧ b.n = a.runs.length ∧ kRn.RdS w S b.A b.c a.runs
  mono := fun h hs => ⟨h.1, h.2.1, h.2.2.mono hs⟩
  lives := fun h => ⟨h.1, h.2.1, h.2.2.lives⟩
  keep := fun h hk => ⟨h.1, h.2.1, h.2.2.keep hk⟩
theorem rdk_in {w : World} {B : Nat} {A : Option Addr} {c : Nat} {s : List Kn} (h : RdK w B A c s) : dKn.Rd w (fun g => g < B) A c s := by
  obtain ⟨ks, h1, h2, h3⟩ := h
  exact ⟨ks, h1.inS, h2, fun i k x hk hx => ⟨(h3 i k x hk hx).1, (h3 i k x hk hx).2.1, (h3 i k x hk hx).2.2.inS⟩⟩
theorem rdk_of {w : World} {S : Nat → Prop} {A : Option Addr} {c : Nat} {s : List Kn} (h : dKn.Rd w S A c s) : RdK w w.heap.size A c s := by
  obtain ⟨ks, h1, h2, h3⟩ := h
  exact ⟨ks, h1.rd, h2, fun i k x hk hx => ⟨(h3 i k x hk hx).1, (h3 i k x hk hx).2.1, (h3 i k x hk hx).2.2.rd⟩⟩
/-- A row of runs that a call has made since then holds as a new Known. -/
theorem holds_new {w2 w3 : World} {base n c : Nat} {A : Option Addr} {l : List Rn} {v : Value} {ks : List Ks} (ho : kKs.Own w2 base v ks) (hr : kRn.Own w3 w2.heap.size (.slice A n c) l) (hn : n = l.length) (hb : base ≤ w2.heap.size) (r : Int) : dKn.rel w3 (fun g => base ≤ g ∧ v.ownBlock ≠ some g) ⟨r, A, n, c⟩ ⟨r, l⟩ :=
  ⟨rfl, hn, (hr.rdS hn).mono fun g hg => ⟨by omega, fun e => by have := (ho.lt g e).2; omega⟩⟩
def RetK (w : World) (N : Nat) (s : List Kn) (e : Ending) (w' : World) : Prop := ∃ A c, e = .returned (.slice A N c) ∧ RdK w' w'.heap.size A c s ∧ Below w.heap.size w w'
/-- A set that a call made, all of it new. -/
def RetKF (w : World) (N : Nat) (s : List Kn) (e : Ending) (w' : World) : Prop := ∃ A c, e = .returned (.slice A N c) ∧ dKn.Rd w' (fun g => w.heap.size ≤ g) A c s ∧ Below w.heap.size w w'
theorem RetKF.to {w : World} {N : Nat} {s : List Kn} {e : Ending} {w' : World} (h : RetKF w N s e w') : RetK w N s e w' := by
  obtain ⟨A, c, h1, h2, h3⟩ := h
  exact ⟨A, c, h1, rdk_of h2, h3⟩
theorem ks_row (w : World) (r : Int) (A : Option Addr) (n c : Nat) : RowAt (w.alloc (.cells #[.int .i64 r, .slice A n c] 48)) (w.heap.size + 1) (some ⟨w.heap.size, 0, none⟩) (kKs.row [⟨r, A, n, c⟩]) := (Kind.rd_new (k := kKs) (l := [⟨r, A, n, c⟩]) (n := 1) (by rw [kKs.row_one]; rfl) rfl (by simp)).row
set_option maxRecDepth 100000 in
set_option maxHeartbeats 4000000 in
theorem ref_vmake_new (op : Int) (A B : Option Addr) (c d n m : Nat) (a b : List Kn) (hn : n = a.length) (hm : m = b.length) (hnl : ∀ r, (runsV a r).length ≤ 20000) (hml : ∀ r, (runsV b r).length ≤ 20000) (U : List Kn) (hU : makeS op a b = U) (N : Nat) (hN : U.length = N) (w : World) (ha : RdK w w.heap.size A c a) (hb : RdK w w.heap.size B d b) :
    Calls Try.prog 22 #[.int .i64 op, .slice A n c, .slice B m d] w (RetKF w N U) := by
  have HA := Lib.hid ha
  have HB := Lib.hid hb
  have HNA := Lib.hid hn
  have HNB := Lib.hid hm
  have HLA := Lib.hid hnl
  have HLB := Lib.hid hml
  have HN := Lib.hid hN
  obtain ⟨f, hf⟩ : ∃ f, (fun r => makeC op (runsV a r) (runsV b r)) = f := ⟨_, rfl⟩
  have HF := Lib.hid (fun r => (congrFun hf r : makeC op (runsV a r) (runsV b r) = f r))
  have HU := Lib.hid (show colS f 16 = U by rw [← hU, ← hf]; rfl)
  clear ha hb hn hm hnl hml hU hN hf
  go_enter Try.func22, Try.ntmps22
  go_wp2_with fail
  go_loopw [7, 8, 9] (fun v i _ wr => ∃ k : Nat, k ≤ 16 ∧ Hid (dKn.Own wr w.heap.size (fun g => w.heap.size ≤ g) v (colS f k)) ∧ i = .int .i64 ((k : Int) + 1) ∧ Hid (Below w.heap.size w wr)) (fun _ i _ _ => 17 - (intOf i).toNat)
  case atStart => exact ⟨0, by omega, Deep.Own.nil _ _ _, rfl, Below.refl _ _⟩
  case round =>
    obtain ⟨k, hk, HO, rfl, HW⟩ := hrel
    by_cases hlt : k < 16
    · have hd : decide ((k : Int) + 1 ≤ 16) = true := decide_eq_true (by omega)
      have HS := Lib.hid (show colS f (k + 1) = colS f k ++ putK ((k : Int) + 1) (f ((k : Int) + 1)) from rfl)
      obtain ⟨N1, hN1⟩ : ∃ N, (runsV a ((k : Int) + 1)).length = N := ⟨_, rfl⟩
      obtain ⟨N2, hN2⟩ : ∃ N, (runsV b ((k : Int) + 1)).length = N := ⟨_, rfl⟩
      obtain ⟨N3, hN3⟩ : ∃ N, (f ((k : Int) + 1)).length = N := ⟨_, rfl⟩
      have hl1 := HLA.out ((k : Int) + 1)
      have hl2 := HLB.out ((k : Int) + 1)
      rw [hN1] at hl1
      rw [hN2] at hl2
      have C1 := fun w h => Lib.hid (ref_vruns A c n a ((k : Int) + 1) HNA.out N1 hN1 (by omega) w h)
      have C2 := fun w h => Lib.hid (ref_vruns B d m b ((k : Int) + 1) HNB.out N2 hN2 (by omega) w h)
      have C3 := fun A B c d w h1 h2 => Lib.hid (ref_cmake_own op A B c d N1 N2 (runsV a ((k : Int) + 1)) (runsV b ((k : Int) + 1)) hN1.symm hN2.symm (by omega) (by omega) (f ((k : Int) + 1)) (HF.out ((k : Int) + 1)) N3 hN3 w h1 h2)
      have HN3 := Lib.hid hN3
      have HAr := Lib.hid (HA.out.call HW.out)
      have HBr := Lib.hid (HB.out.call HW.out)
      have hlk := colS_len f k
      obtain ⟨ks, ho, hall⟩ := HO.out
      have hlen := hall.1
      have HKO := Lib.hid ho
      have HKA := Lib.hid hall
      have HLE := Lib.hid (show ks.length + [(⟨(k : Int) + 1, none, 0, 0⟩ : Ks)].length ≤ 1000000 by rw [hlen, List.length_singleton]; omega)
      by_cases h0 : N3 = 0
      · have HP := Lib.hid (show putK ((k : Int) + 1) (f ((k : Int) + 1)) = [] by rw [List.eq_nil_of_length_eq_zero (hN3.trans h0)]; rfl)
        subst h0
        clear hN1 hN2 hN3 hl1 hl2 ho hall hlen hlk HLE HKO HKA
        go_wp2_with (first
          | ((with_reducible refine (C1 _ HAr.out).out.mono ?_); rintro e w1 ⟨A1, c1, rfl, hrd, hq⟩; replace HBr := Lib.hid (HBr.out.call hq); replace HO := Lib.hid (HO.out.below hq); replace HW := Lib.hid (HW.out.trans (hq.mono HW.out.size)); have HX := Lib.hid hrd; clear hrd hq)
          | ((with_reducible refine (C2 _ HBr.out).out.mono ?_); rintro e w2 ⟨A2, c2, rfl, hrd, hq⟩; replace HX := Lib.hid (HX.out.call hq); replace HO := Lib.hid (HO.out.below hq); replace HW := Lib.hid (HW.out.trans (hq.mono HW.out.size)); have HY := Lib.hid hrd; clear hrd hq)
          | ((with_reducible refine (C3 _ _ _ _ _ HX.out HY.out).out.mono ?_); rintro e w3 ⟨A3, c3, rfl, hrd, hq⟩; replace HO := Lib.hid (HO.out.below hq); replace HW := Lib.hid (HW.out.trans (hq.mono HW.out.size)); clear hrd hq))
        go_roundw
        case rel => exact ⟨k + 1, by omega, show dKn.Own _ _ _ _ _ from by rw [HS.out, HP.out, List.append_nil]; exact HO.out, by go_num, HW⟩
        case measure => simp [intOf]; omega
      · have HP := Lib.hid (show f ((k : Int) + 1) ≠ [] from fun h => h0 (by rw [← hN3, h]; rfl))
        have hp1 : decide ((0 : Int) < (N3 : Int)) = true := decide_eq_true (by omega)
        have hp2 : decide (0 < N3) = true := decide_eq_true (by omega)
        have hmxN : N3 ≤ 9223372036854775807 ∨ True := .inr trivial
        clear hN1 hN2 hN3 hl1 hl2 ho hall hlen hlk HO hmxN
        go_wp2_with (first
          | ((with_reducible refine (C1 _ HAr.out).out.mono ?_); rintro e w1 ⟨A1, c1, rfl, hrd, hq⟩; replace HBr := Lib.hid (HBr.out.call hq); replace HKO := Lib.hid (Kind.Own.below HKO.out hq); replace HKA := Lib.hid (HKA.out.keep (keptS_below hq _)); replace HW := Lib.hid (HW.out.trans (hq.mono HW.out.size)); have HX := Lib.hid hrd; clear hrd hq)
          | ((with_reducible refine (C2 _ HBr.out).out.mono ?_); rintro e w2 ⟨A2, c2, rfl, hrd, hq⟩; replace HX := Lib.hid (HX.out.call hq); replace HKO := Lib.hid (Kind.Own.below HKO.out hq); replace HKA := Lib.hid (HKA.out.keep (keptS_below hq _)); replace HW := Lib.hid (HW.out.trans (hq.mono HW.out.size)); have HY := Lib.hid hrd; clear hrd hq)
          | ((with_reducible refine (C3 _ _ _ _ _ HX.out HY.out).out.mono ?_); rintro e w3 ⟨A3, c3, rfl, hrd, hq⟩; have HH := Lib.hid (holds_new HKO.out hrd HN3.out.symm HW.out.size ((k : Int) + 1)); replace HKO := Lib.hid (Kind.Own.below HKO.out hq); replace HKA := Lib.hid (HKA.out.keep (keptS_below hq _)); replace HW := Lib.hid (HW.out.trans (hq.mono HW.out.size)); have hm3 := rd_maxC hrd.rd HN3.out.symm; clear hrd hq)
          | (at_builtin; refine wpList_app_k kKs rfl (.tmp 25) (.tmp 29) rfl w.heap.size _ ks rfl (Kind.Own.alloc HKO.out _) _ (some ⟨w3.heap.size, 0, none⟩) 1 1 [⟨(k : Int) + 1, A3, N3, c3⟩] rfl rfl (ks_row w3 _ _ _ _) HLE.out (by decide) (cle_alloc HW.out.size _) ?_; intro v5 w5 hown5 hg5 hb5 hv5; have HO5 := Lib.hid (Deep.Own.app (HKA.out.keep (keptS_below (below_new w3 _) _)) (.one (dKn.keep HH.out (keptS_below (below_new w3 _) _))) hown5 hg5 hv5); have HW5 := Lib.hid ((HW.out.alloc HW.out.size _).trans hb5); clear hown5 hg5 hb5 hv5))
        go_roundw
        case rel => exact ⟨k + 1, by omega, show dKn.Own _ _ _ _ _ from by rw [HS.out, putK_some HP.out]; exact HO5.out, by go_num, HW5⟩
        case measure => simp [intOf]; omega
    · have hd : decide ((k : Int) + 1 ≤ 16) = false := decide_eq_false (by omega)
      obtain rfl : k = 16 := by omega
      obtain ⟨A9, c9, rfl, hrd⟩ := HO.out.rd (n := N) (by rw [HU.out]; exact HN.out.symm) fun _ h => h
      rw [HU.out] at hrd
      have HD := Lib.hid hrd
      clear hrd HO
      go_wp2_with fail
      go_ret
      exact ⟨A9, c9, rfl, HD.out, HW.out⟩
theorem ref_vmake (op : Int) (A B : Option Addr) (c d n m : Nat) (a b : List Kn) (hn : n = a.length) (hm : m = b.length) (hnl : ∀ r, (runsV a r).length ≤ 20000) (hml : ∀ r, (runsV b r).length ≤ 20000) (U : List Kn) (hU : makeS op a b = U) (N : Nat) (hN : U.length = N) (w : World) (ha : RdK w w.heap.size A c a) (hb : RdK w w.heap.size B d b) :
    Calls Try.prog 22 #[.int .i64 op, .slice A n c, .slice B m d] w (RetK w N U) :=
  (ref_vmake_new op A B c d n m a b hn hm hnl hml U hU N hN w ha hb).mono fun _ _ h => h.to
end Go.Proofs.Ytdlloobdmfoalaa

/-
  Layer 14 (vset), the document's words: the right set; the set of a version.
-/
namespace Go.Proofs.Ytdlloobdmfoalaa
open Go.RowKit

theorem rdk_nil (w : World) (B : Nat) (A : Option Addr) : RdK w B A 0 [] := ⟨[], Kind.Rd.empty _ _ _ _ (Nat.zero_le _), rfl, fun i k x h => by cases h⟩
theorem ref_vof_new (A : Option Addr) (c n : Nat) (a : List Kn) (hn : n = a.length) (hnl : ∀ r, (runsV a r).length ≤ 20000) (U : List Kn) (hU : ofS a = U) (N : Nat) (hN : U.length = N) (w : World) (ha : RdK w w.heap.size A c a) :
    Calls Try.prog 16 #[.slice A n c] w (RetKF w N U) := by
  have C := fun (W : World) (h1 : RdK W W.heap.size A c a) (h2 : RdK W W.heap.size (some ⟨w.heap.size, 0, none⟩) 0 []) => Lib.hid (ref_vmake_new 1 A (some ⟨w.heap.size, 0, none⟩) c 0 n 0 a [] hn rfl hnl (fun _ => Nat.zero_le _) U hU N hN W h1 h2)
  have HB := Lib.hid (below_new w (.cells #[] 48))
  have H1 := Lib.hid (ha.call HB.out)
  have H2 := Lib.hid (rdk_nil (w.alloc (.cells #[] 48)) (w.alloc (.cells #[] 48)).heap.size (some ⟨w.heap.size, 0, none⟩))
  clear hn ha hU hN hnl
  go_enter Try.func16, Try.ntmps16
  go_wp2_with ((with_reducible refine (C _ H1.out H2.out).out.mono ?_); rintro e w1 ⟨A1, c1, rfl, hrd, hq⟩; have HF := Lib.hid (show RetKF w N U (.returned (.slice A1 N c1)) w1 from ⟨A1, c1, rfl, hrd.mono fun g hg => Nat.le_trans HB.out.size hg, HB.out.trans (hq.mono HB.out.size)⟩); clear hrd hq)
  go_ret
  exact HF.out
theorem ref_vof (A : Option Addr) (c n : Nat) (a : List Kn) (hn : n = a.length) (hnl : ∀ r, (runsV a r).length ≤ 20000) (U : List Kn) (hU : ofS a = U) (N : Nat) (hN : U.length = N) (w : World) (ha : RdK w w.heap.size A c a) :
    Calls Try.prog 16 #[.slice A n c] w (RetK w N U) :=
  (ref_vof_new A c n a hn hnl U hU N hN w ha).mono fun _ _ h => h.to
/-- One Known, newly made. -/
theorem rdk_one {w : World} {A : Option Addr} {n c : Nat} {l : List Rn} (r : Int) (hn : n = l.length) (h : kRn.Rd w w.heap.size A c l) : RdK (w.alloc (.cells #[.int .i64 r, .slice A n c] 48)) (w.alloc (.cells #[.int .i64 r, .slice A n c] 48)).heap.size (some ⟨w.heap.size, 0, none⟩) 1 [⟨r, l⟩] := by
  refine ⟨[⟨r, A, n, c⟩], ?_, rfl, fun i k x hk hx => ?_⟩
  · rw [show (w.alloc (.cells #[.int .i64 r, .slice A n c] 48)).heap.size = w.heap.size + 1 from by simp]
    exact Kind.rd_new (k := kKs) (l := [⟨r, A, n, c⟩]) rfl rfl (by simp)
  · match i with
    | 0 => injection hk with hk; injection hx with hx; subst hk hx; exact ⟨rfl, hn, h.call (below_new _ _)⟩
    | i + 1 => cases hk
noncomputable def oneW (w : World) (x y : Int) : World := (w.alloc (.cells #[.int .i64 x, .int .i64 y] 25)).alloc (.cells #[.int .i64 y, .int .i64 y] 45)
theorem oneW_rd (w : World) (x y : Int) : kRn.Rd (oneW w x y) (oneW w x y).heap.size (some ⟨w.heap.size + 1, 0, none⟩) 1 [⟨y, y⟩] := by
  have h := Kind.rd_new (k := kRn) (w := w.alloc (.cells #[.int .i64 x, .int .i64 y] 25)) (cs := #[.int .i64 y, .int .i64 y]) (t := 45) (l := [⟨y, y⟩]) (n := 1) rfl rfl (by simp)
  unfold oneW
  rw [show ((w.alloc (.cells #[.int .i64 x, .int .i64 y] 25)).alloc (.cells #[.int .i64 y, .int .i64 y] 45)).heap.size = (w.alloc (.cells #[.int .i64 x, .int .i64 y] 25)).heap.size + 1 from by simp]
  rw [show (w.alloc (.cells #[.int .i64 x, .int .i64 y] 25)).heap.size = w.heap.size + 1 from by simp] at h ⊢
  exact h
theorem oneW_below (w : World) (x y : Int) : Below w.heap.size w (oneW w x y) := (below_new _ _).trans ((below_new _ _).mono (by simp))
theorem oneW_size (w : World) (x y : Int) : (oneW w x y).heap.size = w.heap.size + 2 := by unfold oneW; simp
theorem ref_vone (v : Vr) (x y : Int) (hx : v.rep = x) (hy : v.cnt = y) (w : World) : Calls Try.prog 41 #[.agg #[.int .i64 x, .int .i64 y]] w (RetK w 1 (oneS v)) := by
  have HR := Lib.hid (rdk_one x rfl (oneW_rd w x y))
  rw [oneW_size] at HR
  have HB := Lib.hid ((oneW_below w x y).trans ((below_new (oneW w x y) (.cells #[.int .i64 x, .slice (some ⟨w.heap.size + 1, 0, none⟩) 1 1] 48)).mono (oneW_below w x y).size))
  have HV := Lib.hid (show oneS v = [⟨x, [⟨y, y⟩]⟩] by unfold oneS; rw [hx, hy])
  have HF := Lib.hid (show RetK w 1 (oneS v) (.returned (.slice (some ⟨w.heap.size + 2, 0, none⟩) 1 1)) _ from ⟨_, _, rfl, by rw [HV.out]; exact HR.out, HB.out⟩)
  unfold oneW at HF
  clear HR HB HV hx hy
  go_enter Try.func41, Try.ntmps41
  go_wp2_with fail
  go_ret
  exact HF.out
end Go.Proofs.Ytdlloobdmfoalaa
