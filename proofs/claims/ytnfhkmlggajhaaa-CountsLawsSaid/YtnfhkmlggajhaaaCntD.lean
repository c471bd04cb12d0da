/-
  Layer 13 (counts), the document's words: the right list of what is meant.
-/
import Derived.Test.YtnfhkmlggajhaaaCntC
import Derived.Deep.CutRange
namespace Go.Proofs.Ytnfhkmlggajhaaa
open Go.RowKit

def RetC (w : World) (N : Nat) (l : List Rn) (e : Ending) (w' : World) : Prop := ∃ A c, e = .returned (.slice A N c) ∧ kRn.Rd w' w'.heap.size A c l ∧ Below w.heap.size w w'
/-- .. of the call's own: made since it began. -/
def RetOC (w : World) (N : Nat) (l : List Rn) (e : Ending) (w' : World) : Prop := ∃ A c, e = .returned (.slice A N c) ∧ kRn.Own w' w.heap.size (.slice A N c) l ∧ Below w.heap.size w w'
theorem RetOC.ret {w w' : World} {N : Nat} {l : List Rn} {e : Ending} (h : RetOC w N l e w') : RetC w N l e w' := by
  obtain ⟨A, c, h1, h2, h3⟩ := h
  exact ⟨A, c, h1, h2.rd, h3⟩
theorem rn_row (w : World) (x y : Int) : RowAt (w.alloc (.cells #[.int .i64 x, .int .i64 y] 26)) (w.heap.size + 1) (some ⟨w.heap.size, 0, none⟩) (kRn.row [⟨x, y⟩]) := (Kind.rd_new (k := kRn) (l := [⟨x, y⟩]) (n := 1) (by rw [kRn.row_one]; rfl) rfl (by simp)).row
theorem own_to {w : World} {base g n c D : Nat} {dn : List Rn} {r : Rn} (h : kRn.Own w base (.slice (some ⟨g, 0, none⟩) n c) (dn ++ [r])) (hn : n = (dn ++ [r]).length) (hD : dn.length = D) (y : Int) :
    kRn.Own (w.setCell ⟨g, D * 2 + 1, none⟩ (.int .i64 y)) base (.slice (some ⟨g, 0, none⟩) n c) (dn ++ [⟨r.fr, y⟩]) := by
  subst hD
  have g1 : (dn ++ [r])[dn.length]? = some r := by rw [List.getElem?_append_right (Nat.le_refl _), Nat.sub_self]; rfl
  have h1 := h.stored (j := 1) (y := ⟨r.fr, y⟩) (v := .int .i64 y) hn g1 (by decide) rfl
  rwa [show (dn ++ [r]).set dn.length ⟨r.fr, y⟩ = dn ++ [⟨r.fr, y⟩] from by simp] at h1
set_option maxRecDepth 100000 in
set_option maxHeartbeats 8000000 in
theorem ref_cmake_own (op : Int) (A B : Option Addr) (c d n m : Nat) (a b : List Rn) (hn : n = a.length) (hm : m = b.length) (hnl : n ≤ 100000) (hml : m ≤ 100000) (U : List Rn) (hU : makeC op a b = U) (N : Nat) (hN : U.length = N) (w : World) (ha : kRn.Rd w w.heap.size A c a) (hb : kRn.Rd w w.heap.size B d b) :
    Calls Try.prog 19 #[.int .i64 op, .slice A n c, .slice B m d] w (RetOC w N U) := by
  have HA := Lib.hid ha
  have HB := Lib.hid hb
  obtain ⟨E, hE⟩ : ∃ E, edgesC a b = E := ⟨_, rfl⟩
  obtain ⟨M, hM⟩ : ∃ M, E.length = M := ⟨_, rfl⟩
  have ED := fun w ha hb => Lib.hid (ref_cedges A B c d n m a b hn hm hnl hml M (by rw [hE]; exact hM) w ha hb)
  have HEB := Lib.hid (show ∀ x ∈ E, 0 < x ∧ x ≤ 1099511627777 from fun x hx => by
    have h := edgesC_ok a b
    rw [hE] at h
    exact ⟨upC_all h.1 x hx, h.2.1 x hx⟩)
  have hM9 : M ≤ 400000 := by
    have h1 := edges_lenC b (a.foldl addC [])
    have h2 := edges_lenC a []
    simp only [List.length_nil] at h2
    unfold edgesC at hE
    rw [hE] at h1
    omega
  obtain ⟨f, hf⟩ : ∃ f, isC op a b = f := ⟨_, rfl⟩
  have HF := Lib.hid (show ∀ x, gC op (hasC a x) (hasC b x) = f x from fun x => by rw [← hf]; rfl)
  have HU := Lib.hid (show mkC f E none = U by rw [← hU]; unfold makeC; rw [hE, hf])
  have HNN := Lib.hid hN
  have HM := Lib.hid hM
  have HNA := Lib.hid hn
  have HNB := Lib.hid hm
  rw [hE] at ED
  clear hE hf hU hn hm ha hb hN hM
  go_enter Try.func19, Try.ntmps19
  go_wp2_with ((with_reducible refine (ED _ HA.out HB.out).out.mono ?_); rintro e w1 ⟨A1, c1, rfl, hrd, hb1⟩; have HD := Lib.hid hrd; have HB1 := Lib.hid hb1; clear hrd hb1)
  clear ED
  have hmc : M ≤ c1 := by rw [← HM.out]; exact HD.out.room
  go_loopw [8, 9] (fun v i wr => ∃ (k : Nat) (o : Option Rn) (dn : List Rn), k ≤ M ∧ Hid (U = dn ++ mkC f (E.drop k) o) ∧ Hid (kRn.Own wr w1.heap.size v (dn ++ o.toList)) ∧ Hid (o = none → dn = []) ∧ (dn ++ o.toList).length ≤ k ∧ i = .int .i64 k ∧ Hid (Below w1.heap.size w1 wr)) (fun _ i _ => M - (intOf i).toNat)
  case atStart => exact ⟨0, none, [], by omega, HU.out.symm, Kind.Own.nil _ _, fun _ => rfl, by simp, rfl, Below.refl _ _⟩
  case round =>
    obtain ⟨k, o, dn, hk, HL, HO, HE0, hol, rfl, HBW⟩ := hrel
    obtain ⟨n9, hn9⟩ : ∃ n9, (dn ++ o.toList).length = n9 := ⟨_, rfl⟩
    obtain ⟨A9, c9, rfl, -⟩ := HO.out.read_n hn9.symm
    have HN9 := Lib.hid hn9
    rw [hn9] at hol
    clear hn9
    have hkw : IntKind.i64.wrap ((k : Int) + 1) = (k : Int) + 1 := IntWalk.i64_in _ (by omega)
    by_cases hlt : k + 1 < M
    · obtain ⟨X, hgx, hdx, hmx⟩ := cnt_get (l := E) (k := k) (by have := HM.out; omega)
      obtain ⟨Y, hgy, hdy, hmy⟩ := cnt_get (l := E) (k := k + 1) (by have := HM.out; omega)
      obtain ⟨b1, o1, rfl, hbl1, hcell⟩ := its_at HD.out (by have := HM.out; omega)
      have e0 := ((bcell HBW.out).1 _ _ hbl1).trans (hcell k X hgx)
      have e1 := ((bcell HBW.out).1 _ _ hbl1).trans (hcell (k + 1) Y hgy)
      have hX9 := HEB.out X hmx
      have hY9 := HEB.out Y hmy
      have hXw : IntKind.i64.wrap (X - 1) = X - 1 := IntWalk.i64_in _ (by omega)
      have hYw : IntKind.i64.wrap (Y - 1) = Y - 1 := IntWalk.i64_in _ (by omega)
      have hk0 : (0 : Int) ≤ (k : Int) := by omega
      have hkn : (k : Int) < (M : Int) := by omega
      have hk1 : (0 : Int) ≤ (k : Int) + 1 := by omega
      have hkn1 : (k : Int) + 1 < (M : Int) := by omega
      have hkd : decide ((k : Int) + 1 < (M : Int)) = true := decide_eq_true (by omega)
      have hkd2 : decide (k + 1 < M) = true := decide_eq_true hlt
      have HRW := fun W : World => Lib.hid (rn_row W X (Y - 1))
      have HLE := Lib.hid (show (dn ++ o.toList).length + [(⟨X, Y - 1⟩ : Rn)].length ≤ 1000000 by rw [HN9.out, List.length_singleton]; omega)
      obtain ⟨x, hx⟩ : ∃ x, hasC a X = x := ⟨_, rfl⟩
      obtain ⟨y, hy⟩ : ∃ y, hasC b X = y := ⟨_, rfl⟩
      obtain ⟨v, hv⟩ : ∃ v, gC op x y = v := ⟨_, rfl⟩
      have hfx : f X = v := by rw [← HF.out, hx, hy, hv]
      have CA := Lib.hid (fun (L : List (Addr × Value)) => fun (W : World) (hC : CellL wr L W) => (ref_chas A c n a X HNA.out x hx W (HA.out.call (HB1.out.trans ((HBW.out.trans ((cellL_size hC).mono HBW.out.size)).mono HB1.out.size)))).mono fun (e : Ending) (W' : World) ⟨h1, h2⟩ => (⟨h1, cellL_call h2 hC⟩ : e = Ending.returned (.bool x) ∧ CellL wr L W'))
      have CB := Lib.hid (fun (L : List (Addr × Value)) => fun (W : World) (hC : CellL wr L W) => (ref_chas B d m b X HNB.out y hy W (HB.out.call (HB1.out.trans ((HBW.out.trans ((cellL_size hC).mono HBW.out.size)).mono HB1.out.size)))).mono fun (e : Ending) (W' : World) ⟨h1, h2⟩ => (⟨h1, cellL_call h2 hC⟩ : e = Ending.returned (.bool y) ∧ CellL wr L W'))
      have HC := Lib.hid (show CellL wr [(⟨b1, o1 + k, none⟩, .int .i64 X), (⟨b1, o1 + (k + 1), none⟩, .int .i64 Y)] wr from ⟨e0, e1, Below.refl _ _⟩)
      have HV := Lib.hid hv
      have HL1 := Lib.hid (fun h : v = false => show U = dn ++ mkC f (E.drop (k + 1)) o from HL.out.trans (by rw [hdx, hdy, mkC_out (hfx.trans h)]))
      have HL2 := Lib.hid (fun h : v = true => fun h' : o = none => show U = dn ++ mkC f (E.drop (k + 1)) (some ⟨X, Y - 1⟩) from HL.out.trans (by rw [hdx, hdy, h', mkC_on (hfx.trans h)]))
      have HL3 := Lib.hid (fun h : v = true => fun (r : Rn) (h' : o = some r) (h2 : r.to = X - 1) => show U = dn ++ mkC f (E.drop (k + 1)) (some ⟨r.fr, Y - 1⟩) from HL.out.trans (by rw [hdx, hdy, h', mkC_more (hfx.trans h) h2]))
      have HL4 := Lib.hid (fun h : v = true => fun (r : Rn) (h' : o = some r) (h2 : r.to ≠ X - 1) => show U = (dn ++ [r]) ++ mkC f (E.drop (k + 1)) (some ⟨X, Y - 1⟩) from HL.out.trans (by rw [hdx, hdy, h', mkC_next (hfx.trans h) h2, List.append_assoc]; rfl))
      clear hcell hgx hgy hdx hdy hmx hmy hx hy hv hfx HL e0 e1
      go_wp2_with fail
      refine q_region (CellL wr [(⟨b1, o1 + k, none⟩, .int .i64 X), (⟨b1, o1 + (k + 1), none⟩, .int .i64 Y)]) (by kernel_rfl) (by kernel_rfl) (cellL_drew HC.out) ?_
      repeat (first
        | go_big_quiet_skip
        | (go_big_quiet_want; (first
          | (refine q_take (v := ?_) ?_ ?_; rotate_left; (focus (intro w hSw; (try simp only [CellL] at hSw); go_split_ands; go_simp; (try (rw [if_neg (by omega)])); (try with_reducible rfl); done)))
          | (refine q_call (CA.out _) ?_ ?_; (focus (intro w hSw; (try simp only [CellL] at hSw); go_split_ands; go_simp; (try (rw [if_neg (by omega)])); done)))
          | (refine q_call (CB.out _) ?_ ?_; (focus (intro w hSw; (try simp only [CellL] at hSw); go_split_ands; go_simp; (try (rw [if_neg (by omega)])); done)))); (try simp only [Act.put, List.setIfInBounds_toArray, List.set_cons_zero, List.set_cons_succ]); go_big_quiet_on))
      refine wpQuiet_nil ?_
      intro w2 hw2
      have HO2 := Lib.hid (HO.out.below (cellL_size hw2))
      have HB2 := Lib.hid (HBW.out.trans ((cellL_size hw2).mono HBW.out.size))
      simp only [CellL] at hw2
      obtain ⟨e0, e1, -⟩ := hw2
      clear CA CB HC HO HBW
      go_upto_region 7 with fail
      go_cut [63] from 15 to 107 (fun s wx => s = .bool (!v) ∧ wx = w2)
      case first =>
        have HV := HV.out
        clear HL1 HL2 HL3 HL4 HRW HLE
        by_cases p1 : op = 1
        · subst p1
          cases x <;> cases y
          all_goals
            go_wp2_with fail
            go_meet
            exact ⟨by rw [← HV]; rfl, rfl⟩
        · have n1 : (op == 1) = false := beq_eq_false_iff_ne.2 p1
          by_cases p2 : op = 2
          · subst p2
            cases x <;> cases y
            all_goals
              go_wp2_with fail
              go_meet
              exact ⟨by rw [← HV]; rfl, rfl⟩
          · have n2 : (op == 2) = false := beq_eq_false_iff_ne.2 p2
            by_cases p3 : op = 3
            · subst p3
              cases x <;> cases y
              all_goals
                go_wp2_with fail
                go_meet
                exact ⟨by rw [← HV]; rfl, rfl⟩
            · have n3 : (op == 3) = false := beq_eq_false_iff_ne.2 p3
              have HG : gC op x y = false := by unfold gC; rw [n1, n2, n3]; rfl
              have HW := Lib.hid (HV.symm.trans HG)
              clear HV HG p1 p2 p3
              cases x <;> cases y
              all_goals
                go_wp2_with fail
                go_meet
                exact ⟨by rw [HW.out]; rfl, rfl⟩
      case rest =>
        obtain ⟨rfl, rfl⟩ := hcut
        clear HV
        cases v
        · replace HL1 := Lib.hid (HL1.out rfl)
          clear HL2 HL3 HL4
          go_wp2_with fail
          go_roundw
          case rel => exact ⟨k + 1, o, dn, by omega, HL1, HO2, HE0, by rw [HN9.out]; omega, by go_num, HB2⟩
          case measure => simp [intOf]; omega
        · clear HL1
          cases o with
          | none =>
            replace HL2 := Lib.hid (HL2.out rfl rfl)
            obtain rfl := HE0.out rfl
            obtain rfl : n9 = 0 := HN9.out.symm
            clear HL3 HL4 HE0
            have HC2 := Lib.hid (show CellL wc [(⟨b1, o1 + k, none⟩, .int .i64 X), (⟨b1, o1 + (k + 1), none⟩, .int .i64 Y)] wc from ⟨e0, e1, Below.refl _ _⟩)
            go_wp2_with fail
            clear e0 e1
            refine q_region (CellL wc [(⟨b1, o1 + k, none⟩, .int .i64 X), (⟨b1, o1 + (k + 1), none⟩, .int .i64 Y)]) (by kernel_rfl) (by kernel_rfl) (cellL_drew HC2.out) ?_
            repeat (first
              | go_big_quiet_skip
              | (go_big_quiet_want; (first
                | (refine q_take (v := ?_) ?_ ?_; rotate_left; (focus (intro w hSw; (try simp only [CellL] at hSw); go_split_ands; go_simp; (try (rw [if_neg (by omega)])); (try with_reducible rfl); done)))); (try simp only [Act.put, List.setIfInBounds_toArray, List.set_cons_zero, List.set_cons_succ]); go_big_quiet_on))
            refine wpQuiet_nil ?_
            intro w3 hw3
            have HO3 := Lib.hid (HO2.out.below (cellL_size hw3))
            have HB3 := Lib.hid (HB2.out.trans ((cellL_size hw3).mono HB2.out.size))
            simp only [CellL] at hw3
            obtain ⟨e0, e1, -⟩ := hw3
            clear HC2 HO2
            go_upto_region 10 with fail
            have HCL := Lib.hid (show CellL w1 [(⟨b1, o1 + k, none⟩, .int .i64 X), (⟨b1, o1 + (k + 1), none⟩, .int .i64 Y)] w3 from ⟨e0, e1, HB3.out⟩)
            clear e0 e1
            refine wp_region_noPanic ?_
            refine wp_region_held_drew (S := CellL w1 [(⟨b1, o1 + k, none⟩, .int .i64 X), (⟨b1, o1 + (k + 1), none⟩, .int .i64 Y)]) (by kernel_rfl) (cellL_drew HCL.out) (fun hHeld => ?_)
            refine take_yes (i := 0) (v := ?_) rfl (by kernel_rfl) (by kernel_rfl) (by kernel_rfl) (fun _ _ _ h => h) (by rfl) (by assumption) ?_ ?_; rotate_left; (focus ((intro w hSw); (try simp only [CellL] at hSw); go_split_ands; go_simp; (try with_reducible rfl); done))
            (try simp only [Act.put, List.setIfInBounds_toArray, List.set_cons_zero, List.set_cons_succ])
            refine take_yes (i := 1) (v := ?_) rfl (by kernel_rfl) (by kernel_rfl) (by kernel_rfl) (fun _ _ _ h => h) (by rfl) (by assumption) ?_ ?_; rotate_left; (focus ((intro w hSw); (try simp only [CellL] at hSw); go_split_ands; go_simp; (try with_reducible rfl); done))
            (try simp only [Act.put, List.setIfInBounds_toArray, List.set_cons_zero, List.set_cons_succ])
            refine take_yes (i := 2) (v := ?_) rfl (by kernel_rfl) (by kernel_rfl) (by kernel_rfl) (fun _ _ _ h => h) (by rfl) (by assumption) ?_ ?_; rotate_left; (focus ((intro w hSw); (try simp only [CellL] at hSw); go_split_ands; go_simp; (try with_reducible rfl); done))
            (try simp only [Act.put, List.setIfInBounds_toArray, List.set_cons_zero, List.set_cons_succ])
            refine take_yes (i := 3) (v := ?_) rfl (by kernel_rfl) (by kernel_rfl) (by kernel_rfl) (fun _ _ _ h => h) (by rfl) (by assumption) ?_ ?_; rotate_left; (focus ((intro w hSw); (try simp only [CellL] at hSw); go_split_ands; go_simp; (try with_reducible rfl); done))
            (try simp only [Act.put, List.setIfInBounds_toArray, List.set_cons_zero, List.set_cons_succ])
            refine take_yes (i := 4) (v := ?_) rfl (by kernel_rfl) (by kernel_rfl) (by kernel_rfl) (fun _ _ _ h => h) (by rfl) (by assumption) ?_ ?_; rotate_left; (focus ((intro w hSw); (try simp only [CellL] at hSw); go_split_ands; go_simp; (try with_reducible rfl); done))
            (try simp only [Act.put, List.setIfInBounds_toArray, List.set_cons_zero, List.set_cons_succ])
            refine take_yes (i := 5) (v := ?_) rfl (by kernel_rfl) (by kernel_rfl) (by kernel_rfl) (fun _ _ _ h => h) (by rfl) (by assumption) ?_ ?_; rotate_left; (focus ((intro w hSw); (try simp only [CellL] at hSw); go_split_ands; go_simp; (try with_reducible rfl); done))
            (try simp only [Act.put, List.setIfInBounds_toArray, List.set_cons_zero, List.set_cons_succ])
            refine take_yes (i := 6) (v := ?_) rfl (by kernel_rfl) (by kernel_rfl) (by kernel_rfl) (fun _ _ _ h => h) (by rfl) (by assumption) ?_ ?_; rotate_left; (focus ((intro w hSw); (try simp only [CellL] at hSw); go_split_ands; go_simp; (try with_reducible rfl); done))
            (try simp only [Act.put, List.setIfInBounds_toArray, List.set_cons_zero, List.set_cons_succ])
            refine take_yes (i := 7) (v := ?_) rfl (by kernel_rfl) (by kernel_rfl) (by kernel_rfl) (fun _ _ _ h => h) (by rfl) (by assumption) ?_ ?_; rotate_left; (focus ((intro w hSw); (try simp only [CellL] at hSw); go_split_ands; go_simp; (try with_reducible rfl); done))
            (try simp only [Act.put, List.setIfInBounds_toArray, List.set_cons_zero, List.set_cons_succ])
            refine take_yes (i := 8) (v := ?_) rfl (by kernel_rfl) (by kernel_rfl) (by kernel_rfl) (fun _ _ _ h => h) (by rfl) (by assumption) ?_ ?_; rotate_left; (focus ((intro w hSw); (try simp only [CellL] at hSw); go_split_ands; go_simp; (try with_reducible rfl); done))
            (try simp only [Act.put, List.setIfInBounds_toArray, List.set_cons_zero, List.set_cons_succ])
            refine take_yes (i := 9) (v := ?_) rfl (by kernel_rfl) (by kernel_rfl) (by kernel_rfl) (fun _ _ _ h => h) (by rfl) (by assumption) ?_ ?_; rotate_left; (focus ((intro w hSw); (try simp only [CellL] at hSw); go_split_ands; go_simp; (try with_reducible rfl); done))
            (try simp only [Act.put, List.setIfInBounds_toArray, List.set_cons_zero, List.set_cons_succ])
            refine take_yes (i := 10) (v := ?_) rfl (by kernel_rfl) (by kernel_rfl) (by kernel_rfl) (fun _ _ _ h => h) (by rfl) (by assumption) ?_ ?_; rotate_left; (focus ((intro w hSw); (try simp only [CellL] at hSw); go_split_ands; go_simp; (try with_reducible rfl); done))
            (try simp only [Act.put, List.setIfInBounds_toArray, List.set_cons_zero, List.set_cons_succ])
            refine take_yes (i := 11) (v := ?_) rfl (by kernel_rfl) (by kernel_rfl) (by kernel_rfl) (fun _ _ _ h => h) (by rfl) (by assumption) ?_ ?_; rotate_left; (focus ((intro w hSw); (try simp only [CellL] at hSw); go_split_ands; go_simp; (try with_reducible rfl); done))
            (try simp only [Act.put, List.setIfInBounds_toArray, List.set_cons_zero, List.set_cons_succ])
            refine call_one (i := 12) rfl (by kernel_rfl) (by rfl) (fun K hK => ?_)
            go_simp
            refine hK.out _ _ (cellL_call (below_new _ _) (by assumption)) (fun hHeld => ?_)
            clear hK K
            (try simp only [Act.put, List.setIfInBounds_toArray, List.set_cons_zero, List.set_cons_succ])
            have HOd := Lib.hid (show kRn.Own w3.drew w1.heap.size _ _ from HO3.out)
            have HBd := Lib.hid HB3.out.drew
            refine call_one (i := 13) rfl (by kernel_rfl) (by rfl) (fun K hK => ?_)
            refine op_app_k kRn (.tmp 94) (.tmp 106) rfl w1.heap.size _ _ rfl (Kind.Own.alloc HOd.out _) _ (some ⟨w3.heap.size, 0, none⟩) 1 1 [⟨X, Y - 1⟩] rfl rfl (HRW w3.drew).out HLE.out (by decide) (cle_alloc HBd.out.size _) ?_
            intro v5 w5 hown5 hg5 hb5 _
            have HO5 := Lib.hid hown5
            have HB5 := Lib.hid ((HBd.out.alloc HBd.out.size _).trans hb5)
            refine hK.out _ _ ⟨((bcell hb5).1 _ _ hbl1).trans ((alloc_keeps w3.drew _ _ _ (Nat.lt_of_lt_of_le hbl1 HB3.out.size)).trans HCL.out.1), ((bcell hb5).1 _ _ hbl1).trans ((alloc_keeps w3.drew _ _ _ (Nat.lt_of_lt_of_le hbl1 HB3.out.size)).trans HCL.out.2.1), HB5.out⟩ (fun hHeld => ?_)
            clear hK K hown5 hg5 hb5
            (try simp only [Act.put, List.setIfInBounds_toArray, List.set_cons_zero, List.set_cons_succ])
            refine take_yes (i := 14) (v := ?_) rfl (by kernel_rfl) (by kernel_rfl) (by kernel_rfl) (fun _ _ _ h => h) (by rfl) (by assumption) ?_ ?_; rotate_left; (focus ((intro w hSw); (try simp only [CellL] at hSw); go_split_ands; go_simp; (try with_reducible rfl); done))
            (try simp only [Act.put, List.setIfInBounds_toArray, List.set_cons_zero, List.set_cons_succ])
            refine wpAnyH_done (by kernel_rfl) ?_ _
            refine NoPanic.normal ?_
            clear hHeld
            go_wp2_with fail
            go_roundw
            case rel => exact ⟨k + 1, some ⟨X, Y - 1⟩, [], by omega, HL2, HO5, (fun h => by cases h), by simp, by go_num, HB5⟩
            case measure => simp [intOf]; omega
          | some r =>
            obtain ⟨D, hD⟩ : ∃ D, dn.length = D := ⟨_, rfl⟩
            obtain rfl : n9 = D + 1 := by rw [← HN9.out, List.length_append, hD]; rfl
            have hga : (dn ++ [r])[D]? = some r := by rw [← hD, List.getElem?_append_right (Nat.le_refl _), Nat.sub_self]; rfl
            have hLn : D + 1 = (dn ++ [r]).length := HN9.out.symm
            obtain ⟨g, cp, hv9, hcp, hgb, -, -, -⟩ := HO2.out.some_ hLn (by omega)
            injection hv9 with hA9 _ hc9
            subst hA9 hc9
            obtain ⟨-, hgl, hfz, hcs⟩ := HO2.out.at_g hLn (by omega)
            have t0 := hcs D r hga 1 _ rfl
            change wc.cell? ⟨g, D * 2 + 1, none⟩ = some (.int .i64 r.to) at t0
            obtain ⟨R, hR⟩ : ∃ R, r.to = R := ⟨_, rfl⟩
            rw [hR] at t0
            have hD9 : D ≤ 500000 := by omega
            have hj0 : (0 : Int) ≤ (D : Int) := by omega
            have hjn : (D : Int) < (D : Int) + 1 := by omega
            have hjd : decide ((D : Int) < 0) = false := decide_eq_false (by omega)
            have hjp : decide ((0 : Int) < (D : Int) + 1) = true := decide_eq_true (by omega)
            have hjw : IntKind.i64.wrap ((D : Int) + 1 - 1) = (D : Int) := by rw [Int.add_sub_cancel]; exact IntWalk.i64_in _ (by omega)
            have hjw2 : IntKind.i64.wrap (D : Int) = (D : Int) := IntWalk.i64_in _ (by omega)
            have HC2 := Lib.hid (show CellL wc [(⟨b1, o1 + k, none⟩, .int .i64 X), (⟨b1, o1 + (k + 1), none⟩, .int .i64 Y), (⟨g, D * 2 + 1, none⟩, .int .i64 R)] wc from ⟨e0, e1, t0, Below.refl _ _⟩)
            obtain ⟨q, hq⟩ : ∃ q, (R == X - 1) = q := ⟨_, rfl⟩
            have HL3 := Lib.hid (fun h : q = true => HL3.out rfl r rfl (by rw [hR]; rw [h] at hq; simpa using hq))
            have HL4 := Lib.hid (fun h : q = false => HL4.out rfl r rfl (by rw [hR]; rw [h] at hq; simpa using hq))
            have HDD := Lib.hid hD
            clear HL2 HE0 hga hLn hcs hfz hD hR t0
            go_wp2_with fail
            clear e0 e1
            refine q_region (CellL wc [(⟨b1, o1 + k, none⟩, .int .i64 X), (⟨b1, o1 + (k + 1), none⟩, .int .i64 Y), (⟨g, D * 2 + 1, none⟩, .int .i64 R)]) (by kernel_rfl) (by kernel_rfl) (cellL_drew HC2.out) ?_
            repeat (first
              | go_big_quiet_skip
              | (go_big_quiet_want; (first
                | (refine q_take (v := ?_) ?_ ?_; rotate_left; (focus (intro w hSw; (try simp only [CellL] at hSw); go_split_ands; go_simp; (try (rw [if_neg (by omega)])); (try with_reducible rfl); done)))); (try simp only [Act.put, List.setIfInBounds_toArray, List.set_cons_zero, List.set_cons_succ]); go_big_quiet_on))
            refine wpQuiet_nil ?_
            intro w3 hw3
            have HO3 := Lib.hid (HO2.out.below (cellL_size hw3))
            have HB3 := Lib.hid (HB2.out.trans ((cellL_size hw3).mono HB2.out.size))
            simp only [CellL] at hw3
            obtain ⟨e0, e1, t0, -⟩ := hw3
            clear HC2 HO2
            cases q
            · replace HL4 := Lib.hid (HL4.out rfl)
              clear HL3 t0
              go_upto_region 10 with fail
              have HCL := Lib.hid (show CellL w1 [(⟨b1, o1 + k, none⟩, .int .i64 X), (⟨b1, o1 + (k + 1), none⟩, .int .i64 Y)] w3 from ⟨e0, e1, HB3.out⟩)
              clear e0 e1
              refine wp_region_noPanic ?_
              refine wp_region_held_drew (S := CellL w1 [(⟨b1, o1 + k, none⟩, .int .i64 X), (⟨b1, o1 + (k + 1), none⟩, .int .i64 Y)]) (by kernel_rfl) (cellL_drew HCL.out) (fun hHeld => ?_)
              refine take_yes (i := 0) (v := ?_) rfl (by kernel_rfl) (by kernel_rfl) (by kernel_rfl) (fun _ _ _ h => h) (by rfl) (by assumption) ?_ ?_; rotate_left; (focus ((intro w hSw); (try simp only [CellL] at hSw); go_split_ands; go_simp; (try with_reducible rfl); done))
              (try simp only [Act.put, List.setIfInBounds_toArray, List.set_cons_zero, List.set_cons_succ])
              refine take_yes (i := 1) (v := ?_) rfl (by kernel_rfl) (by kernel_rfl) (by kernel_rfl) (fun _ _ _ h => h) (by rfl) (by assumption) ?_ ?_; rotate_left; (focus ((intro w hSw); (try simp only [CellL] at hSw); go_split_ands; go_simp; (try with_reducible rfl); done))
              (try simp only [Act.put, List.setIfInBounds_toArray, List.set_cons_zero, List.set_cons_succ])
              refine take_yes (i := 2) (v := ?_) rfl (by kernel_rfl) (by kernel_rfl) (by kernel_rfl) (fun _ _ _ h => h) (by rfl) (by assumption) ?_ ?_; rotate_left; (focus ((intro w hSw); (try simp only [CellL] at hSw); go_split_ands; go_simp; (try with_reducible rfl); done))
              (try simp only [Act.put, List.setIfInBounds_toArray, List.set_cons_zero, List.set_cons_succ])
              refine take_yes (i := 3) (v := ?_) rfl (by kernel_rfl) (by kernel_rfl) (by kernel_rfl) (fun _ _ _ h => h) (by rfl) (by assumption) ?_ ?_; rotate_left; (focus ((intro w hSw); (try simp only [CellL] at hSw); go_split_ands; go_simp; (try with_reducible rfl); done))
              (try simp only [Act.put, List.setIfInBounds_toArray, List.set_cons_zero, List.set_cons_succ])
              refine take_yes (i := 4) (v := ?_) rfl (by kernel_rfl) (by kernel_rfl) (by kernel_rfl) (fun _ _ _ h => h) (by rfl) (by assumption) ?_ ?_; rotate_left; (focus ((intro w hSw); (try simp only [CellL] at hSw); go_split_ands; go_simp; (try with_reducible rfl); done))
              (try simp only [Act.put, List.setIfInBounds_toArray, List.set_cons_zero, List.set_cons_succ])
              refine take_yes (i := 5) (v := ?_) rfl (by kernel_rfl) (by kernel_rfl) (by kernel_rfl) (fun _ _ _ h => h) (by rfl) (by assumption) ?_ ?_; rotate_left; (focus ((intro w hSw); (try simp only [CellL] at hSw); go_split_ands; go_simp; (try with_reducible rfl); done))
              (try simp only [Act.put, List.setIfInBounds_toArray, List.set_cons_zero, List.set_cons_succ])
              refine take_yes (i := 6) (v := ?_) rfl (by kernel_rfl) (by kernel_rfl) (by kernel_rfl) (fun _ _ _ h => h) (by rfl) (by assumption) ?_ ?_; rotate_left; (focus ((intro w hSw); (try simp only [CellL] at hSw); go_split_ands; go_simp; (try with_reducible rfl); done))
              (try simp only [Act.put, List.setIfInBounds_toArray, List.set_cons_zero, List.set_cons_succ])
              refine take_yes (i := 7) (v := ?_) rfl (by kernel_rfl) (by kernel_rfl) (by kernel_rfl) (fun _ _ _ h => h) (by rfl) (by assumption) ?_ ?_; rotate_left; (focus ((intro w hSw); (try simp only [CellL] at hSw); go_split_ands; go_simp; (try with_reducible rfl); done))
              (try simp only [Act.put, List.setIfInBounds_toArray, List.set_cons_zero, List.set_cons_succ])
              refine take_yes (i := 8) (v := ?_) rfl (by kernel_rfl) (by kernel_rfl) (by kernel_rfl) (fun _ _ _ h => h) (by rfl) (by assumption) ?_ ?_; rotate_left; (focus ((intro w hSw); (try simp only [CellL] at hSw); go_split_ands; go_simp; (try with_reducible rfl); done))
              (try simp only [Act.put, List.setIfInBounds_toArray, List.set_cons_zero, List.set_cons_succ])
              refine take_yes (i := 9) (v := ?_) rfl (by kernel_rfl) (by kernel_rfl) (by kernel_rfl) (fun _ _ _ h => h) (by rfl) (by assumption) ?_ ?_; rotate_left; (focus ((intro w hSw); (try simp only [CellL] at hSw); go_split_ands; go_simp; (try with_reducible rfl); done))
              (try simp only [Act.put, List.setIfInBounds_toArray, List.set_cons_zero, List.set_cons_succ])
              refine take_yes (i := 10) (v := ?_) rfl (by kernel_rfl) (by kernel_rfl) (by kernel_rfl) (fun _ _ _ h => h) (by rfl) (by assumption) ?_ ?_; rotate_left; (focus ((intro w hSw); (try simp only [CellL] at hSw); go_split_ands; go_simp; (try with_reducible rfl); done))
              (try simp only [Act.put, List.setIfInBounds_toArray, List.set_cons_zero, List.set_cons_succ])
              refine take_yes (i := 11) (v := ?_) rfl (by kernel_rfl) (by kernel_rfl) (by kernel_rfl) (fun _ _ _ h => h) (by rfl) (by assumption) ?_ ?_; rotate_left; (focus ((intro w hSw); (try simp only [CellL] at hSw); go_split_ands; go_simp; (try with_reducible rfl); done))
              (try simp only [Act.put, List.setIfInBounds_toArray, List.set_cons_zero, List.set_cons_succ])
              refine call_one (i := 12) rfl (by kernel_rfl) (by rfl) (fun K hK => ?_)
              go_simp
              refine hK.out _ _ (cellL_call (below_new _ _) (by assumption)) (fun hHeld => ?_)
              clear hK K
              (try simp only [Act.put, List.setIfInBounds_toArray, List.set_cons_zero, List.set_cons_succ])
              have HOd := Lib.hid (show kRn.Own w3.drew w1.heap.size _ _ from HO3.out)
              have HBd := Lib.hid HB3.out.drew
              refine call_one (i := 13) rfl (by kernel_rfl) (by rfl) (fun K hK => ?_)
              refine op_app_k kRn (.tmp 94) (.tmp 106) rfl w1.heap.size _ _ rfl (Kind.Own.alloc HOd.out _) _ (some ⟨w3.heap.size, 0, none⟩) 1 1 [⟨X, Y - 1⟩] rfl rfl (HRW w3.drew).out HLE.out (by decide) (cle_alloc HBd.out.size _) ?_
              intro v5 w5 hown5 hg5 hb5 _
              have HO5 := Lib.hid hown5
              have HB5 := Lib.hid ((HBd.out.alloc HBd.out.size _).trans hb5)
              refine hK.out _ _ ⟨((bcell hb5).1 _ _ hbl1).trans ((alloc_keeps w3.drew _ _ _ (Nat.lt_of_lt_of_le hbl1 HB3.out.size)).trans HCL.out.1), ((bcell hb5).1 _ _ hbl1).trans ((alloc_keeps w3.drew _ _ _ (Nat.lt_of_lt_of_le hbl1 HB3.out.size)).trans HCL.out.2.1), HB5.out⟩ (fun hHeld => ?_)
              clear hK K hown5 hg5 hb5
              (try simp only [Act.put, List.setIfInBounds_toArray, List.set_cons_zero, List.set_cons_succ])
              refine take_yes (i := 14) (v := ?_) rfl (by kernel_rfl) (by kernel_rfl) (by kernel_rfl) (fun _ _ _ h => h) (by rfl) (by assumption) ?_ ?_; rotate_left; (focus ((intro w hSw); (try simp only [CellL] at hSw); go_split_ands; go_simp; (try with_reducible rfl); done))
              (try simp only [Act.put, List.setIfInBounds_toArray, List.set_cons_zero, List.set_cons_succ])
              refine wpAnyH_done (by kernel_rfl) ?_ _
              refine NoPanic.normal ?_
              clear hHeld
              go_wp2_with fail
              go_roundw
              case rel => exact ⟨k + 1, some ⟨X, Y - 1⟩, dn ++ [r], by omega, HL4, HO5, (fun h => by cases h), by show ((dn ++ [r]) ++ [_]).length ≤ k + 1; have := HN9.out; rw [List.length_append]; show (dn ++ (some r).toList).length + 1 ≤ k + 1; omega, by go_num, HB5⟩
              case measure => simp [intOf]; omega
            · replace HL3 := Lib.hid (HL3.out rfl)
              clear HL4
              obtain ⟨hg1, -, hfz, -⟩ := HO3.out.at_g HN9.out.symm (by omega)
              have HOF := Lib.hid (own_to HO3.out HN9.out.symm HDD.out (Y - 1))
              have HBF := Lib.hid (HB3.out.setCell (p := ⟨g, D * 2 + 1, none⟩) hg1 (.int .i64 (Y - 1)))
              go_wp2_with fail
              go_roundw
              case rel => exact ⟨k + 1, some ⟨r.fr, Y - 1⟩, dn, by omega, HL3, HOF, (fun h => by cases h), by show (dn ++ [_]).length ≤ k + 1; rw [List.length_append, HDD.out]; simp; omega, by go_num, HBF⟩
              case measure => simp [intOf]; omega
    · have HL2 := Lib.hid (show U = dn ++ o.toList by
        rw [HL.out]
        have h1 : (E.drop k).length ≤ 1 := by rw [List.length_drop]; have := HM.out; omega
        match E.drop k, h1 with
        | [], _ => rfl
        | [x], _ => rfl)
      have hkd : decide ((k : Int) + 1 < (M : Int)) = false := decide_eq_false (by omega)
      have hkd2 : decide (k + 1 < M) = false := decide_eq_false hlt
      go_wp2_with fail
      go_ret
      obtain rfl : n9 = N := by rw [← HN9.out, ← HL2.out]; exact HNN.out
      exact ⟨A9, c9, rfl, by rw [HL2.out]; exact HO.out.mono HB1.out.size, HB1.out.trans (HBW.out.mono HB1.out.size)⟩
theorem ref_cmake (op : Int) (A B : Option Addr) (c d n m : Nat) (a b : List Rn) (hn : n = a.length) (hm : m = b.length) (hnl : n ≤ 100000) (hml : m ≤ 100000) (U : List Rn) (hU : makeC op a b = U) (N : Nat) (hN : U.length = N) (w : World) (ha : kRn.Rd w w.heap.size A c a) (hb : kRn.Rd w w.heap.size B d b) :
    Calls Try.prog 19 #[.int .i64 op, .slice A n c, .slice B m d] w (RetC w N U) :=
  (ref_cmake_own op A B c d n m a b hn hm hnl hml U hU N hN w ha hb).mono fun _ _ h => h.ret
theorem ref_cof (A : Option Addr) (c n : Nat) (a : List Rn) (hn : n = a.length) (hnl : n ≤ 100000) (U : List Rn) (hU : ofC a = U) (N : Nat) (hN : U.length = N) (w : World) (ha : kRn.Rd w w.heap.size A c a) :
    Calls Try.prog 14 #[.slice A n c] w (RetC w N U) := by
  have C := fun (W : World) (h1 : kRn.Rd W W.heap.size A c a) (h2 : kRn.Rd W W.heap.size (some ⟨w.heap.size, 0, none⟩) 0 []) => Lib.hid (ref_cmake 1 A (some ⟨w.heap.size, 0, none⟩) c 0 n 0 a [] hn rfl hnl (by omega) U hU N hN W h1 h2)
  have HB := Lib.hid (below_new w (.cells #[] 26))
  have H1 := Lib.hid (ha.call HB.out)
  have H2 := Lib.hid (Kind.Rd.empty (k := kRn) (w.alloc (.cells #[] 26)) (w.alloc (.cells #[] 26)).heap.size (some ⟨w.heap.size, 0, none⟩) 0 (Nat.zero_le _))
  clear hn ha hU hN hnl
  go_enter Try.func14, Try.ntmps14
  go_wp2_with ((with_reducible refine (C _ H1.out H2.out).out.mono ?_); rintro e w1 ⟨A1, c1, rfl, hrd, hq⟩; have HF := Lib.hid (show RetC w N U (.returned (.slice A1 N c1)) w1 from ⟨A1, c1, rfl, hrd, HB.out.trans (hq.mono HB.out.size)⟩); clear hrd hq)
  go_ret
  exact HF.out
end Go.Proofs.Ytnfhkmlggajhaaa
