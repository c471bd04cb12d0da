/-
  Layer 8 (ranges), the program: the right list of some ranges' texts.
-/
import Derived.Test.YtgoenmgkhdibnaaRgsI
import Derived.Test.YtgoenmgkhdibnaaLaw08A
namespace Go.Proofs.Ytgoenmgkhdibnaa
open Go.RowKit

theorem own_last {w : World} {base g n c D : Nat} {dn : List Rng} {p : Rng} (h : kRng.Own w base (.slice (some ⟨g, 0, none⟩) n c) (dn ++ [p])) (hn : n = (dn ++ [p]).length) (hD : dn.length = D) (x : List UInt8) (T : ByteArray) (hT : str x = T) (o q : Bool) (hq : o = q) :
    kRng.Own ((w.setCell ⟨g, D * 3 + 1, none⟩ (.string T)).setCell ⟨g, D * 3 + 2, none⟩ (.bool q)) base (.slice (some ⟨g, 0, none⟩) n c) (dn ++ [⟨p.lo, x, o⟩]) := by
  subst hD hT hq
  have g1 : (dn ++ [p])[dn.length]? = some p := by rw [List.getElem?_append_right (Nat.le_refl _), Nat.sub_self]; rfl
  have h1 := h.stored (j := 1) (y := ⟨p.lo, x, p.op⟩) (v := .string (str x)) hn g1 (by decide) rfl
  rw [show (dn ++ [p]).set dn.length ⟨p.lo, x, p.op⟩ = dn ++ [⟨p.lo, x, p.op⟩] from by simp] at h1
  have g2 : (dn ++ [(⟨p.lo, x, p.op⟩ : Rng)])[dn.length]? = some ⟨p.lo, x, p.op⟩ := by rw [List.getElem?_append_right (Nat.le_refl _), Nat.sub_self]; rfl
  have h2 := h1.stored (j := 2) (y := ⟨p.lo, x, o⟩) (v := .bool o) (by rw [hn]; simp) g2 (by decide) rfl
  rw [show (dn ++ [(⟨p.lo, x, p.op⟩ : Rng)]).set dn.length ⟨p.lo, x, o⟩ = dn ++ [⟨p.lo, x, o⟩] from by simp] at h2
  exact h2
/-- The one that was begun last is right, and begins not behind those to come. -/
def LastOk (o : Option Rng) (l : List Rng) : Prop := ∀ p, o = some p → rightR p = true ∧ ∀ t ∈ l, ltB t.lo p.lo = false
theorem LastOk.none (l : List Rng) : LastOk .none l := fun p h => by cases h
theorem LastOk.new {r : Rng} {l : List Rng} (hr : rightR r = true) (hs : SortedL (r :: l)) : LastOk (some r) l := fun p h => by
  injection h with h; subst h
  exact ⟨hr, (List.pairwise_cons.1 hs).1⟩
theorem LastOk.stay {p r : Rng} {l : List Rng} (h : LastOk (some p) (r :: l)) : LastOk (some p) l := fun p' h' => by
  obtain ⟨h1, h2⟩ := h p' h'
  exact ⟨h1, fun t ht => h2 t (List.mem_cons_of_mem _ ht)⟩
theorem LastOk.more {p r : Rng} {l : List Rng} (h : LastOk (some p) (r :: l)) (hr : rightR r = true) : LastOk (some ⟨p.lo, r.hi, r.op⟩) l := fun p' h' => by
  injection h' with h'; subst h'
  obtain ⟨h1, h2⟩ := h p rfl
  exact ⟨more_right h1 hr (h2 r (List.mem_cons_self ..)), fun t ht => h2 t (List.mem_cons_of_mem _ ht)⟩
theorem SortedL.from {l : List Rng} (h : SortedL l) (k : Nat) : SortedL (l.drop k) := List.Pairwise.sublist (List.drop_sublist k l) h
theorem ends_test {p r : Rng} (hp : rightR p = true) (hr : rightR r = true) : ∃ v : Int, endsR p r = v ∧ decide (v < 0) = endLt p r := by
  refine ⟨_, rfl, ?_⟩
  cases h : endLt p r with
  | true => rw [endsR_lt hp hr h]; rfl
  | false => cases h' : endLt r p with
    | true => rw [endsR_gt hp hr h']; rfl
    | false => rw [endsR_eq h h']; rfl
/-- What is handed back: a row of ranges of the call's own. -/
def RetO (w : World) (l : List Rng) (e : Ending) (w' : World) : Prop := ∃ v, e = .returned v ∧ kRng.Own w' w.heap.size v l ∧ Below w.heap.size w w'
set_option maxHeartbeats 4000000 in
theorem rgs_of_own (A : Option Addr) (c n : Nat) (l : List Rng) (hn : n = l.length) (hnl : n ≤ 1000) (w : World) (hr : kRng.Rd w w.heap.size A c l) :
    Calls Try.prog 9 #[.slice A n c] w (RetO w (normV l)) := by
  have B0 := Lib.hid (rgs_byBeginning A c n l hn (by omega) w hr)
  have HN := Lib.hid hn
  clear hn hr
  go_enter Try.func9, Try.ntmps9
  go_wp2_with ((with_reducible refine B0.out.mono ?_); rintro e w1 ⟨m, hm1, hm2, A1, c1, rfl, hrd, hq⟩; have HM := Lib.hid (mergeL_norm hm1 hm2); have HR := Lib.hid hrd; have HB0 := Lib.hid hq; have HSS := Lib.hid hm2; have HRT := Lib.hid (show ∀ r ∈ m, rightR r = true from fun r hr => (List.mem_filter.1 (hm1.mem_iff.1 hr)).2); have hml := Nat.le_trans (Nat.le_of_eq hm1.length_eq) (List.length_filter_le _ _); clear hm1 hm2 hrd hq)
  obtain ⟨N, hN⟩ : ∃ N, m.length = N := ⟨_, rfl⟩
  rw [hN]
  have hNl : N ≤ 1000 := by have := HN.out; omega
  have HNM := Lib.hid hN
  have hcx : N ≤ c1 := by rw [← hN]; exact HR.out.room
  clear hN hml B0
  go_loopw [3, 10] (fun v i wr => ∃ (k : Nat) (dn : List Rng) (o : Option Rng), k ≤ N ∧ Hid (mergeL none m = dn ++ mergeL o (m.drop k)) ∧ Hid (kRng.Own wr w1.heap.size v (dn ++ o.toList)) ∧ Hid (o = none → dn = []) ∧ Hid (LastOk o (m.drop k)) ∧ (dn ++ o.toList).length ≤ k ∧ i = .int .i64 k ∧ Below w1.heap.size w1 wr) (fun _ i _ => N - (intOf i).toNat)
  case atStart => exact ⟨0, [], none, by omega, rfl, Kind.Own.nil _ _, fun _ => rfl, LastOk.none _, by simp, rfl, Below.refl _ _⟩
  case round =>
    obtain ⟨k, dn, o, hk, HL, HO, HE, HP, hol, rfl, hb⟩ := hrel
    by_cases hlt : k < N
    · obtain ⟨r, hg, hd, hrm⟩ := get_some (l := m) (k := k) (by have := HNM.out; omega)
      obtain ⟨b, o1, rfl, hb1, hcell⟩ := rngs_at (HR.out.below hb) (by have := HNM.out; omega)
      obtain ⟨c0, c1, c2⟩ := hcell k r hg
      have hrr := HRT.out r hrm
      have HN1 := Lib.hid (LastOk.new hrr (by rw [← hd]; exact HSS.out.from k))
      have hbl := Nat.lt_of_lt_of_le hb1 hb.size
      have HRW := fun w => Lib.hid (rng_row w r 1 rfl).row
      have HG := Lib.hid (rgAt_new wr (str r.lo) (str r.hi) r.op 35)
      obtain ⟨S, hS⟩ : ∃ S, str r.lo = S := ⟨_, rfl⟩
      obtain ⟨T, hT⟩ : ∃ T, str r.hi = T := ⟨_, rfl⟩
      obtain ⟨q, hq⟩ : ∃ q, r.op = q := ⟨_, rfl⟩
      rw [hS, hT, hq] at HG HRW
      rw [hS] at c0
      rw [hT] at c1
      rw [hq] at c2
      have HB1 := Lib.hid (hb.alloc hb.size (.cells #[.string S, .string T, .bool q] 35))
      have HO1 := Lib.hid (HO.out.alloc (.cells #[.string S, .string T, .bool q] 35))
      obtain ⟨WB, hWB⟩ : ∃ WB, wr.alloc (.cells #[.string S, .string T, .bool q] 35) = WB := ⟨_, rfl⟩
      cases o with
      | none =>
        have HL2 := Lib.hid (HL.out.trans (show dn ++ mergeL none (m.drop k) = dn ++ mergeL (some r) (m.drop (k + 1)) by rw [hd]; rfl))
        obtain rfl := HE.out rfl
        obtain ⟨A0, cp0, rfl, -⟩ := HO.out.read_n (n := 0) rfl
        have HC := Lib.hid (show CellL WB [(⟨wr.heap.size, 0, none⟩, .string S), (⟨wr.heap.size, 1, none⟩, .string T), (⟨wr.heap.size, 2, none⟩, .bool q)] WB from by rw [hWB] at HG; exact ⟨HG.out.1, HG.out.2.1, HG.out.2.2.1, Below.refl _ _⟩)
        rw [hWB] at HO1 HB1
        clear hcell hg hd hrm hrr hS hT hq HG HL HE HO
        have HW := Lib.hid hWB
        go_wp2_with fail
        clear c0 c1 c2
        clear hWB
        refine q_region (CellL WB [(⟨wr.heap.size, 0, none⟩, .string S), (⟨wr.heap.size, 1, none⟩, .string T), (⟨wr.heap.size, 2, none⟩, .bool q)]) (by kernel_rfl) (by kernel_rfl) (cellL_drew HC.out) ?_
        repeat (first
          | go_big_quiet_skip
          | (go_big_quiet_want; (first
            | (refine q_take (v := ?_) ?_ ?_; rotate_left; (focus (intro w hSw; (try simp only [CellL] at hSw); go_split_ands; go_simp; (try with_reducible rfl); done)))); (try simp only [Act.put, List.setIfInBounds_toArray, List.set_cons_zero, List.set_cons_succ]); go_big_quiet_on))
        refine wpQuiet_nil ?_
        intro w2 hw2
        have HB2 := Lib.hid (HB1.out.trans ((cellL_size hw2).mono HB1.out.size))
        have HO2 := Lib.hid (HO1.out.below (cellL_size hw2))
        simp only [CellL] at hw2
        obtain ⟨g0, g1, g2, -⟩ := hw2
        go_wp2_with (at_builtin; refine wpList_app_k kRng rfl (.tmp 27) (.tmp 29) rfl w1.heap.size _ _ rfl (Kind.Own.alloc HO2.out _) _ (some ⟨w2.heap.size, 0, none⟩) 1 1 [r] rfl rfl (HRW w2).out (by simp) (by decide) (le_alloc (HB2.out.size) _) ?_; intro v3 w3 hown3 hg3 hb3 _; have HO3 := Lib.hid hown3; have HB3 := Lib.hid ((HB2.out.alloc HB2.out.size _).trans hb3); clear hown3 hb3 hg3)
        go_roundw
        case rel => exact ⟨k + 1, [], some r, by omega, HL2, HO3.out, (fun h => by cases h), HN1.out, by simp, by go_num, HB3.out⟩
        case measure => simp [intOf]; omega
      | some p =>
        obtain ⟨D, hD⟩ : ∃ D, dn.length = D := ⟨_, rfl⟩
        have hLn : D + 1 = (dn ++ [p]).length := by rw [List.length_append, hD]; rfl
        have hD9 : D ≤ 1000 := by have h := hol; rw [show (some p).toList = [p] from rfl, ← hLn] at h; omega
        obtain ⟨g, cp, rfl, hcp, hgb, -, -, -⟩ := HO.out.some_ hLn (by omega)
        have hga : (dn ++ [p])[D]? = some p := by rw [← hD, List.getElem?_append_right (Nat.le_refl _), Nat.sub_self]; rfl
        have HP1 := Lib.hid (show LastOk (some p) (r :: m.drop (k + 1)) from by rw [← hd]; exact HP.out)
        have hpr := (HP.out p rfl).1
        obtain ⟨x, hx⟩ : ∃ x, gapR p r = x := ⟨_, rfl⟩
        have CA := fun w => (rg_apart p r _ _ S T _ q x (IsR.mk' p) ⟨hS, hT, hq⟩ hx w)
        have CA := Lib.hid (fun L => cellL_of (a := WB) (l := L) CA)
        obtain ⟨ev, hev, het⟩ := ends_test hpr hrr
        have CE := fun w => (span_ends p r _ _ S T _ q (IsR.mk' p) ⟨hS, hT, hq⟩ ev hev w)
        have CE := Lib.hid (fun L => cellL_of (a := WB) (l := L) CE)
        have HLP := Lib.hid (HL.out.trans (by rw [hd]))
        have HX1 := Lib.hid (fun h : x = true => mergeL_gap (l := m.drop (k + 1)) (hx.trans h))
        obtain ⟨y, hy⟩ : ∃ y, endLt p r = y := ⟨_, rfl⟩
        rw [hy] at het
        have HX2 := Lib.hid (fun h : x = false => mergeL_last (l := m.drop (k + 1)) (hx.trans h))
        have HY := Lib.hid hy
        have HTT := Lib.hid hT
        have HQQ := Lib.hid hq
        rw [hWB] at HO1 HB1 HG
        have HGA := Lib.hid hga
        have HLN := Lib.hid hLn
        have HDD := Lib.hid hD
        have HRR := Lib.hid hrr
        obtain ⟨U, hU⟩ : ∃ U, str p.lo = U := ⟨_, rfl⟩
        obtain ⟨V, hV⟩ : ∃ V, str p.hi = V := ⟨_, rfl⟩
        obtain ⟨pm, hpm⟩ : ∃ pm, p.op = pm := ⟨_, rfl⟩
        obtain ⟨-, hgl, hfz, hcs⟩ := HO1.out.at_g hLn (by omega)
        have e0 := hcs D p hga 0 _ rfl
        have e1 := hcs D p hga 1 _ rfl
        have e2 := hcs D p hga 2 _ rfl
        change WB.cell? ⟨g, D * 3 + 0, none⟩ = some (.string (str p.lo)) at e0
        change WB.cell? ⟨g, D * 3 + 1, none⟩ = some (.string (str p.hi)) at e1
        change WB.cell? ⟨g, D * 3 + 2, none⟩ = some (.bool p.op) at e2
        rw [Nat.add_zero] at e0
        rw [hU, hV, hpm] at CA CE
        rw [hU] at e0
        rw [hV] at e1
        rw [hpm] at e2
        have HC := Lib.hid (show CellL WB [(⟨wr.heap.size, 0, none⟩, .string S), (⟨wr.heap.size, 1, none⟩, .string T), (⟨wr.heap.size, 2, none⟩, .bool q), (⟨g, D * 3, none⟩, .string U), (⟨g, D * 3 + 1, none⟩, .string V), (⟨g, D * 3 + 2, none⟩, .bool pm)] WB from ⟨HG.out.1, HG.out.2.1, HG.out.2.2.1, e0, e1, e2, Below.refl _ _⟩)
        have hj0 : (0 : Int) ≤ (D : Int) := by omega
        have hjn : (D : Int) < (D : Int) + 1 := by omega
        have hjd : decide ((D : Int) < 0) = false := decide_eq_false (by omega)
        have hjw : IntKind.i64.wrap ((D : Int) + 1 - 1) = (D : Int) := by rw [Int.add_sub_cancel]; exact IntWalk.i64_in _ (by omega)
        have hjw2 : IntKind.i64.wrap (D : Int) = (D : Int) := IntWalk.i64_in _ (by omega)
        clear hcell hg hd hrm hrr hpr hS hT hq HG HL HE HO HP hLn hga hD hx hy hev hU hV hpm hgl hfz hcs e0 e1 e2
        have HET := Lib.hid het
        clear het
        go_wp2_with fail
        clear c0 c1 c2 hWB
        cases x
        case true =>
          have HL2 := Lib.hid (HLP.out.trans (show dn ++ mergeL (some p) (r :: m.drop (k + 1)) = (dn ++ [p]) ++ mergeL (some r) (m.drop (k + 1)) by rw [HX1.out rfl, List.append_assoc]; rfl))
          clear HX1 HX2 HET HY CE
          refine q_region (CellL WB [(⟨wr.heap.size, 0, none⟩, .string S), (⟨wr.heap.size, 1, none⟩, .string T), (⟨wr.heap.size, 2, none⟩, .bool q), (⟨g, D * 3, none⟩, .string U), (⟨g, D * 3 + 1, none⟩, .string V), (⟨g, D * 3 + 2, none⟩, .bool pm)]) (by kernel_rfl) (by kernel_rfl) (cellL_drew HC.out) ?_
          repeat (first
            | go_big_quiet_skip
            | (go_big_quiet_want; (first
              | (refine q_take (v := ?_) ?_ ?_; rotate_left; (focus (intro w hSw; (try simp only [CellL] at hSw); go_split_ands; go_simp; (try with_reducible rfl); done)))
              | (refine q_call (CA.out _) ?_ ?_; (focus (intro w hSw; (try simp only [CellL] at hSw); go_split_ands; go_simp; done)))); (try simp only [Act.put, List.setIfInBounds_toArray, List.set_cons_zero, List.set_cons_succ]); go_big_quiet_on))
          refine wpQuiet_nil ?_
          intro w2 hw2
          have HB2 := Lib.hid (HB1.out.trans ((cellL_size hw2).mono HB1.out.size))
          have HO2 := Lib.hid (HO1.out.below (cellL_size hw2))
          simp only [CellL] at hw2
          obtain ⟨g0, g1, g2, -⟩ := hw2
          have HLE := Lib.hid (show (dn ++ [p]).length + [r].length ≤ 1000000 by rw [← HLN.out, List.length_singleton]; omega)
          go_wp2_with (at_builtin; refine wpList_app_k kRng rfl (.tmp 27) (.tmp 29) rfl w1.heap.size _ _ rfl (Kind.Own.alloc HO2.out _) _ (some ⟨w2.heap.size, 0, none⟩) 1 1 [r] rfl rfl (HRW w2).out HLE.out (by decide) (le_alloc (HB2.out.size) _) ?_; intro v3 w3 hown3 hg3 hb3 _; have HO3 := Lib.hid hown3; have HB3 := Lib.hid ((HB2.out.alloc HB2.out.size _).trans hb3); clear hown3 hb3 hg3)
          go_roundw
          case rel => exact ⟨k + 1, dn ++ [p], some r, by omega, HL2, HO3.out, (fun h => by cases h), HN1.out, by have h1 := HLN.out; rw [List.length_append, ← h1]; have h2 := hol; rw [show (some p).toList = [p] from rfl, ← h1] at h2; show D + 1 + 1 ≤ k + 1; omega, by go_num, HB3.out⟩
          case measure => simp [intOf]; omega
        case false =>
          have HLL := Lib.hid (HLP.out.trans (by rw [HX2.out rfl]))
          clear HX1 HX2
          refine q_region (CellL WB [(⟨wr.heap.size, 0, none⟩, .string S), (⟨wr.heap.size, 1, none⟩, .string T), (⟨wr.heap.size, 2, none⟩, .bool q), (⟨g, D * 3, none⟩, .string U), (⟨g, D * 3 + 1, none⟩, .string V), (⟨g, D * 3 + 2, none⟩, .bool pm)]) (by kernel_rfl) (by kernel_rfl) (cellL_drew HC.out) ?_
          repeat (first
            | go_big_quiet_skip
            | (go_big_quiet_want; (first
              | (refine q_take (v := ?_) ?_ ?_; rotate_left; (focus (intro w hSw; (try simp only [CellL] at hSw); go_split_ands; go_simp; (try with_reducible rfl); done)))
              | (refine q_call (CA.out _) ?_ ?_; (focus (intro w hSw; (try simp only [CellL] at hSw); go_split_ands; go_simp; done)))); (try simp only [Act.put, List.setIfInBounds_toArray, List.set_cons_zero, List.set_cons_succ]); go_big_quiet_on))
          refine wpQuiet_nil ?_
          intro w2 hw2
          have HW2 := Lib.hid hw2
          clear hw2
          go_wp2_with fail
          have het := HET.out
          refine q_region (CellL WB [(⟨wr.heap.size, 0, none⟩, .string S), (⟨wr.heap.size, 1, none⟩, .string T), (⟨wr.heap.size, 2, none⟩, .bool q), (⟨g, D * 3, none⟩, .string U), (⟨g, D * 3 + 1, none⟩, .string V), (⟨g, D * 3 + 2, none⟩, .bool pm)]) (by kernel_rfl) (by kernel_rfl) (cellL_drew HW2.out) ?_
          repeat (first
            | go_big_quiet_skip
            | (go_big_quiet_want; (first
              | (refine q_take (v := ?_) ?_ ?_; rotate_left; (focus (intro w hSw; (try simp only [CellL] at hSw); go_split_ands; go_simp; (try with_reducible rfl); done)))
              | (refine q_call (CE.out _) ?_ ?_; (focus (intro w hSw; (try simp only [CellL] at hSw); go_split_ands; go_simp; done)))); (try simp only [Act.put, List.setIfInBounds_toArray, List.set_cons_zero, List.set_cons_succ]); go_big_quiet_on))
          refine wpQuiet_nil ?_
          intro w3 hw3
          have HB3 := Lib.hid (HB1.out.trans ((cellL_size hw3).mono HB1.out.size))
          have HO3 := Lib.hid (HO1.out.below (cellL_size hw3))
          simp only [CellL] at hw3
          obtain ⟨g0, g1, g2, e0, e1, e2, -⟩ := hw3
          cases y
          · have HL2 := Lib.hid (HLL.out.trans (by rw [show lastR p r = p from by unfold lastR; rw [HY.out]]))
            go_wp2_with fail
            go_roundw
            case rel => exact ⟨k + 1, dn, some p, by omega, HL2, HO3.out, (fun h => by cases h), HP1.out.stay, by omega, by go_num, HB3.out⟩
            case measure => simp [intOf]; omega
          · have HL2 := Lib.hid (HLL.out.trans (by rw [show lastR p r = ⟨p.lo, r.hi, r.op⟩ from by unfold lastR; rw [HY.out]]))
            obtain ⟨hg1, hgl, hfz, -⟩ := HO3.out.at_g HLN.out (by omega)
            have HOF := Lib.hid (own_last HO3.out HLN.out HDD.out r.hi T HTT.out r.op q HQQ.out)
            have HBF := Lib.hid ((HB3.out.setCell (p := ⟨g, D * 3 + 1, none⟩) hg1 (.string T)).setCell (p := ⟨g, D * 3 + 2, none⟩) hg1 (.bool q))
            go_wp2_with fail
            go_region
            go_wp2_with fail
            go_roundw
            case rel => exact ⟨k + 1, dn, some ⟨p.lo, r.hi, r.op⟩, by omega, HL2, HOF.out, (fun h => by cases h), HP1.out.more HRR.out, by have h2 := hol; simp at h2 ⊢; omega, by go_num, HBF.out.drew⟩
            case measure => simp [intOf]; omega
    · have HL2 := Lib.hid (HL.out.trans (show dn ++ mergeL o (m.drop k) = dn ++ o.toList by rw [List.drop_eq_nil_of_le (by have := HNM.out; omega)]; cases o <;> rfl))
      go_wp2_with fail
      go_ret
      have e := HM.out.symm.trans HL2.out
      refine ⟨_, rfl, ?_, HB0.out.trans (hb.mono HB0.out.size)⟩
      rw [e]
      exact HO.out.mono HB0.out.size
theorem rgs_of (A : Option Addr) (c n : Nat) (l : List Rng) (hn : n = l.length) (hnl : n ≤ 1000) (w : World) (hr : kRng.Rd w w.heap.size A c l) :
    Calls Try.prog 9 #[.slice A n c] w (RetR w (normV l)) := (rgs_of_own A c n l hn hnl w hr).mono fun _ _ ⟨v, he, ho, hb⟩ => by
  obtain ⟨A5, c5, rfl, hrd⟩ := ho.form
  exact ⟨A5, c5, he, hrd, hb⟩
theorem makeV_len1 (l : List Rng) : (normV l).length ≤ 2 * l.length + 2 := by
  have h1 := mkR_len (inV 1 l []) (edgesL (l ++ [])) none
  have h2 := edgesL_len (l ++ [])
  rw [List.append_nil] at h1 h2
  unfold normV makeV
  rw [List.append_nil]
  omega
end Go.Proofs.Ytgoenmgkhdibnaa
