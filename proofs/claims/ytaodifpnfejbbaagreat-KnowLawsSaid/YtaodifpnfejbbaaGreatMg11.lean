/-
  Several texts in one: CntG, CntH, CntI, CntJ, CntK, Full, Law13H, VstM, VstL, VstQ, SpanD, RgsG.
-/
import Derived.Deep.CutRange
import Derived.ArgAppend
import Derived.Lib.SliceRun
import Derived.Deep.RegionHeld3
import Derived.Deep.RegionWith
import Derived.Test.YtaodifpnfejbbaaGreatMg10
/-
  Layer 13 (counts), the program: the right ones of some runs, those that begin ahead first.
-/
namespace Go.Proofs.YtaodifpnfejbbaaGreat
open Go.RowKit Go.Sort

instance : Inhabited Rn := ⟨⟨0, 0⟩⟩
def cmpI (x y : Int) : Int := match decide (x < y) with | true => -1 | false => match decide (y < x) with | true => 1 | false => 0
theorem cmpI_lt {x y : Int} (h : x < y) : cmpI x y = -1 := by unfold cmpI; rw [decide_eq_true h]
theorem cmpI_gt {x y : Int} (h : y < x) : cmpI x y = 1 := by unfold cmpI; rw [decide_eq_false (by omega), decide_eq_true h]
theorem cmpI_eq {x y : Int} (h : x = y) : cmpI x y = 0 := by unfold cmpI; rw [decide_eq_false (by omega), decide_eq_false (by omega)]
def cmpFr (x y : Rn) : Int := cmpI x.fr y.fr
theorem lt_cmpFr (x y : Rn) : ltOf cmpFr x y = decide (x.fr < y.fr) := by
  unfold ltOf cmpFr
  rcases Int.lt_trichotomy x.fr y.fr with h | h | h
  · rw [cmpI_lt h, decide_eq_true h]; rfl
  · rw [cmpI_eq h, decide_eq_false (show ¬ x.fr < y.fr by omega)]; rfl
  · rw [cmpI_gt h, decide_eq_false (show ¬ x.fr < y.fr by omega)]; rfl
theorem swo_cmpFr : SWO (ltOf cmpFr) where
  irrefl x := by rw [lt_cmpFr]; exact decide_eq_false (by omega)
  trans x y z h1 h2 := by rw [lt_cmpFr, decide_eq_true_eq] at *; omega
  ntrans x y z h1 h2 := by rw [lt_cmpFr, decide_eq_false_iff_not] at *; omega
theorem cn_isnan (x : Int) (w : World) : Calls Tryz.prog 147 #[.int .i64 x] w fun e w' => e = .returned (.bool false) ∧ w = w' := by
  go_enter Tryz.func147, Tryz.ntmps147
  go_wp2_with fail
  go_ret
  exact ⟨rfl, rfl⟩
theorem cn_compare (x y v : Int) (hv : cmpI x y = v) (w : World) : Calls Tryz.prog 136 #[.int .i64 x, .int .i64 y] w fun e w' => e = .returned (.int .i64 v) ∧ w = w' := by
  have N := fun x w => Lib.hid (cn_isnan x w)
  rcases Int.lt_trichotomy x y with h | h | h
  · obtain rfl : v = -1 := by rw [← hv, cmpI_lt h]
    have h1 : decide (x < y) = true := decide_eq_true h
    clear hv
    go_enter Tryz.func136, Tryz.ntmps136
    go_wp2_with ((with_reducible refine (N _ _).out.mono ?_); rintro e w' ⟨rfl, rfl⟩)
    go_ret
    exact ⟨rfl, rfl⟩
  · obtain rfl : v = 0 := by rw [← hv, cmpI_eq h]
    have h1 : decide (x < y) = false := decide_eq_false (by omega)
    have h2 : decide (x > y) = false := decide_eq_false (by omega)
    clear hv
    go_enter Tryz.func136, Tryz.ntmps136
    go_wp2_with ((with_reducible refine (N _ _).out.mono ?_); rintro e w' ⟨rfl, rfl⟩)
    go_ret
    exact ⟨rfl, rfl⟩
  · obtain rfl : v = 1 := by rw [← hv, cmpI_gt h]
    have h1 : decide (x < y) = false := decide_eq_false (by omega)
    have h2 : decide (x > y) = true := decide_eq_true h
    clear hv
    go_enter Tryz.func136, Tryz.ntmps136
    go_wp2_with ((with_reducible refine (N _ _).out.mono ?_); rintro e w' ⟨rfl, rfl⟩)
    go_ret
    exact ⟨rfl, rfl⟩
theorem cn_closure (x y : Rn) (W : World) : Calls Tryz.prog 135 #[.agg (rnCells x).toArray, .agg (rnCells y).toArray] W fun e w' => e = .returned (.int .i64 (cmpFr x y)) ∧ ∃ q os', w' = grow (W.drewN q) os' := by
  have C := fun w => Lib.hid (cn_compare x.fr y.fr (cmpFr x y) rfl w)
  unfold rnCells
  generalize cmpFr x y = v at C ⊢
  go_enter Tryz.func135, Tryz.ntmps135
  go_wp2_with ((with_reducible refine (C _).out.mono ?_); rintro e w' ⟨rfl, rfl⟩)
  go_ret
  exact ⟨rfl, 0, _, by rw [alloc_eq_grow, alloc_eq_grow, grow_grow]; rfl⟩
theorem cn_sort (v : Value) (f : List Rn) (base : Nat) (w : World) (h : kRn.Own w base v f) (hf : f.length ≤ 1000000) (hb : base ≤ w.heap.size) :
    Calls Tryz.prog 134 #[v, .func (.func 135) #[] #[]] w fun e w' => e = .returned (.tuple #[]) ∧ ∃ m, m.Perm f ∧ SortedC m ∧ kRn.Own w' base v m ∧ Below base w w' := by
  by_cases h0 : f = []
  · subst h0
    obtain ⟨A, c, rfl, _⟩ := h.form
    have K := AnyF.slices_SortFunc_none (P := Tryz.prog) (ρ := Tryz.sortRn_ren) { Tryz.sortRn with } A c (.func (.func 135) #[] #[]) w
    refine Calls.mono K ?_
    rintro e w' ⟨rfl, rfl⟩
    exact ⟨rfl, [], List.Perm.refl _, List.Pairwise.nil, h, Below.refl _ _⟩
  · have hp : 0 < f.length := List.length_pos_iff.2 h0
    obtain ⟨g, c, rfl, hc, hg, hgl, _, _⟩ := h.some_ rfl hp
    have hH := h.holdsK.1
    have eg : ∀ args w, (callFunc 135 args).run Tryz.prog w = .ok (.enter 135 args) w := enters_of Tryz.func135 (by kernel_rfl) rfl
    have K := AnyQ.slices_SortFunc Tryz.sortRn 2 Tryz.isAgg58 Tryz.sizeOf58 rnCells (fun _ => rfl) kRn.one cmpFr swo_cmpFr 135 #[] g 0 c f.toArray w eg (fun _ _ _ _ x y => cn_closure x y _) hH hgl (by rw [List.size_toArray]; omega)
    rw [List.size_toArray] at K
    refine Calls.mono K ?_
    rintro e w' ⟨rfl, d, n, os, hpm, hst, rfl⟩
    have hd : d.size = f.length := by have := hpm.1; rwa [List.size_toArray] at this
    have hst2 := pairs_of_sortedIn (lt := ltOf cmpFr) (d := d) (by rw [hd]; exact hst)
    refine ⟨rfl, d.toList, perm_of_permIn (by rw [List.size_toArray]; exact hpm), ?_, h.sorted d hd rfl, (Below.refl _ _).grown (grown_sortK d) hb (fun j hj => by injection hj with hj; subst hj; exact hg)⟩
    unfold SortedC
    exact hst2.imp fun {a b} hab => by rw [lt_cmpFr, decide_eq_false_iff_not] at hab; omega
theorem cfilter_next {l : List Rn} {k : Nat} {r : Rn} (h : l[k]? = some r) : (l.take (k + 1)).filter oneC = (l.take k).filter oneC ++ (match oneC r with | true => [r] | false => []) := by
  rw [List.take_add_one, h, List.filter_append]
  cases hr : oneC r <;> simp [hr]
set_option maxHeartbeats 1000000 in
theorem cn_byBeginning (A : Option Addr) (c n : Nat) (l : List Rn) (hn : n = l.length) (hnl : n ≤ 300000) (w : World) (hr : kRn.Rd w w.heap.size A c l) :
    Calls Tryz.prog 121 #[.slice A n c] w fun e w' => ∃ m, m.Perm (l.filter oneC) ∧ SortedC m ∧ ∃ A' c', e = .returned (.slice A' m.length c') ∧ kRn.Rd w' w'.heap.size A' c' m ∧ Below w.heap.size w w' := by
  have HN := Lib.hid hn
  have HR := Lib.hid hr
  have hcx : n ≤ c := by rw [hn]; exact hr.room
  clear hn hr
  go_enter Tryz.func121, Tryz.ntmps121
  go_wp2_with fail
  go_loopw [3, 8] (fun v i wr => ∃ k : Nat, k ≤ n ∧ Hid (kRn.Own wr w.heap.size v ((l.take k).filter oneC)) ∧ i = .int .i64 k ∧ Below w.heap.size w wr) (fun _ i _ => n - (intOf i).toNat)
  case atStart => exact ⟨0, by omega, Kind.Own.nil _ _, rfl, Below.refl _ _⟩
  case round =>
    obtain ⟨k, hk, HO, rfl, hb⟩ := hrel
    have hol : ((l.take k).filter oneC).length ≤ k := Nat.le_trans (List.length_filter_le _ _) (by rw [List.length_take]; omega)
    by_cases hlt : k < n
    · obtain ⟨r, hg, hd, -⟩ := cnt_get (l := l) (k := k) (by have := HN.out; omega)
      obtain ⟨b, o, rfl, hb1, hcell⟩ := rns_at (HR.out.below hb) (by have := HN.out; omega)
      obtain ⟨c0, c1⟩ := hcell k r hg
      obtain ⟨d, hdv⟩ : ∃ d, oneC r = d := ⟨_, rfl⟩
      have C := fun w => Lib.hid (cn_one r _ _ rfl rfl d hdv w)
      have HF := Lib.hid (cfilter_next hg)
      rw [hdv] at HF
      have hb2 := Nat.lt_of_lt_of_le hb1 hb.size
      have HRW := fun w => Lib.hid (rn_row w r.fr r.to)
      obtain ⟨L, hL⟩ : ∃ L, [r] = L := ⟨_, rfl⟩
      have HX := Lib.hid hL
      have hX1 : L.length = 1 := by rw [← hL]; rfl
      rw [show [(⟨r.fr, r.to⟩ : Rn)] = L from hL] at HRW
      have HLE := Lib.hid (show ((l.take k).filter oneC).length + L.length ≤ 1000000 by rw [hX1]; omega)
      have HX1 := Lib.hid hX1.symm
      clear hcell hg hd hdv hL hX1
      obtain ⟨X, hX⟩ : ∃ X, r.fr = X := ⟨_, rfl⟩
      obtain ⟨Y, hY⟩ : ∃ Y, r.to = Y := ⟨_, rfl⟩
      rw [hX, hY] at C HRW
      rw [hX] at c0
      rw [hY] at c1
      have HG := Lib.hid (rnAt_new wr X Y 58)
      clear hX hY
      have HB1 := Lib.hid (hb.alloc hb.size (.cells #[.int .i64 X, .int .i64 Y] 58))
      have HO1 := Lib.hid (HO.out.alloc (.cells #[.int .i64 X, .int .i64 Y] 58))
      cases d
      · go_wp2_with ((with_reducible refine (C _).out.mono ?_); rintro e w2 ⟨rfl, hq⟩; have HB2 := Lib.hid (HB1.out.trans (hq.mono HB1.out.size)); have HO2 := Lib.hid (HO1.out.below hq); clear hq)
        go_roundw
        case rel => exact ⟨k + 1, by omega, by have := HO2.out; rw [← List.append_nil (List.filter _ _), ← HF.out] at this; exact this, by go_num, HB2.out⟩
        case measure => simp [intOf]; omega
      · go_wp2_with (first
          | ((with_reducible refine (C _).out.mono ?_); rintro e w2 ⟨rfl, hq⟩; have HB2 := Lib.hid (HB1.out.trans (hq.mono HB1.out.size)); have HO2 := Lib.hid (HO1.out.below hq); obtain ⟨g0, g1, g2⟩ := HG.out.below hq; clear hq)
          | (at_builtin; refine wpList_app_k kRn rfl (.tmp 14) (.tmp 16) rfl w.heap.size _ _ rfl (Kind.Own.alloc HO2.out _) _ (some ⟨w2.heap.size, 0, none⟩) 1 1 L HX1.out rfl (HRW w2).out HLE.out (by decide) (cle_alloc (HB2.out.size) _) ?_; intro v3 w3 hown3 hg3 hb3 _; have HO3 := Lib.hid hown3; have HB3 := Lib.hid ((HB2.out.alloc HB2.out.size _).trans hb3); clear hown3 hb3 hg3))
        go_roundw
        case rel => exact ⟨k + 1, by omega, by have := HO3.out; rw [← HX.out, ← HF.out] at this; exact this, by go_num, HB3.out⟩
        case measure => simp [intOf]; omega
    · have hkn : l.take k = l := List.take_of_length_le (by have := HN.out; omega)
      rw [hkn] at HO hol
      have C := Lib.hid (cn_sort _ _ _ wr HO.out (by omega) hb.size)
      have HOF := HO
      clear HO hkn
      go_wp2_with ((with_reducible refine C.out.mono ?_); rintro e w2 ⟨rfl, m, hm1, hm2, hm3, hm4⟩; have H1 := Lib.hid hm1; have H2 := Lib.hid hm2; have H3 := Lib.hid hm3; have H4 := Lib.hid (hb.trans hm4); clear hm1 hm2 hm3 hm4)
      go_ret
      obtain ⟨A5, c5, he, hrd⟩ := H3.out.form
      exact ⟨m, H1.out, H2.out, A5, c5, by rw [he]; rfl, hrd, H4.out⟩
end Go.Proofs.YtaodifpnfejbbaaGreat

/-
  Layer 13 (counts), the program: the right list of some runs' counts.
-/
namespace Go.Proofs.YtaodifpnfejbbaaGreat
open Go.RowKit

set_option maxHeartbeats 4000000 in
theorem cn_of_own (A : Option Addr) (c n : Nat) (l : List Rn) (hn : n = l.length) (hnl : n ≤ 300000) (U : List Rn) (hU : ofC l = U) (NU : Nat) (hNU : U.length = NU) (w : World) (hr : kRn.Rd w w.heap.size A c l) :
    Calls Tryz.prog 92 #[.slice A n c] w (RetOC w NU U) := by
  have B0 := Lib.hid (cn_byBeginning A c n l hn (by omega) w hr)
  have HN := Lib.hid hn
  have HUU := Lib.hid hU
  have HNN := Lib.hid hNU
  clear hn hr hU hNU
  go_enter Tryz.func92, Tryz.ntmps92
  go_wp2_with ((with_reducible refine B0.out.mono ?_); rintro e w1 ⟨m, hm1, hm2, A1, c1, rfl, hrd, hq⟩; have HM := Lib.hid (mergeC_norm hm1 hm2); have HR := Lib.hid hrd; have HB0 := Lib.hid hq; have HSS := Lib.hid hm2; have HRT := Lib.hid (show ∀ r ∈ m, oneC r = true from fun r hr => (List.mem_filter.1 (hm1.mem_iff.1 hr)).2); have hml := Nat.le_trans (Nat.le_of_eq hm1.length_eq) (List.length_filter_le _ _); clear hm1 hm2 hrd hq)
  obtain ⟨N, hN⟩ : ∃ N, m.length = N := ⟨_, rfl⟩
  rw [hN]
  have hNl : N ≤ 300000 := by have := HN.out; omega
  have HNM := Lib.hid hN
  have hcx : N ≤ c1 := by rw [← hN]; exact HR.out.room
  clear hN hml B0
  go_loopw [3, 10] (fun v i wr => ∃ (k : Nat) (dn : List Rn) (o : Option Rn), k ≤ N ∧ Hid (mergeC none m = dn ++ mergeC o (m.drop k)) ∧ Hid (kRn.Own wr w1.heap.size v (dn ++ o.toList)) ∧ Hid (o = none → dn = []) ∧ Hid (LastC o (m.drop k)) ∧ (dn ++ o.toList).length ≤ k ∧ i = .int .i64 k ∧ Below w1.heap.size w1 wr) (fun _ i _ => N - (intOf i).toNat)
  case atStart => exact ⟨0, [], none, by omega, rfl, Kind.Own.nil _ _, fun _ => rfl, LastC.none _, by simp, rfl, Below.refl _ _⟩
  case round =>
    obtain ⟨k, dn, o, hk, HL, HO, HE, HP, hol, rfl, hb⟩ := hrel
    by_cases hlt : k < N
    · obtain ⟨r, hg, hd, hrm⟩ := cnt_get (l := m) (k := k) (by have := HNM.out; omega)
      obtain ⟨b, o1, rfl, hb1, hcell⟩ := rns_at (HR.out.below hb) (by have := HNM.out; omega)
      obtain ⟨c0, c1⟩ := hcell k r hg
      have hrr := HRT.out r hrm
      have HN1 := Lib.hid (LastC.new hrr (by rw [← hd]; exact HSS.out.from k))
      have hbl := Nat.lt_of_lt_of_le hb1 hb.size
      obtain ⟨X, hX⟩ : ∃ X, r.fr = X := ⟨_, rfl⟩
      obtain ⟨Y, hY⟩ : ∃ Y, r.to = Y := ⟨_, rfl⟩
      have hrX : (⟨X, Y⟩ : Rn) = r := by rw [← hX, ← hY]
      have HRW := fun w => Lib.hid (rn_row w X Y)
      rw [hrX] at HRW
      have HG := Lib.hid (rnAt_new wr X Y 58)
      rw [hX] at c0
      rw [hY] at c1
      have HB1 := Lib.hid (hb.alloc hb.size (.cells #[.int .i64 X, .int .i64 Y] 58))
      have HO1 := Lib.hid (HO.out.alloc (.cells #[.int .i64 X, .int .i64 Y] 58))
      obtain ⟨WB, hWB⟩ : ∃ WB, wr.alloc (.cells #[.int .i64 X, .int .i64 Y] 58) = WB := ⟨_, rfl⟩
      cases o with
      | none =>
        have HL2 := Lib.hid (HL.out.trans (show dn ++ mergeC none (m.drop k) = dn ++ mergeC (some r) (m.drop (k + 1)) by rw [hd]; rfl))
        obtain rfl := HE.out rfl
        obtain ⟨A0, cp0, rfl, -⟩ := HO.out.read_n (n := 0) rfl
        have HC := Lib.hid (show CellL WB [(⟨wr.heap.size, 0, none⟩, .int .i64 X), (⟨wr.heap.size, 1, none⟩, .int .i64 Y)] WB from by rw [hWB] at HG; exact ⟨HG.out.1, HG.out.2.1, Below.refl _ _⟩)
        rw [hWB] at HO1 HB1
        clear hcell hg hd hrm hrr hX hY hrX HG HL HE HO
        have HW := Lib.hid hWB
        go_wp2_with fail
        clear c0 c1
        clear hWB
        refine q_region (CellL WB [(⟨wr.heap.size, 0, none⟩, .int .i64 X), (⟨wr.heap.size, 1, none⟩, .int .i64 Y)]) (by kernel_rfl) (by kernel_rfl) (cellL_drew HC.out) ?_
        repeat (first
          | go_big_quiet_skip
          | (go_big_quiet_want; (first
            | (refine q_take (v := ?_) ?_ ?_; rotate_left; (focus (intro w hSw; (try simp only [CellL] at hSw); go_split_ands; go_simp; (try (rw [if_neg (by omega)])); (try with_reducible rfl); done)))); (try simp only [Act.put, List.setIfInBounds_toArray, List.set_cons_zero, List.set_cons_succ]); go_big_quiet_on))
        refine wpQuiet_nil ?_
        intro w2 hw2
        have HB2 := Lib.hid (HB1.out.trans ((cellL_size hw2).mono HB1.out.size))
        have HO2 := Lib.hid (HO1.out.below (cellL_size hw2))
        simp only [CellL] at hw2
        obtain ⟨g0, g1, -⟩ := hw2
        go_wp2_with (at_builtin; refine wpList_app_k kRn rfl (.tmp 27) (.tmp 29) rfl w1.heap.size _ _ rfl (Kind.Own.alloc HO2.out _) _ (some ⟨w2.heap.size, 0, none⟩) 1 1 [r] rfl rfl (HRW w2).out (by simp) (by decide) (cle_alloc (HB2.out.size) _) ?_; intro v3 w3 hown3 hg3 hb3 _; have HO3 := Lib.hid hown3; have HB3 := Lib.hid ((HB2.out.alloc HB2.out.size _).trans hb3); clear hown3 hb3 hg3)
        go_roundw
        case rel => exact ⟨k + 1, [], some r, by omega, HL2, HO3.out, (fun h => by cases h), HN1.out, by simp, by go_num, HB3.out⟩
        case measure => simp [intOf]; omega
      | some p =>
        obtain ⟨D, hD⟩ : ∃ D, dn.length = D := ⟨_, rfl⟩
        have hLn : D + 1 = (dn ++ [p]).length := by rw [List.length_append, hD]; rfl
        have hD9 : D ≤ 300000 := by have h := hol; rw [show (some p).toList = [p] from rfl, ← hLn] at h; omega
        obtain ⟨g, cp, rfl, hcp, hgb, -, -, -⟩ := HO.out.some_ hLn (by omega)
        have hga : (dn ++ [p])[D]? = some p := by rw [← hD, List.getElem?_append_right (Nat.le_refl _), Nat.sub_self]; rfl
        have HP1 := Lib.hid (show LastC (some p) (r :: m.drop (k + 1)) from by rw [← hd]; exact HP.out)
        have hpr := (HP.out p rfl).1
        obtain ⟨x, hx⟩ : ∃ x, gapC p r = x := ⟨_, rfl⟩
        have CA := fun w => (cn_apart p r p.fr p.to X Y rfl hX hpr x hx w)
        have CA := Lib.hid (fun L => cellL_of (a := WB) (l := L) CA)
        have HLP := Lib.hid (HL.out.trans (by rw [hd]))
        have HX := Lib.hid hx
        rw [hWB] at HO1 HB1 HG
        have HLN := Lib.hid hLn
        have HDD := Lib.hid hD
        have HRR := Lib.hid hrr
        have HYY := Lib.hid hY
        obtain ⟨-, hgl, hfz, hcs⟩ := HO1.out.at_g hLn (by omega)
        have e0 := hcs D p hga 0 _ rfl
        have e1 := hcs D p hga 1 _ rfl
        change WB.cell? ⟨g, D * 2 + 0, none⟩ = some (.int .i64 p.fr) at e0
        change WB.cell? ⟨g, D * 2 + 1, none⟩ = some (.int .i64 p.to) at e1
        rw [Nat.add_zero] at e0
        obtain ⟨S, hS⟩ : ∃ S, p.fr = S := ⟨_, rfl⟩
        obtain ⟨T, hT⟩ : ∃ T, p.to = T := ⟨_, rfl⟩
        rw [hS, hT] at CA
        rw [hS] at e0
        rw [hT] at e1
        have HTT := Lib.hid hT
        have HC := Lib.hid (show CellL WB [(⟨wr.heap.size, 0, none⟩, .int .i64 X), (⟨wr.heap.size, 1, none⟩, .int .i64 Y), (⟨g, D * 2, none⟩, .int .i64 S), (⟨g, D * 2 + 1, none⟩, .int .i64 T)] WB from ⟨HG.out.1, HG.out.2.1, e0, e1, Below.refl _ _⟩)
        have hj0 : (0 : Int) ≤ (D : Int) := by omega
        have hjn : (D : Int) < (D : Int) + 1 := by omega
        have hjd : decide ((D : Int) < 0) = false := decide_eq_false (by omega)
        have hjw : IntKind.i64.wrap ((D : Int) + 1 - 1) = (D : Int) := by rw [Int.add_sub_cancel]; exact IntWalk.i64_in _ (by omega)
        have hjw2 : IntKind.i64.wrap (D : Int) = (D : Int) := IntWalk.i64_in _ (by omega)
        clear hcell hg hd hrm hrr hpr hX hY hrX HG HL HE HO HP hLn hga hD hx hS hT hgl hfz hcs e0 e1
        go_wp2_with fail
        clear c0 c1 hWB
        cases x
        case true =>
          have HL2 := Lib.hid (HLP.out.trans (show dn ++ mergeC (some p) (r :: m.drop (k + 1)) = (dn ++ [p]) ++ mergeC (some r) (m.drop (k + 1)) by rw [mergeC_gap HX.out, List.append_assoc]; rfl))
          refine q_region (CellL WB [(⟨wr.heap.size, 0, none⟩, .int .i64 X), (⟨wr.heap.size, 1, none⟩, .int .i64 Y), (⟨g, D * 2, none⟩, .int .i64 S), (⟨g, D * 2 + 1, none⟩, .int .i64 T)]) (by kernel_rfl) (by kernel_rfl) (cellL_drew HC.out) ?_
          repeat (first
            | go_big_quiet_skip
            | (go_big_quiet_want; (first
              | (refine q_take (v := ?_) ?_ ?_; rotate_left; (focus (intro w hSw; (try simp only [CellL] at hSw); go_split_ands; go_simp; (try (rw [if_neg (by omega)])); (try with_reducible rfl); done)))
              | (refine q_call (CA.out _) ?_ ?_; (focus (intro w hSw; (try simp only [CellL] at hSw); go_split_ands; go_simp; (try (rw [if_neg (by omega)])); done)))); (try simp only [Act.put, List.setIfInBounds_toArray, List.set_cons_zero, List.set_cons_succ]); go_big_quiet_on))
          refine wpQuiet_nil ?_
          intro w2 hw2
          have HB2 := Lib.hid (HB1.out.trans ((cellL_size hw2).mono HB1.out.size))
          have HO2 := Lib.hid (HO1.out.below (cellL_size hw2))
          simp only [CellL] at hw2
          obtain ⟨g0, g1, -⟩ := hw2
          have HLE := Lib.hid (show (dn ++ [p]).length + [r].length ≤ 1000000 by rw [← HLN.out, List.length_singleton]; omega)
          go_wp2_with (at_builtin; refine wpList_app_k kRn rfl (.tmp 27) (.tmp 29) rfl w1.heap.size _ _ rfl (Kind.Own.alloc HO2.out _) _ (some ⟨w2.heap.size, 0, none⟩) 1 1 [r] rfl rfl (HRW w2).out HLE.out (by decide) (cle_alloc (HB2.out.size) _) ?_; intro v3 w3 hown3 hg3 hb3 _; have HO3 := Lib.hid hown3; have HB3 := Lib.hid ((HB2.out.alloc HB2.out.size _).trans hb3); clear hown3 hb3 hg3)
          go_roundw
          case rel => exact ⟨k + 1, dn ++ [p], some r, by omega, HL2, HO3.out, (fun h => by cases h), HN1.out, by have h1 := HLN.out; rw [List.length_append, ← h1]; have h2 := hol; rw [show (some p).toList = [p] from rfl, ← h1] at h2; show D + 1 + 1 ≤ k + 1; omega, by go_num, HB3.out⟩
          case measure => simp [intOf]; omega
        case false =>
          have HL2 := Lib.hid (HLP.out.trans (show dn ++ mergeC (some p) (r :: m.drop (k + 1)) = dn ++ mergeC (some ⟨p.fr, max T Y⟩) (m.drop (k + 1)) by rw [mergeC_more HX.out, moreC, HTT.out, HYY.out]))
          have HP2 := Lib.hid (show LastC (some ⟨p.fr, max T Y⟩) (m.drop (k + 1)) by have h := HP1.out.more HRR.out; rw [moreC, HTT.out, HYY.out] at h; exact h)
          refine q_region (CellL WB [(⟨wr.heap.size, 0, none⟩, .int .i64 X), (⟨wr.heap.size, 1, none⟩, .int .i64 Y), (⟨g, D * 2, none⟩, .int .i64 S), (⟨g, D * 2 + 1, none⟩, .int .i64 T)]) (by kernel_rfl) (by kernel_rfl) (cellL_drew HC.out) ?_
          repeat (first
            | go_big_quiet_skip
            | (go_big_quiet_want; (first
              | (refine q_take (v := ?_) ?_ ?_; rotate_left; (focus (intro w hSw; (try simp only [CellL] at hSw); go_split_ands; go_simp; (try (rw [if_neg (by omega)])); (try with_reducible rfl); done)))
              | (refine q_call (CA.out _) ?_ ?_; (focus (intro w hSw; (try simp only [CellL] at hSw); go_split_ands; go_simp; (try (rw [if_neg (by omega)])); done)))); (try simp only [Act.put, List.setIfInBounds_toArray, List.set_cons_zero, List.set_cons_succ]); go_big_quiet_on))
          refine wpQuiet_nil ?_
          intro w3 hw3
          have HB3 := Lib.hid (HB1.out.trans ((cellL_size hw3).mono HB1.out.size))
          have HO3 := Lib.hid (HO1.out.below (cellL_size hw3))
          simp only [CellL] at hw3
          obtain ⟨g0, g1, e0, e1, -⟩ := hw3
          obtain ⟨hg1, hgl, hfz, -⟩ := HO3.out.at_g HLN.out (by omega)
          obtain ⟨z, hz⟩ : ∃ z, max T Y = z := ⟨_, rfl⟩
          have hz2 : (if T < Y then Y else T) = z := by rw [← hz]; split <;> omega
          rw [hz] at HL2 HP2
          have HOF := Lib.hid (own_to HO3.out HLN.out HDD.out z)
          have HBF := Lib.hid (HB3.out.setCell (p := ⟨g, D * 2 + 1, none⟩) hg1 (.int .i64 z))
          go_wp2_with fail
          go_region
          go_wp2_with fail
          go_roundw
          case rel => exact ⟨k + 1, dn, some ⟨p.fr, z⟩, by omega, HL2, HOF.out, (fun h => by cases h), HP2.out, by have h2 := hol; simp at h2 ⊢; omega, by go_num, HBF.out.drew⟩
          case measure => simp [intOf]; omega
    · have HL2 := Lib.hid (HL.out.trans (show dn ++ mergeC o (m.drop k) = dn ++ o.toList by rw [List.drop_eq_nil_of_le (by have := HNM.out; omega)]; cases o <;> rfl))
      have HUO := Lib.hid (HUU.out.symm.trans (HM.out.symm.trans HL2.out))
      obtain ⟨A9, c9, rfl, -⟩ := HO.out.read_n (n := NU) (by rw [← HUO.out]; exact HNN.out.symm)
      go_wp2_with fail
      go_ret
      refine ⟨A9, c9, rfl, ?_, HB0.out.trans (hb.mono HB0.out.size)⟩
      rw [HUO.out]
      exact HO.out.mono HB0.out.size
end Go.Proofs.YtaodifpnfejbbaaGreat

/-
  Layer 13 (counts), the program: a list that is not swept yet; from a count on; the next edge of two.
-/
namespace Go.Proofs.YtaodifpnfejbbaaGreat
open Go.RowKit

/-- While a list's edges are gathered: s in the second block of the call, what is handed back in the first one, the list's row as it was. -/
structure BegC (w w1 : World) (g1 : Nat) (W : World) (v : Value) (L : List Int) : Prop where
  s0 : W.cell? ⟨w.heap.size + 1, 0, none⟩ = some (.bool false)
  s1 : W.cell? ⟨w.heap.size + 1, 1, none⟩ = some v
  sf : ∀ j, W.frozen? ⟨w.heap.size + 1, j, none⟩ = false
  r0 : W.cell? ⟨w.heap.size, 0, none⟩ = some (.bool false)
  r1 : W.cell? ⟨w.heap.size, 1, none⟩ = some (.slice none 0 0)
  rf : ∀ j, W.frozen? ⟨w.heap.size, j, none⟩ = false
  own : kIt.Own W w1.heap.size v L
  same : ∀ j, W.cell? ⟨g1, j, none⟩ = w1.cell? ⟨g1, j, none⟩
  below : Below w.heap.size w W
  size : w1.heap.size ≤ W.heap.size
theorem BegC.alloc {w w1 W : World} {g1 : Nat} {v : Value} {L : List Int} (h : BegC w w1 g1 W v L) (h2 : w.heap.size + 2 ≤ w1.heap.size) (h3 : g1 < w1.heap.size) (x : Obj) : BegC w w1 g1 (W.alloc x) v L := by
  have hz := h.size
  obtain ⟨kc, kf⟩ := bcell (below_new W x)
  exact ⟨(kc _ _ (by omega)).trans h.s0, (kc _ _ (by omega)).trans h.s1, fun j => (kf _ _ (by omega)).trans (h.sf j), (kc _ _ (by omega)).trans h.r0, (kc _ _ (by omega)).trans h.r1, fun j => (kf _ _ (by omega)).trans (h.rf j), h.own.alloc x, fun j => (kc _ _ (by omega)).trans (h.same j), h.below.alloc h.below.size x, cle_alloc hz x⟩
theorem BegC.app {w w1 W W' : World} {g1 : Nat} {v v' : Value} {L L' : List Int} (h : BegC w w1 g1 W v L) (h2 : w.heap.size + 2 ≤ w1.heap.size) (h3 : g1 < w1.heap.size) (h4 : g1 ≠ w.heap.size + 1) (ho : kIt.Own W' w1.heap.size v' L') (hb : Below w1.heap.size W W') :
    BegC w w1 g1 (W'.setCell ⟨w.heap.size + 1, 1, none⟩ v') v' L' := by
  obtain ⟨kc, kf⟩ := bcell hb
  have fr : ∀ p, (W'.setCell ⟨w.heap.size + 1, 1, none⟩ v').frozen? p = W'.frozen? p := fun p => by rw [World.frozen?_setCell]
  refine ⟨set_other ((kc _ _ (by omega)).trans h.s0) (addr_off (by decide)) _, set_same ((kc _ _ (by omega)).trans h.s1) _, fun j => (fr _).trans ((kf _ _ (by omega)).trans (h.sf j)), set_other ((kc _ _ (by omega)).trans h.r0) (addr_block (by omega)) _, set_other ((kc _ _ (by omega)).trans h.r1) (addr_block (by omega)) _,
    fun j => (fr _).trans ((kf _ _ (by omega)).trans (h.rf j)), ho.other (grownBy_set _ _ _ _) (by omega), fun j => (World.cell?_setCell_other _ _ _ _ (addr_block (Ne.symm h4))).trans ((kc _ _ h3).trans (h.same j)), ?_, ?_⟩
  · exact (h.below.trans (hb.mono (by omega))).setCell (p := ⟨w.heap.size + 1, 1, none⟩) (Nat.le_succ _) _
  · have h5 := hb.size
    have h6 := h.size
    have : (W'.setCell ⟨w.heap.size + 1, 1, none⟩ v').heap.size = W'.heap.size := by simp
    omega
theorem two_new1 (w : World) (x : Obj) (X Y : Int) : RowAt ((w.alloc x).alloc (.cells #[.int .i64 X, .int .i64 Y] 3)) (w.heap.size + 1 + 1) (some ⟨w.heap.size + 1, 0, none⟩) (kIt.row [X, Y]) := by
  have := (Kind.rd_new (k := kIt) (w := w.alloc x) (cs := #[.int .i64 X, .int .i64 Y]) (l := [X, Y]) (t := 3) (n := 2) rfl rfl (by simp)).row
  rwa [size1] at this
theorem ofC_len (l : List Rn) : (ofC l).length ≤ 2 * l.length + 1 := by have := makeC_len 1 l []; rw [List.length_nil] at this; exact this
set_option maxHeartbeats 4000000 in
theorem cn_begin (A : Option Addr) (c n : Nat) (l : List Rn) (hn : n = l.length) (hnl : n ≤ 100000) (w : World) (hr : kRn.Rd w w.heap.size A c l) :
    Calls Tryz.prog 167 #[.slice A n c] w fun e w' => ∃ A' c', e = .returned (.agg #[.bool false, .slice A' (edgesI (ofC l)).length c']) ∧ kIt.Rd w' w'.heap.size A' c' (edgesI (ofC l)) ∧ Below w.heap.size w w' := by
  have hml := ofC_len l
  have HRT := Lib.hid (show ∀ r ∈ ofC l, oneC r = true from rightC_all (ofC_right l))
  obtain ⟨M, hM⟩ : ∃ M, ofC l = M := ⟨_, rfl⟩
  obtain ⟨N, hN⟩ : ∃ N, M.length = N := ⟨_, rfl⟩
  have C := fun W (h : Below w.heap.size w W) => Lib.hid (cn_of_own A c n l hn (by omega) M hM N hN W (hr.call h))
  have HB0 := Lib.hid (((Below.refl w.heap.size w).alloc (Nat.le_refl _) (.cells #[.bool false, .slice none 0 0] 170)).alloc (by simp) (.cells #[.bool false, .slice none 0 0] 170))
  rw [hM] at HRT hml ⊢
  have HN := Lib.hid hn
  clear hn hr hM
  go_enter Tryz.func167, Tryz.ntmps167
  go_wp2_with ((with_reducible refine (C _ HB0.out).out.mono ?_); rintro e w1 ⟨A1, c1, rfl, ho, hq⟩; have HO := Lib.hid ho; have HQ := Lib.hid hq; have HR := Lib.hid ho.rd; clear ho hq)
  have hN9 : N ≤ 200001 := by have := HN.out; omega
  have HNM := Lib.hid hN
  have hcx : N ≤ c1 := by rw [← hN]; exact HR.out.room
  have hz2 : w.heap.size + 2 ≤ w1.heap.size := by have := HQ.out.size; simp at this; omega
  have H0 : ∃ g1, g1 < w1.heap.size ∧ g1 ≠ w.heap.size + 1 ∧ (0 < N → A1 = some ⟨g1, 0, none⟩ ∧ ∀ k r, M[k]? = some r → w1.cell? ⟨g1, k * 2, none⟩ = some (.int .i64 r.fr) ∧ w1.cell? ⟨g1, k * 2 + 1, none⟩ = some (.int .i64 r.to)) := by
    by_cases hp : 0 < N
    · obtain ⟨g, cp, hv, -, h1, h2, -, h4⟩ := HO.out.some_ hN.symm hp
      injection hv with hA
      refine ⟨g, h2, ?_, fun _ => ⟨hA, fun k r hr => ⟨h4 k r hr 0 _ rfl, h4 k r hr 1 _ rfl⟩⟩⟩
      simp at h1; omega
    · exact ⟨w.heap.size, by omega, by omega, fun h => absurd h hp⟩
  obtain ⟨g1, hg1, hg2, H0⟩ := H0
  have H0 := Lib.hid H0
  have HS : Hid (BegC w w1 g1 w1 (.slice none 0 0) []) := by
    obtain ⟨kc, kf⟩ := bcell HQ.out
    have q0 := fun j => kc w.heap.size j (by simp; omega)
    have q1 := fun j => kc (w.heap.size + 1) j (by simp)
    have f0 := fun j => kf w.heap.size j (by simp; omega)
    have f1 := fun j => kf (w.heap.size + 1) j (by simp)
    have hh0 : ((w.alloc (.cells #[.bool false, .slice none 0 0] 170)).alloc (.cells #[.bool false, .slice none 0 0] 170)).heap[w.heap.size]? = some (.cells #[.bool false, .slice none 0 0] 170 (0, 0)) := heap_old _ (heap_new w _ _ rfl)
    have hh1 : ((w.alloc (.cells #[.bool false, .slice none 0 0] 170)).alloc (.cells #[.bool false, .slice none 0 0] 170)).heap[w.heap.size + 1]? = some (.cells #[.bool false, .slice none 0 0] 170 (0, 0)) := by
      have := heap_new (w.alloc (.cells #[.bool false, .slice none 0 0] 170)) (.cells #[.bool false, .slice none 0 0] 170) _ rfl
      rwa [size1] at this
    refine ⟨(q1 0).trans ?_, (q1 1).trans ?_, fun j => (f1 j).trans ?_, (q0 0).trans ?_, (q0 1).trans ?_, fun j => (f0 j).trans ?_, Kind.Own.nil _ _, fun _ => rfl, HB0.out.trans (HQ.out.mono (by simp; omega)), Nat.le_refl _⟩
    · rw [cell_of_row _ _ _ _ _ _ hh1]; rfl
    · rw [cell_of_row _ _ _ _ _ _ hh1]; rfl
    · unfold World.frozen?; rw [hh1]; simp
    · rw [cell_of_row _ _ _ _ _ _ hh0]; rfl
    · rw [cell_of_row _ _ _ _ _ _ hh0]; rfl
    · unfold World.frozen?; rw [hh0]; simp
  clear hN hml C HB0 HQ HO HR
  go_loopw [9] (fun i wr => ∃ (k : Nat) (v : Value), k ≤ N ∧ Hid (BegC w w1 g1 wr v (edgesI (M.take k))) ∧ i = .int .i64 k) (fun i _ => N - (intOf i).toNat)
  case atStart => exact ⟨0, _, by omega, HS, rfl⟩
  case round =>
    obtain ⟨k, v, hk, HB, rfl⟩ := hrel
    by_cases hlt : k < N
    · obtain ⟨r, hg, hd, hrm⟩ := cnt_get (l := M) (k := k) (by have := HNM.out; omega)
      obtain ⟨rfl, hcell⟩ := H0.out (by omega)
      obtain ⟨c0, c1⟩ := hcell k r hg
      rw [← HB.out.same] at c0 c1
      have HX := Lib.hid (edgesI_next hg)
      have hr3 := oneC_iff.1 (HRT.out r hrm)
      have HLE := Lib.hid (show (edgesI (M.take k)).length + [r.fr, r.to + 1].length ≤ 1000000 by have := edgesI_len (M.take k); rw [List.length_take] at this; simp only [List.length_cons, List.length_nil]; omega)
      obtain ⟨X, hX⟩ : ∃ X, r.fr = X := ⟨_, rfl⟩
      obtain ⟨Y, hY⟩ : ∃ Y, r.to = Y := ⟨_, rfl⟩
      rw [hX, hY] at HX HLE hr3
      rw [hX] at c0
      rw [hY] at c1
      have hw : IntKind.i64.wrap (Y + 1) = Y + 1 := IntWalk.i64_in _ (by omega)
      obtain ⟨Z, hZ⟩ : ∃ Z, Y + 1 = Z := ⟨_, rfl⟩
      rw [hZ] at HX HLE hw
      have hw2 : IntKind.i64.wrap (Y + 1) = Z := by rw [hZ]; exact hw
      have HG := Lib.hid (rnAt_new wr X Y 58)
      have HB1 := Lib.hid (HB.out.alloc hz2 hg1 (.cells #[.int .i64 X, .int .i64 Y] 58))
      have HR1 := Lib.hid (two_new1 wr (.cells #[.int .i64 X, .int .i64 Y] 58) X Z)
      obtain ⟨N1, hN1⟩ : ∃ N1, (edgesI (M.take k) ++ [X, Z]).length = N1 := ⟨_, rfl⟩
      have HN1 := Lib.hid hN1.symm
      clear hN1
      have hl3 : w.heap.size + 1 < w1.heap.size := by omega
      have HSZ := Lib.hid HB1.out.size
      obtain ⟨s0, s1, sf, -, -, -, -, -, -, -⟩ := HB1.out
      obtain ⟨g0, g1', g2⟩ := HG.out
      clear hcell hg hd hX hY HB hrm hr3 hZ hw
      have HLL := Lib.hid hl3
      clear hl3
      go_wp2_with (at_builtin; refine wpList_app_k kIt rfl (.tmp 14) (.tmp 20) rfl w1.heap.size _ _ rfl (Kind.Own.alloc HB1.out.own _) _ (some ⟨wr.heap.size + 1, 0, none⟩) 2 2 [X, Z] rfl rfl HR1.out HLE.out (by decide) (cle_alloc HSZ.out _) ?_; intro v3 w3 hown3 hg3 hb3 _; obtain ⟨A3, c3, rfl, -⟩ := hown3.read_n HN1.out; have HQ3 := Lib.hid (HB1.out.alloc hz2 hg1 (.cells #[.int .i64 X, .int .i64 Z] 3)); have HB2 := Lib.hid (HQ3.out.app hz2 hg1 hg2 hown3 hb3); replace s1 := ((bcell hb3).1 _ _ HLL.out).trans HQ3.out.s1; have sf3 := fun j => ((bcell hb3).2 _ j HLL.out).trans (HQ3.out.sf j); clear hown3 hg3 hb3)
      go_roundw
      case rel => exact ⟨k + 1, _, by omega, by rw [HX.out]; exact HB2.out, by go_num⟩
      case measure => simp [intOf]; omega
    · have hkn : M.take k = M := List.take_of_length_le (by have := HNM.out; omega)
      rw [hkn] at HB
      obtain ⟨s0, s1, sf, r0, r1, rf, -, -, -, -⟩ := HB.out
      obtain ⟨A5, c5, rfl, hrd⟩ := HB.out.own.form
      have HRD := Lib.hid hrd
      clear hkn hrd
      go_wp2_with fail
      have HBF := Lib.hid ((HB.out.below.setCell (p := ⟨w.heap.size, 0, none⟩) (Nat.le_refl _) (.bool false)).setCell (p := ⟨w.heap.size, 1, none⟩) (Nat.le_refl _) (.slice A5 (edgesI M).length c5))
      have HOF := Lib.hid ((HB.out.own.other (grownBy_set wr w.heap.size 0 (.bool false)) (by omega)).other (grownBy_set _ w.heap.size 1 (.slice A5 (edgesI M).length c5)) (by omega)).rd
      have hc1 : ((wr.setCell ⟨w.heap.size, 0, none⟩ (.bool false)).setCell ⟨w.heap.size, 1, none⟩ (.slice A5 (edgesI M).length c5)).cell? ⟨w.heap.size, 1, none⟩ = some (.slice A5 (edgesI M).length c5) := set_same (set_other r1 (addr_off (by decide)) _) _
      have hc0 : ((wr.setCell ⟨w.heap.size, 0, none⟩ (.bool false)).setCell ⟨w.heap.size, 1, none⟩ (.slice A5 (edgesI M).length c5)).cell? ⟨w.heap.size, 0, none⟩ = some (.bool false) := set_other (set_same r0 _) (addr_off (by decide)) _
      exact bodyPost_ret (v := .agg #[.bool false, .slice A5 (edgesI M).length c5]) (by simp [results, Tryz.results167, go_sem, hc0, hc1]) rfl ⟨A5, c5, rfl, HOF.out, HBF.out⟩
end Go.Proofs.YtaodifpnfejbbaaGreat

/-
  Layer 13 (counts), the program: a swept list from a count on; the next edge of two.
-/
namespace Go.Proofs.YtaodifpnfejbbaaGreat
open Go.RowKit

/-- The edges' row behind a count. -/
def passN (x : Int) (A : Option Addr) (n c : Nat) : List Int → Value
  | [] => .slice A n c
  | y :: _ => match decide (y = x) with | true => .slice (cutA A 1 c) (n - 1) (c - 1) | false => .slice A n c
theorem passN_same {x : Int} {A : Option Addr} {n c : Nat} {l : List Int} : passN x A n c (x :: l) = .slice (cutA A 1 c) (n - 1) (c - 1) := by rw [passN, decide_eq_true rfl]
theorem passN_other {x y : Int} {A : Option Addr} {n c : Nat} {l : List Int} (h : y ≠ x) : passN x A n c (y :: l) = .slice A n c := by rw [passN, decide_eq_false h]
/-- A row of counts that reads, as a value. -/
def SliceI (w : World) (v : Value) (l : List Int) : Prop := ∃ A c, v = .slice A l.length c ∧ kIt.Rd w w.heap.size A c l
theorem passN_reads {x : Int} {A : Option Addr} {c : Nat} {l : List Int} {w : World} (hr : kIt.Rd w w.heap.size A c l) : SliceI w (passN x A l.length c l) (dropI x l) := by
  cases l with
  | nil => exact ⟨A, c, rfl, hr⟩
  | cons y l =>
    by_cases hy : y = x
    · subst hy
      rw [passN_same, dropI_same]
      refine ⟨_, _, rfl, ?_, by have := hr.room; simp only [List.length_cons] at this; omega, by have := hr.cap; omega⟩
      have h1 := RowAt.cut hr.row (k := 1) (c := c) (by rw [its_len]; simp) (by rw [its_len]; exact hr.room)
      rwa [← its_drop, List.drop_one, List.tail_cons] at h1
    · rw [passN_other hy, dropI_other hy]
      exact ⟨_, _, rfl, hr⟩
set_option maxHeartbeats 1000000 in
theorem cn_pass (A : Option Addr) (c n : Nat) (l : List Int) (x : Int) (v : Bool) (hn : n = l.length) (v' : Bool) (hv : passI x v l = v') (s' : Value) (hs : passN x A n c l = s') (w : World) (hr : kIt.Rd w w.heap.size A c l) :
    Calls Tryz.prog 169 #[.agg #[.bool v, .slice A n c], .int .i64 x] w fun e w' => e = .returned (.agg #[.bool v', s']) ∧ Below w.heap.size w w' := by
  have HB := Lib.hid (((Below.refl w.heap.size w).alloc (Nat.le_refl _) (.cells #[.bool v', s'] 170)).alloc (by simp) (.cells #[.bool v', s'] 170))
  cases l with
  | nil =>
    obtain rfl : n = 0 := hn
    obtain rfl : v' = v := hv.symm
    obtain rfl : s' = .slice A 0 c := hs.symm
    clear hr hv hs
    go_enter Tryz.func169, Tryz.ntmps169
    go_wp2_with fail
    exact bodyPost_ret (v := .agg #[.bool v', .slice A 0 c]) (by simp [results, Tryz.results169, go_sem]) rfl ⟨rfl, HB.out⟩
  | cons y l =>
    obtain ⟨b, o, rfl, hb1, hcell⟩ := its_at hr (by simp)
    have c0 := hcell 0 y rfl
    rw [Nat.add_zero] at c0
    have hn0 : 0 < n := by rw [hn]; simp
    have hnc : n ≤ c := by rw [hn]; exact hr.room
    have hnd : decide ((0 : Int) < (n : Int)) = true := decide_eq_true (by omega)
    by_cases hy : y = x
    · have hE : (y == x) = true := by rw [hy]; simp
      have K : ∀ w : World, (Instr.slice 139 (.slice (some ⟨b, o, none⟩) n c) (some (.int .i64 1)) none none).run Tryz.prog w = .ok (.slice (cutA (some ⟨b, o, none⟩) 1 c) (n - 1) (c - 1)) w := fun w => run_cut (T := 139) (E := 3) Tryz.underlying139 int_sizeOf w (some ⟨b, o, none⟩) n c 1 (by omega)
      obtain rfl : v' = !v := by rw [← hv, hy, passI_same]
      obtain ⟨q, hq⟩ : ∃ q, cutA (some ⟨b, o, none⟩) 1 c = q := ⟨_, rfl⟩
      obtain ⟨n1, hn1⟩ : ∃ n1, n - 1 = n1 := ⟨_, rfl⟩
      obtain ⟨c1, hc1⟩ : ∃ c1, c - 1 = c1 := ⟨_, rfl⟩
      rw [hq, hn1, hc1] at K
      obtain rfl : s' = .slice q n1 c1 := by rw [← hs, ← hq, ← hn1, ← hc1, hy, passN_same]
      clear hcell hv hs hn hq hn1 hc1 hy hr
      go_enter Tryz.func169, Tryz.ntmps169
      go_wp2_with fail
      go_region
      go_wp2_with fail
      exact bodyPost_ret (v := .agg #[.bool (!v), .slice q n1 c1]) (by simp [results, Tryz.results169, go_sem]) rfl ⟨rfl, HB.out.drew⟩
    · have hE : (y == x) = false := beq_eq_false_iff_ne.2 hy
      obtain rfl : v' = v := by rw [← hv, passI_other hy]
      obtain rfl : s' = .slice (some ⟨b, o, none⟩) n c := by rw [← hs, passN_other hy]
      clear hcell hv hs hn hr
      go_enter Tryz.func169, Tryz.ntmps169
      go_wp2_with fail
      exact bodyPost_ret (v := .agg #[.bool v', .slice (some ⟨b, o, none⟩) n c]) (by simp [results, Tryz.results169, go_sem]) rfl ⟨rfl, HB.out⟩
/-- The next edge, as it is handed back. -/
def curI : Option Int → Int
  | none => 0
  | some e => e
set_option maxHeartbeats 1000000 in
theorem cn_nearest (A B : Option Addr) (c d n m : Nat) (a b : List Int) (x y : Bool) (hn : n = a.length) (hm : m = b.length) (z : Int) (hz : curI (nearI a b) = z) (v : Bool) (hv : (nearI a b).isSome = v) (w : World) (ha : kIt.Rd w w.heap.size A c a) (hb : kIt.Rd w w.heap.size B d b) :
    Calls Tryz.prog 168 #[.agg #[.bool x, .slice A n c], .agg #[.bool y, .slice B m d]] w fun e w' => e = .returned (.tuple #[.int .i64 z, .bool v]) ∧ Below w.heap.size w w' := by
  have HB := Lib.hid (((Below.refl w.heap.size w).alloc (Nat.le_refl _) (.cells #[.bool x, .slice A n c] 170)).alloc (by simp) (.cells #[.bool y, .slice B m d] 170))
  have hna : n ≤ c := by rw [hn]; exact ha.room
  have hmb : m ≤ d := by rw [hm]; exact hb.room
  cases a with
  | nil =>
    obtain rfl : n = 0 := hn
    cases b with
    | nil =>
      obtain rfl : m = 0 := hm
      obtain rfl : v = false := hv.symm
      obtain rfl : z = 0 := hz.symm
      clear ha hb hv hz
      go_enter Tryz.func168, Tryz.ntmps168
      go_wp2_with fail
      go_ret2
      exact ⟨rfl, HB.out⟩
    | cons t b =>
      obtain ⟨b1, o1, rfl, hb1, hcell⟩ := its_at hb (by simp)
      have c0 := hcell 0 t rfl
      rw [Nat.add_zero] at c0
      have hm0 : 0 < m := by rw [hm]; simp
      have hmd : ((m : Int) == 0) = false := beq_eq_false_iff_ne.2 (by omega)
      obtain rfl : v = true := hv.symm
      obtain rfl : z = t := hz.symm
      clear ha hb hv hcell hm hz
      go_enter Tryz.func168, Tryz.ntmps168
      go_wp2_with fail
      go_ret2
      exact ⟨rfl, HB.out⟩
  | cons s a =>
    obtain ⟨b2, o2, rfl, hb2, hcell2⟩ := its_at ha (by simp)
    have e0 := hcell2 0 s rfl
    rw [Nat.add_zero] at e0
    have hn0 : 0 < n := by rw [hn]; simp
    have hnd : ((n : Int) == 0) = false := beq_eq_false_iff_ne.2 (by omega)
    cases b with
    | nil =>
      obtain rfl : m = 0 := hm
      obtain rfl : v = true := hv.symm
      obtain rfl : z = s := hz.symm
      clear ha hb hv hcell2 hn hz
      go_enter Tryz.func168, Tryz.ntmps168
      go_wp2_with fail
      go_ret2
      exact ⟨rfl, HB.out⟩
    | cons t b =>
      obtain ⟨b1, o1, rfl, hb1, hcell⟩ := its_at hb (by simp)
      have c0 := hcell 0 t rfl
      rw [Nat.add_zero] at c0
      have hm0 : 0 < m := by rw [hm]; simp
      have hmd : ((m : Int) == 0) = false := beq_eq_false_iff_ne.2 (by omega)
      obtain rfl : v = true := hv.symm
      have hz1 : min s t = z := hz
      have hz2 : (if t < s then t else s) = z := by rw [← hz1]; split <;> omega
      have hz3 : (if s < t then s else t) = z := by rw [← hz1]; split <;> omega
      clear ha hb hv hz hcell hcell2 hn hm
      go_enter Tryz.func168, Tryz.ntmps168
      go_wp2_with fail
      go_region
      go_wp2_with fail
      go_ret2
      exact ⟨rfl, HB.out.drew⟩
end Go.Proofs.YtaodifpnfejbbaaGreat

/-
  Layer 13 (counts), the program: two lists swept together.
-/
namespace Go.Proofs.YtaodifpnfejbbaaGreat
open Go.RowKit

theorem cn_begin_is (A : Option Addr) (c n : Nat) (l : List Rn) (hn : n = l.length) (hnl : n ≤ 100000) (w0 : World) (hr : kRn.Rd w0 w0.heap.size A c l) (E : List Int) (hE : edgesI (ofC l) = E) (N : Nat) (hN : E.length = N) (w : World) (hb : Below w0.heap.size w0 w) :
    Calls Tryz.prog 167 #[.slice A n c] w fun e w' => ∃ A' c', e = .returned (.agg #[.bool false, .slice A' N c']) ∧ kIt.Rd w' w'.heap.size A' c' E ∧ Below w.heap.size w w' := by
  subst hE hN
  exact cn_begin A c n l hn hnl w (hr.call hb)
theorem cn_pass_is (A : Option Addr) (c n : Nat) (l : List Int) (x : Int) (v : Bool) (w0 : World) (hn : l.length = n) (hr : kIt.Rd w0 w0.heap.size A c l) (v' : Bool) (hv : passI x v l = v') (l' : List Int) (hl : dropI x l = l') :
    ∃ A' n' c', l'.length = n' ∧ kIt.Rd w0 w0.heap.size A' c' l' ∧ ∀ w, Below w0.heap.size w0 w → Hid (Calls Tryz.prog 169 #[.agg #[.bool v, .slice A n c], .int .i64 x] w fun e w' => e = .returned (.agg #[.bool v', .slice A' n' c']) ∧ Below w.heap.size w w') := by
  subst hn hl
  obtain ⟨A', c', h1, h2⟩ := passN_reads (x := x) hr
  exact ⟨A', _, c', rfl, h2, fun w hb => cn_pass A c l.length l x v rfl v' hv _ h1 w (hr.call hb)⟩
/-- What stands open in the list that is made. -/
def pendC : Option Int → List Rn
  | none => []
  | some lo => [⟨lo, 0⟩]
set_option maxRecDepth 100000 in
set_option maxHeartbeats 8000000 in
theorem cn_sweep (g : FuncId) (kf : Bool → Bool → Bool) (K : ∀ x y w, Calls Tryz.prog g #[.bool x, .bool y] w fun e w' => e = .returned (.bool (kf x y)) ∧ w = w') (eg : ∀ args w, (callFunc g args).run Tryz.prog w = .ok (.enter g args) w)
    (op : Int) (hk0 : kf false false = false) (A B : Option Addr) (c d n m : Nat) (a b : List Rn) (hk : ∀ s, kf (hasC a s) (hasC b s) = isC op a b s) (hn : n = a.length) (hm : m = b.length) (hnl : n ≤ 100000) (hml : m ≤ 100000) (U : List Rn) (hU : makeC op a b = U) (NU : Nat) (hNU : U.length = NU) (w : World) (ha : kRn.Rd w w.heap.size A c a) (hb : kRn.Rd w w.heap.size B d b) :
    Calls Tryz.prog 142 #[.slice A n c, .slice B m d, .func (.func g) #[] #[]] w (RetOC w NU U) := by
  obtain ⟨ea, hea⟩ : ∃ ea, edgesI (ofC a) = ea := ⟨_, rfl⟩
  obtain ⟨eb, heb⟩ : ∃ eb, edgesI (ofC b) = eb := ⟨_, rfl⟩
  obtain ⟨N, hN⟩ : ∃ N, ea.length = N := ⟨_, rfl⟩
  obtain ⟨M, hM⟩ : ∃ M, eb.length = M := ⟨_, rfl⟩
  have hN9 : N ≤ 400002 := by rw [← hN, ← hea, edgesI_len]; have := ofC_len a; omega
  have hM9 : M ≤ 400002 := by rw [← hM, ← heb, edgesI_len]; have := ofC_len b; omega
  have C1 := fun W h => Lib.hid (cn_begin_is A c n a hn hnl w ha ea hea N hN W h)
  have C2 := fun W h => Lib.hid (cn_begin_is B d m b hm hml w hb eb heb M hM W h)
  have HS := Lib.hid (SwC.start (kf := kf) hk0 a b)
  have HN := Lib.hid hN
  have HM := Lib.hid hM
  have HK0 := Lib.hid hk0
  have HK := Lib.hid hk
  rw [hea, heb] at HS
  have HUU := Lib.hid hU
  have HNN := Lib.hid hNU
  have hb0 := Lib.hid (Below.refl w.heap.size w)
  clear hn hm ha hb hea heb hN hM hnl hml hk hU hNU hk0
  go_enter Tryz.func142, Tryz.ntmps142
  obtain ⟨z0, hz0⟩ : ∃ z0, curI (nearI ea eb) = z0 := ⟨_, rfl⟩
  obtain ⟨v0, hv0⟩ : ∃ v0, (nearI ea eb).isSome = v0 := ⟨_, rfl⟩
  go_wp2_with (first
    | ((with_reducible refine (C1 _ hb0.out).out.mono ?_); rintro e w1 ⟨A1, c1, rfl, hrd, hq⟩; have H1 := Lib.hid hrd; replace hb0 := Lib.hid hq; clear hrd hq)
    | ((with_reducible refine (C2 _ hb0.out).out.mono ?_); rintro e w2 ⟨A2, c2, rfl, hrd, hq⟩; have H2 := Lib.hid hrd; have H1 := Lib.hid (H1.out.call hq); have hb1 := Lib.hid (hb0.out.trans (hq.mono hb0.out.size)); have H7 := Lib.hid ((sdAt_new w2 false (.slice A1 N c1) 170).below (below_new _ (.cells #[.bool false, .slice A2 M c2] 170))); have H8 := Lib.hid (sdAt_new1 w2 (.cells #[.bool false, .slice A1 N c1] 170) false (.slice A2 M c2) 170); have HBW := Lib.hid ((below_new w2 (.cells #[.bool false, .slice A1 N c1] 170)).alloc (by simp) (.cells #[.bool false, .slice A2 M c2] 170)); clear hrd hq)
    | ((with_reducible refine (Lib.hid (cn_nearest A1 A2 c1 c2 N M ea eb false false HN.out.symm HM.out.symm z0 hz0 v0 hv0 _ (H1.out.call HBW.out) (H2.out.call HBW.out))).out.mono ?_); rintro e w3 ⟨rfl, hq⟩; replace H7 := Lib.hid (H7.out.below hq); replace H8 := Lib.hid (H8.out.below hq); replace HBW := Lib.hid (HBW.out.trans (hq.mono HBW.out.size)); clear hq))
  clear C1 C2 hb0
  go_loopg [9, 10, 11, 12] (N + M) (fun gg s9 s10 s11 s12 wr => ∃ (cc : Int) (x y : Bool) (fa fb : List Int) (A7 A8 : Option Addr) (n7 c7 n8 c8 : Nat) (dn : List Rn) (o : Option Int),
    Hid (SwC kf a b cc x fa y fb dn o) ∧ Hid (kRn.Own wr (w2.heap.size + 2) s9 (dn ++ pendC o)) ∧ s10 = .bool o.isSome ∧ s11 = .int .i64 (curI (nearI fa fb)) ∧ s12 = .bool (nearI fa fb).isSome ∧
    Hid (SdAt wr w2.heap.size x (.slice A7 n7 c7)) ∧ Hid (SdAt wr (w2.heap.size + 1) y (.slice A8 n8 c8)) ∧ Hid (fa.length = n7 ∧ kIt.Rd w2 w2.heap.size A7 c7 fa) ∧ Hid (fb.length = n8 ∧ kIt.Rd w2 w2.heap.size A8 c8 fb) ∧ Hid (Below w2.heap.size w2 wr) ∧ (dn ++ pendC o).length + (n7 + n8) ≤ N + M ∧ n7 + n8 ≤ gg)
  case atStart => exact ⟨0, false, false, ea, eb, A1, A2, N, c1, M, c2, [], none, HS.out, Kind.Own.nil _ _, rfl, by rw [hz0], by rw [hv0], H7, H8, ⟨HN.out, H1.out⟩, ⟨HM.out, H2.out⟩, HBW, by simp [pendC], Nat.le_refl _⟩
  case round =>
    clear H7 H8 HBW hz0 hv0
    obtain ⟨cc, x, y, fa, fb, A7, A8, n7, c7, n8, c8, dn, o, HOK, HO, rfl, rfl, rfl, H7, H8, HR7, HR8, HBW, hlen, hgg⟩ := hrel
    obtain ⟨n9, hn9⟩ : ∃ n9, (dn ++ pendC o).length = n9 := ⟨_, rfl⟩
    obtain ⟨A9, c9, rfl, -⟩ := HO.out.read_n hn9.symm
    have HN9 := Lib.hid hn9
    rw [hn9] at hlen
    clear hn9
    cases hcur : nearI fa fb with
    | none =>
      obtain ⟨rfl, hdn⟩ := HOK.out.fin HK0.out hcur op HK.out
      have HD := Lib.hid hdn
      clear hcur hdn
      go_wp2_with fail
      go_ret
      have e1 : dn ++ pendC none = U := by rw [pendC, List.append_nil, HD.out, HUU.out]
      obtain rfl : n9 = NU := by rw [← HN9.out, e1, HNN.out]
      have ho := HO.out
      rw [e1] at ho
      exact ⟨A9, c9, rfl, ho.mono (by have := hb1.out.size; omega), hb1.out.trans (HBW.out.mono hb1.out.size)⟩
    | some e =>
      obtain ⟨hok, hwt, he1, he2⟩ := HOK.out.step hcur
      obtain ⟨x', hx'⟩ : ∃ x', passI e x fa = x' := ⟨_, rfl⟩
      obtain ⟨y', hy'⟩ : ∃ y', passI e y fb = y' := ⟨_, rfl⟩
      obtain ⟨ga, hga⟩ : ∃ ga, dropI e fa = ga := ⟨_, rfl⟩
      obtain ⟨gb, hgb⟩ : ∃ gb, dropI e fb = gb := ⟨_, rfl⟩
      obtain ⟨A3, n3, c3, hn3, hr3, P1⟩ := cn_pass_is A7 c7 n7 fa e x w2 HR7.out.1 HR7.out.2 x' hx' ga hga
      obtain ⟨A4, n4, c4, hn4, hr4, P2⟩ := cn_pass_is A8 c8 n8 fb e y w2 HR8.out.1 HR8.out.2 y' hy' gb hgb
      rw [hx', hy', hga, hgb] at hok
      rw [hga, hgb, hn3, hn4, HR7.out.1, HR8.out.1] at hwt
      have HR3 := Lib.hid (And.intro hn3 hr3)
      have HR4 := Lib.hid (And.intro hn4 hr4)
      have HOK2 := Lib.hid hok
      have hew : IntKind.i64.wrap (e - 1) = e - 1 := IntWalk.i64_in _ (by omega)
      clear hn3 hr3 hn4 hr4 hok hx' hy' hga hgb HR7 HR8 HOK hcur
      have hcu : curI (some e) = e := rfl
      rw [hcu]
      go_upto_region 7 with fail
      go_cut [] from 23 to 59 (fun wx => Hid (kRn.Own wx (w2.heap.size + 2) (.slice A9 n9 c9) (dn ++ pendC o)) ∧ Hid (SdAt wx w2.heap.size x' (.slice A3 n3 c3)) ∧ Hid (SdAt wx (w2.heap.size + 1) y' (.slice A4 n4 c4)) ∧ Hid (Below w2.heap.size w2 wx))
      case first =>
        obtain ⟨a0, a1, a3⟩ := H7.out
        obtain ⟨b0, b1, b3⟩ := H8.out
        have P1 := fun w h => (P1 w h)
        clear HS HK HK0 HUU HNN HOK2 HR3 HR4 HN HM H1 H2 HN9
        go_region_with (first
          | ((with_reducible refine (P1 _ (by first | exact HBW.out | exact HBW.out.drew)).out.mono ?_); rintro e w3 ⟨rfl, hq⟩; (try replace hq := below_of_drew hq); clear a0 a1 a3 b0 b1 b3; replace H7 := Lib.hid (H7.out.below hq); replace H8 := Lib.hid (H8.out.below hq); replace HO := Lib.hid (HO.out.below hq); replace HBW := Lib.hid (HBW.out.trans (hq.mono HBW.out.size)); obtain ⟨a0, a1, a3⟩ := H7.out; obtain ⟨b0, b1, b3⟩ := H8.out; clear hq)
          | ((with_reducible refine (P2 _ (by first | exact HBW.out | exact HBW.out.drew)).out.mono ?_); rintro e w4 ⟨rfl, hq⟩; (try replace hq := below_of_drew hq); clear a0 a1 a3 b0 b1 b3; replace H7 := Lib.hid (H7.out.below hq); replace H8 := Lib.hid (H8.out.below hq); replace HO := Lib.hid (HO.out.below hq); replace HBW := Lib.hid (HBW.out.trans (hq.mono HBW.out.size)); obtain ⟨a0, a1, a3⟩ := H7.out; obtain ⟨b0, b1, b3⟩ := H8.out; clear hq))
        all_goals
          go_wp2_with fail
          go_meet
          exact ⟨Lib.hid ((((HO.out.other (grownBy_set _ _ _ _) (by omega)).other (grownBy_set _ _ _ _) (by omega)).other (grownBy_set _ _ _ _) (by omega)).other (grownBy_set _ _ _ _) (by omega)), Lib.hid ((H7.out.set.other (by omega)).other (by omega)), Lib.hid ((H8.out.other (by omega)).other (by omega)).set,
            Lib.hid ((((HBW.out.setCell (p := ⟨w2.heap.size, 0, none⟩) (Nat.le_refl _) _).setCell (p := ⟨w2.heap.size, 1, none⟩) (Nat.le_refl _) _).setCell (p := ⟨w2.heap.size + 1, 0, none⟩) (Nat.le_succ _) _).setCell (p := ⟨w2.heap.size + 1, 1, none⟩) (Nat.le_succ _) _)⟩
      case rest =>
        clear HO H7 H8 HBW P1 P2
        obtain ⟨HO, H7, H8, HBW⟩ := hcut
        obtain ⟨a0, a1, a3⟩ := H7.out
        obtain ⟨b0, b1, b3⟩ := H8.out
        obtain ⟨v, hv⟩ : ∃ v, kf x' y' = v := ⟨_, rfl⟩
        have KC := fun w => Lib.hid (K x' y' w)
        rw [hv] at KC HOK2
        obtain ⟨U2, hU2⟩ : ∃ U2, curI (nearI ga gb) = U2 := ⟨_, rfl⟩
        obtain ⟨v2, hv2⟩ : ∃ v2, (nearI ga gb).isSome = v2 := ⟨_, rfl⟩
        have NE := fun w (h : Below w2.heap.size w2 w) => Lib.hid (cn_nearest A3 A4 c3 c4 n3 n4 ga gb x' y' HR3.out.1.symm HR4.out.1.symm U2 hU2 v2 hv2 w (HR3.out.2.call h) (HR4.out.2.call h))
        have HU2 := Lib.hid hU2
        have HV2 := Lib.hid hv2
        clear hv hU2 hv2 hcu
        cases o with
        | none =>
          cases v
          · go_wp2_with (first
              | ((with_reducible refine (KC _).out.mono ?_); rintro e5 w5 ⟨rfl, rfl⟩)
              | ((with_reducible refine (NE _ HBW.out).out.mono ?_); rintro e6 w6 ⟨rfl, hq⟩; have HO6 := Lib.hid (HO.out.below hq); have H76 := Lib.hid (H7.out.below hq); have H86 := Lib.hid (H8.out.below hq); have HB6 := Lib.hid (HBW.out.trans (hq.mono HBW.out.size)); clear hq))
            go_roundg (n3 + n4)
            case measure => omega
            case rel => exact ⟨e, x', y', ga, gb, A3, A4, n3, c3, n4, c4, dn, none, HOK2, HO6, rfl, by rw [HU2.out], by rw [HV2.out], H76, H86, HR3, HR4, HB6, by rw [HN9.out]; omega, Nat.le_refl _⟩
          · have HRW := fun w : World => Lib.hid (rn_row w e 0)
            have HLE := Lib.hid (show (dn ++ pendC none).length + [(⟨e, 0⟩ : Rn)].length ≤ 1000000 by rw [HN9.out, List.length_singleton]; omega)
            go_wp2_with (first
              | ((with_reducible refine (KC _).out.mono ?_); rintro e5 w5 ⟨rfl, rfl⟩)
              | (at_builtin; refine wpList_app_k kRn rfl (.tmp 47) (.tmp 50) rfl (w2.heap.size + 2) _ _ rfl (Kind.Own.alloc HO.out _) _ (some ⟨wc.heap.size, 0, none⟩) 1 1 [⟨e, 0⟩] rfl rfl (HRW wc).out HLE.out (by decide) (cle_alloc (H8.out.lt) _) ?_; intro v3 w3 hown3 hg3 hb3 _; have HO3 := Lib.hid hown3; have HB3 := Lib.hid ((HBW.out.alloc HBW.out.size _).trans (hb3.mono (by omega))); have H73 := Lib.hid (SdAt.low H7.out (w' := w3) hb3 (by omega)); have H83 := Lib.hid (SdAt.low H8.out (w' := w3) hb3 (by omega)); clear a0 a1 a3 b0 b1 b3; obtain ⟨a0, a1, a3⟩ := H73.out; obtain ⟨b0, b1, b3⟩ := H83.out; clear hown3 hg3 hb3)
              | ((with_reducible refine (NE _ HB3.out).out.mono ?_); rintro e6 w6 ⟨rfl, hq⟩; have HO6 := Lib.hid (HO3.out.below hq); have H76 := Lib.hid (H73.out.below hq); have H86 := Lib.hid (H83.out.below hq); have HB6 := Lib.hid (HB3.out.trans (hq.mono HB3.out.size)); clear hq))
            go_roundg (n3 + n4)
            case measure => omega
            case rel => exact ⟨e, x', y', ga, gb, A3, A4, n3, c3, n4, c4, dn, some e, HOK2, by have h := HO6.out; rw [pendC, List.append_nil] at h; exact h, rfl, by rw [HU2.out], by rw [HV2.out], H76, H86, HR3, HR4, HB6, by have h1 := HN9.out; simp [pendC] at h1 ⊢; omega, Nat.le_refl _⟩
        | some lo =>
          cases v
          · obtain ⟨D, hD⟩ : ∃ D, dn.length = D := ⟨_, rfl⟩
            obtain rfl : n9 = D + 1 := by rw [← HN9.out, List.length_append, hD]; rfl
            have hga : (dn ++ pendC (some lo))[D]? = some ⟨lo, 0⟩ := by rw [← hD, List.getElem?_append_right (Nat.le_refl _), Nat.sub_self]; rfl
            obtain ⟨g5, cp5, hv5, hcp, hgb, -, -, -⟩ := HO.out.some_ HN9.out.symm (by omega)
            injection hv5 with hA9 _ hc9
            subst hA9 hc9
            obtain ⟨hg1, hg2, hfz, hcs⟩ := HO.out.at_g HN9.out.symm (by omega)
            have e1 := hcs D _ hga 1 _ rfl
            change wc.cell? ⟨g5, D * 2 + 1, none⟩ = _ at e1
            have hD8 : D ≤ 1000000 := by omega
            have HOF := Lib.hid (own_to HO.out HN9.out.symm hD (e - 1))
            have HBF := Lib.hid (HBW.out.setCell (p := ⟨g5, D * 2 + 1, none⟩) (by show w2.heap.size ≤ g5; omega) (.int .i64 (e - 1)))
            have H7F := Lib.hid (H7.out.other (g' := g5) (k := D * 2 + 1) (u := .int .i64 (e - 1)) (by omega))
            have H8F := Lib.hid (H8.out.other (g' := g5) (k := D * 2 + 1) (u := .int .i64 (e - 1)) (by omega))
            have HDD := Lib.hid hD
            clear hcs hga hD
            obtain ⟨f0, f1, -⟩ := H7F.out
            obtain ⟨f2, f3, -⟩ := H8F.out
            go_wp2_with (first
              | ((with_reducible refine (KC _).out.mono ?_); rintro e5 w5 ⟨rfl, rfl⟩)
              | ((with_reducible refine (NE _ HBF.out).out.mono ?_); rintro e6 w6 ⟨rfl, hq⟩; have HO6 := Lib.hid (HOF.out.below hq); have H76 := Lib.hid (H7F.out.below hq); have H86 := Lib.hid (H8F.out.below hq); have HB6 := Lib.hid (HBF.out.trans (hq.mono HBF.out.size)); clear hq))
            go_roundg (n3 + n4)
            case measure => omega
            case rel => exact ⟨e, x', y', ga, gb, A3, A4, n3, c3, n4, c4, dn ++ [⟨lo, e - 1⟩], none, HOK2, by rw [pendC, List.append_nil]; exact HO6.out, rfl, by rw [HU2.out], by rw [HV2.out], H76, H86, HR3, HR4, HB6, by have h1 := HDD.out; simp [pendC]; omega, Nat.le_refl _⟩
          · go_wp2_with (first
              | ((with_reducible refine (KC _).out.mono ?_); rintro e5 w5 ⟨rfl, rfl⟩)
              | ((with_reducible refine (NE _ HBW.out).out.mono ?_); rintro e6 w6 ⟨rfl, hq⟩; have HO6 := Lib.hid (HO.out.below hq); have H76 := Lib.hid (H7.out.below hq); have H86 := Lib.hid (H8.out.below hq); have HB6 := Lib.hid (HBW.out.trans (hq.mono HBW.out.size)); clear hq))
            go_roundg (n3 + n4)
            case measure => omega
            case rel => exact ⟨e, x', y', ga, gb, A3, A4, n3, c3, n4, c4, dn, some lo, HOK2, HO6, rfl, by rw [HU2.out], by rw [HV2.out], H76, H86, HR3, HR4, HB6, by rw [HN9.out]; omega, Nat.le_refl _⟩
end Go.Proofs.YtaodifpnfejbbaaGreat

/-
  append of one thing to a slice that has no room: always a row of the call's own. Slices cut out of rows whose things take a cell each.
-/
namespace Go.Proofs.YtaodifpnfejbbaaGreat
open Go.RowKit

theorem run_take3 {T E : TypeId} (ht : Tryz.prog.underlying T = some (.slice E)) (hs : ∀ w, (sizeOf E).run Tryz.prog w = .ok 1 w) (w : World) (A : Option Addr) (n c m : Nat) (h2 : m ≤ c) :
    (Instr.slice T (.slice A n c) none (some (.int .i64 (m : Int))) (some (.int .i64 (m : Int)))).run Tryz.prog w = .ok (.slice A m m) w := by
  have ht' : Tryz.prog.underlying T = some (.slice (Tryz.prog.elem T)) := by simp [Program.elem, ht]
  have he : Tryz.prog.elem T = E := by simp [Program.elem, ht]
  rw [run_slice_hm w T _ _ _ ht' .i64 .i64 _ _ (by omega) (by omega) (by omega), he, hs]
  cases A <;> simp [Result.andThen, sliced, Addr.add]
namespace Kind
variable {P : Program} {α : Type} {k : Kind P α}
theorem Rd.take {w : World} {B : Nat} {A : Option Addr} {c : Nat} {l : List α} (h : k.Rd w B A c l) {j : Nat} (hj : j ≤ l.length) : k.Rd w B A j (l.take j) :=
  ⟨by rw [k.row_take]; exact h.row.take _, by rw [List.length_take]; omega, by have := h.room; have := h.cap; omega⟩
theorem Rd.cut1 {w : World} {B : Nat} {A : Option Addr} {c : Nat} {l : List α} (h1 : k.size = 1) (h : k.Rd w B A c l) {j : Nat} (hj : j ≤ l.length) : k.Rd w B (cutA A j c) (c - j) (l.drop j) := by
  refine ⟨?_, by have := h.room; rw [List.length_drop]; omega, by have := h.cap; omega⟩
  have e : (k.row l).length = l.length := by rw [k.row_len, h1, Nat.mul_one]
  have h2 := RowAt.cut h.row (k := j) (c := c) (by rw [e]; exact hj) (by rw [e]; exact h.room)
  rw [k.row_drop, h1, Nat.mul_one]
  exact h2
/-- A row of no address has nothing in it. -/
theorem Rd.none {w : World} {B : Nat} {c : Nat} {l : List α} (h : k.Rd w B none c l) : l = [] := by
  rcases h.row with h0 | ⟨b, o, h1, _⟩
  · have e := congrArg List.length h0
    rw [k.row_len, List.length_nil] at e
    cases l with
    | nil => rfl
    | cons x l =>
      rw [List.length_cons] at e
      exact absurd e (Nat.ne_of_gt (Nat.mul_pos (Nat.succ_pos l.length) k.pos))
  · cases h1
end Kind
theorem wpList_app_full {P : Program} {α : Type} (k : Kind P α) {w : World} {ops : Array Oper} {rest : List Oper} {o : Oper} {a : Act} {Q : Exit → Act → World → Prop} (hgd : o.guard = none) (s x : Operand)
    (ho : o.op = .call { callee := .builtin .append, args := #[s, x], argTypes := #[k.ty, k.ty] })
    (B : Nat) (A : Option Addr) (n : Nat) (xs : List α) (hn : n = xs.length) (hs : a.eval s = .slice A n n) (hr : k.Rd w B A n xs)
    (B' g : Nat) (y : α) (hx : a.eval x = .slice (some ⟨g, 0, none⟩) 1 1) (hy : RowAt w B' (some ⟨g, 0, none⟩) (k.row [y])) (hlen : n ≤ 100000) (hby : k.bytes ≤ 1000)
    (h : ∀ v' w', k.Own w' w.heap.size v' (xs ++ [y]) → Below w.heap.size w w' → wpList P ops Q rest (a.put o.dst v') w') : wpList P ops Q (o :: rest) a w := by
  obtain ⟨i0, hi0, hz0, hz1, hz2⟩ := info_parts k.info
  refine wpList_append_grows w hgd s x k.ty ho k.el i0 _ k.size k.bytes k.under hi0 hz0 hz1 hz2 k.zsize k.pos A n n (k.row xs) hs ?_ ?_ ?_ ⟨g, 0, none⟩ 1 1 (k.row [y]) hx (k.row_len [y]) ?_ (k.row_cells [y]) (by omega) (by unfold maxLen; omega) ?_ ?_
  · intro e
    subst e
    have := hr.none
    subst this
    exact ⟨hn, hn⟩
  · rw [hn]; exact k.row_len xs
  · intro b hb j u hj
    rcases hr.row with h0 | ⟨b1, o1, rfl, h2, h3⟩
    · rw [h0] at hj; simp at hj
    · injection hb with hb
      subst hb
      rw [Addr.add_lit]
      exact h3 j u hj
  · intro j u hj
    rcases hy with h0 | ⟨b1, o1, h1, h2, h3⟩
    · rw [h0] at hj; simp at hj
    · injection h1 with h1
      injection h1 with h1 h1o
      subst h1 h1o
      rw [Addr.add_lit]
      exact h3 j u hj
  · have := Nat.mul_le_mul (show n + 1 ≤ 100001 by omega) hby
    omega
  · intro v' w' h1 h2
    rw [← k.row_append] at h1
    exact h v' w' (Kind.Own.of_row h1) ((Below.refl _ _).grown h2 (Nat.le_refl _) (fun g hg => by cases hg))
end Go.Proofs.YtaodifpnfejbbaaGreat

/-
  The laws of layer 13: what the program's functions do, as they ask it.
-/
namespace Go.Proofs.YtaodifpnfejbbaaGreat
open Go.RowKit

theorem clo_cunion (x y : Bool) (w : World) : Calls Tryz.prog 158 #[.bool x, .bool y] w fun e w' => e = .returned (.bool (x || y)) ∧ w = w' := by
  cases x <;> cases y
  all_goals
    go_enter Tryz.func158, Tryz.ntmps158
    go_wp2_with fail
    go_ret
    exact ⟨rfl, rfl⟩
theorem clo_cless (x y : Bool) (w : World) : Calls Tryz.prog 143 #[.bool x, .bool y] w fun e w' => e = .returned (.bool (x && !y)) ∧ w = w' := by
  cases x <;> cases y
  all_goals
    go_enter Tryz.func143, Tryz.ntmps143
    go_wp2_with fail
    go_ret
    exact ⟨rfl, rfl⟩
/-- What a call hands back that hands two lists on, of the call's own. -/
def CSetOC (F : FuncId) (op : Int) : Prop := ∀ (A B : Option Addr) (c d n m : Nat) (a b : List Rn), n = a.length → m = b.length → n ≤ 100000 → m ≤ 100000 → ∀ U, makeC op a b = U → ∀ N, U.length = N → ∀ w, kRn.Rd w w.heap.size A c a → kRn.Rd w w.heap.size B d b →
  Calls Tryz.prog F #[.slice A n c, .slice B m d] w (RetOC w N U)
theorem CSetOC.ret {F : FuncId} {op : Int} (h : CSetOC F op) : CSetC F op := fun A B c d n m a b hn hm h1 h2 U hU N hN w ha hb => (h A B c d n m a b hn hm h1 h2 U hU N hN w ha hb).mono fun _ _ h => h.ret
theorem k_cunion_own : CSetOC 139 1 := fun A B c d n m a b hn hm ha' hb' U hU N hN w ha hb => by
  have K := Lib.hid (cn_sweep 158 (fun x y => x || y) clo_cunion (enters_of Tryz.func158 (by kernel_rfl) rfl) 1 rfl A B c d n m a b (fun s => (gC1 _ _).symm) hn hm ha' hb' U hU N hN w ha hb)
  clear hn hm ha' hb' ha hb
  go_enter Tryz.func139, Tryz.ntmps139
  go_wp2_with ((with_reducible refine K.out.mono ?_); rintro e w1 ⟨A1, c1, rfl, hrd, hq⟩; have HR := Lib.hid hrd; clear hrd)
  go_ret
  exact ⟨A1, c1, rfl, HR.out, hq⟩
theorem k_cless_own : CSetOC 130 3 := fun A B c d n m a b hn hm ha' hb' U hU N hN w ha hb => by
  have K := Lib.hid (cn_sweep 143 (fun x y => x && !y) clo_cless (enters_of Tryz.func143 (by kernel_rfl) rfl) 3 rfl A B c d n m a b (fun s => (gC3 _ _).symm) hn hm ha' hb' U hU N hN w ha hb)
  clear hn hm ha' hb' ha hb
  go_enter Tryz.func130, Tryz.ntmps130
  go_wp2_with ((with_reducible refine K.out.mono ?_); rintro e w1 ⟨A1, c1, rfl, hrd, hq⟩; have HR := Lib.hid hrd; clear hrd)
  go_ret
  exact ⟨A1, c1, rfl, HR.out, hq⟩
theorem k_cunion : CSetC 139 1 := k_cunion_own.ret
theorem k_cless : CSetC 130 3 := k_cless_own.ret
theorem k_cright : CRightC 131 := fun A c n l hn _ v hv w hr => cn_right A c n l hn v hv w hr
theorem k_chas : CHasC 82 := fun A c n l x hn _ v hv w hr => cn_has A c n l x hn v hv w hr
theorem k_cof : COfC 92 := fun A c n l hn hnl U hU N hN w hr => (cn_of_own A c n l hn (by omega) U hU N hN w hr).mono fun _ _ h => h.ret
theorem cn_clone (A : Option Addr) (c n : Nat) (l : List Rn) (hn : n = l.length) (hnl : n ≤ 100000) (w : World) (hr : kRn.Rd w w.heap.size A c l) :
    Calls Tryz.prog 73 #[.slice A n c] w fun e w' => ∃ v, e = .returned v ∧ kRn.Own w' w.heap.size v l ∧ Below w.heap.size w w' := by
  have qT : ∀ (w : World) (a : Option Addr) (n c n' c' : Nat), (binOp .eql 59 (.slice a n c) (.slice none n' c')).run Tryz.prog w = .ok (.bool a.isNone) w := fun w a n c n' c' => Lib.run_eql_slice_nil w _ _ a n c n' c' Tryz.underlying59
  cases A with
  | none =>
    obtain rfl := hr.none
    obtain rfl : n = 0 := hn
    clear hr
    go_enter Tryz.func73, Tryz.ntmps73
    go_wp2_with fail
    go_ret
    exact ⟨_, rfl, Kind.Own.nil _ _, Below.refl _ _⟩
  | some p =>
    have HO : Hid (kRn.Own (w.alloc (.cells #[] 58)) w.heap.size (.slice (some ⟨w.heap.size, 0, none⟩) 0 0) []) := by
      refine Kind.Own.of_row (n := 0) ⟨by simp [Kind.row], .inr ⟨w.heap.size, 0, #[], rfl, Nat.le_refl _, heap_new w _ _ rfl, Nat.le_refl _, Nat.zero_le _, by simp, by simp [Kind.row]⟩⟩
    have HB := Lib.hid (below_new w (.cells #[] 58))
    have HR := Lib.hid (hr.call HB.out).row
    have HN := Lib.hid hn
    have HL := Lib.hid (show ([] : List Rn).length + l.length ≤ 1000000 by rw [List.length_nil]; omega)
    have HS := Lib.hid HB.out.size
    clear hn hr
    go_enter Tryz.func73, Tryz.ntmps73
    go_wp2_with (at_builtin; refine wpList_app_k kRn rfl (.tmp 5) (.tmp 6) rfl w.heap.size _ [] rfl HO.out _ (some p) c n l HN.out rfl HR.out HL.out (by decide) HS.out ?_; intro v3 w3 hown3 hg3 hb3 _; have HO3 := Lib.hid hown3; have HB3 := Lib.hid (HB.out.trans hb3); clear hown3 hb3 hg3)
    go_ret
    exact ⟨_, rfl, HO3.out, HB3.out⟩
end Go.Proofs.YtaodifpnfejbbaaGreat

/-
  Layer 14 (vset), the program: a set and some versions more.
-/
namespace Go.Proofs.YtaodifpnfejbbaaGreat
open Go.RowKit

theorem le_alloc2 {B : Nat} {w : World} (h : B ≤ w.heap.size) (o : Obj) : B ≤ (w.alloc o).heap.size := by rw [size1]; omega
/-- How the rows stand, in block g, while runs are put behind them. -/
structure PutAt (w0 : World) (g : Nat) (w : World) (V : Nat → Value) (L : Nat → List Rn) : Prop where
  all : GrAt w g V
  rows : RowsG w w0.heap.size V L
  off : ∀ j, j < 16 → (V j).ownBlock ≠ some g
  low : Below w0.heap.size w0 w
  ge : w0.heap.size ≤ g
theorem PutAt.below {w0 w w' : World} {g : Nat} {V : Nat → Value} {L : Nat → List Rn} (h : PutAt w0 g w V L) (hb : Below w.heap.size w w') : PutAt w0 g w' V L := ⟨h.all.below hb, h.rows.below hb, h.off, h.low.trans (hb.mono h.low.size), h.ge⟩
theorem PutAt.congr {w0 w : World} {g : Nat} {V : Nat → Value} {L M : Nat → List Rn} (h : PutAt w0 g w V L) (e : ∀ k, k < 16 → M k = L k) : PutAt w0 g w V M := ⟨h.all, h.rows.congr e, h.off, h.low, h.ge⟩
theorem PutAt.congrV {w0 w : World} {g : Nat} {V W : Nat → Value} {L : Nat → List Rn} (h : PutAt w0 g w V L) (e : ∀ k, k < 16 → W k = V k) : PutAt w0 g w W L := ⟨h.all.congr e, h.rows.congrV e, fun j hj => by rw [e j hj]; exact h.off j hj, h.low, h.ge⟩
theorem putAt_new {w0 w : World} {V : Nat → Value} {L : Nat → List Rn} (h : RowsG w w0.heap.size V L) (hb : Below w0.heap.size w0 w) (t : TypeId) : PutAt w0 w.heap.size (w.alloc (grO V t)) V L :=
  ⟨grAt_new w V t, h.alloc _, fun j hj e => by have := ((h.own j hj).lt _ e).2; omega, hb.alloc hb.size _, hb.size⟩
theorem PutAt.mid {w0 w w' : World} {g : Nat} {V : Nat → Value} {L : Nat → List Rn} (h : PutAt w0 g w V L) {j : Nat} (hj : j < 16) (hg : w.grownBy w' (V j).ownBlock) : GrAt w' g V := h.all.grown hg fun e => h.off j hj e.symm
theorem PutAt.app {w0 w w' : World} {g : Nat} {V : Nat → Value} {L : Nat → List Rn} {v' : Value} {l : List Rn} (h : PutAt w0 g w V L) {j : Nat} (hj : j < 16) (ho : kRn.Own w' w0.heap.size v' l) (hg : w.grownBy w' (V j).ownBlock) (hv : v'.ownBlock = (V j).ownBlock ∨ v'.ownBlock = some w.heap.size) :
    PutAt w0 g (w'.setCell ⟨g, j, none⟩ v') (upd V j v') (upd L j l) := by
  have hr := h.rows.app hj ho hg hv
  have ho' := RowsG.upd_off h.off h.all.lt hv hj
  exact ⟨(h.mid hj hg).set hj _, hr.set ho' _, ho', ((h.low.grown hg h.low.size fun g e => ((h.rows.own j hj).lt g e).1)).setCell (p := ⟨g, j, none⟩) h.ge _, h.ge⟩
/-- How the rows stand while they are put in order, one behind the other: the new ones, and behind them the old. -/
structure OrdAt (w0 : World) (g B : Nat) (w : World) (k : Nat) (VO VN : Nat → Value) (L M : Nat → List Rn) : Prop where
  all : GrAt w g (fun j => if j < k then VN j else VO j)
  old : RowsG w w0.heap.size VO L
  off : ∀ j, j < 16 → (VO j).ownBlock ≠ some g
  new : RowsG w B VN (fun j => if j < k then M j else [])
  low : Below w0.heap.size w0 w
  ge : w0.heap.size ≤ g
  lt : g < B
  le : B ≤ w.heap.size
theorem PutAt.ord {w0 w : World} {g : Nat} {V : Nat → Value} {L : Nat → List Rn} (h : PutAt w0 g w V L) (M : Nat → List Rn) : OrdAt w0 g w.heap.size w 0 V (fun _ => .slice none 0 0) L M :=
  ⟨h.all.congr fun k _ => if_neg (by omega), h.rows, h.off, (rowsG_nil _ _).congr fun k _ => if_neg (by omega), h.low, h.ge, h.all.lt, Nat.le_refl _⟩
theorem OrdAt.below {w0 w w' : World} {g B k : Nat} {VO VN : Nat → Value} {L M : Nat → List Rn} (h : OrdAt w0 g B w k VO VN L M) (hb : Below w.heap.size w w') : OrdAt w0 g B w' k VO VN L M :=
  ⟨h.all.below hb, h.old.below hb, h.off, h.new.below hb, h.low.trans (hb.mono h.low.size), h.ge, h.lt, Nat.le_trans h.le hb.size⟩
theorem OrdAt.next {w0 w w' : World} {g B k : Nat} {VO VN : Nat → Value} {L M : Nat → List Rn} {v' : Value} (h : OrdAt w0 g B w k VO VN L M) (hk : k < 16) (ho : kRn.Own w' w.heap.size v' (M k)) (hb : Below w.heap.size w w') : OrdAt w0 g B (w'.setCell ⟨g, k, none⟩ v') (k + 1) VO (upd VN k v') L M := by
  have hr := h.new.new hk ho hb h.le
  have h1 := h.below hb
  refine ⟨(h1.all.set hk v').congr fun j _ => ?_, h1.old.set h.off _, h.off, (hr.set (hr.low h.lt) _).congr fun j _ => ?_, h1.low.setCell (p := ⟨g, k, none⟩) h.ge _, h.ge, h.lt, ?_⟩
  · by_cases e : j = k
    · subst e; rw [upd_at]; rw [if_pos (by omega), upd_at]
    · rw [upd_far (fun j => if j < k then VN j else VO j) _ e, upd_far VN _ e]
      by_cases h2 : j < k
      · rw [if_pos h2, if_pos (by omega)]
      · rw [if_neg h2, if_neg (by omega)]
  · by_cases e : j = k
    · subst e; rw [upd_at]; exact if_pos (by omega)
    · rw [upd_far _ _ e]
      by_cases h2 : j < k
      · show (if j < k + 1 then M j else []) = if j < k then M j else []
        rw [if_pos h2, if_pos (by omega)]
      · show (if j < k + 1 then M j else []) = if j < k then M j else []
        rw [if_neg h2, if_neg (by omega)]
  · exact Nat.le_trans h1.le (by simp)
theorem OrdAt.fin {w0 w : World} {g B : Nat} {VO VN : Nat → Value} {L M : Nat → List Rn} (h : OrdAt w0 g B w 16 VO VN L M) (N : Nat → Nat) (hN : ∀ k, (M k).length = N k) : ∃ A c, GrAt w g (slV A N c) ∧ ∀ k, k < 16 → kRn.RdS w (fun b => B ≤ b) (A k) (c k) (M k) := by
  have hr := h.new.congr (M := M) fun k hk => (if_pos hk).symm
  obtain ⟨A, c, e⟩ := hr.form N hN
  exact ⟨A, c, h.all.congr fun k hk => by rw [e k hk, if_pos hk], (hr.congrV e).rdSs hN⟩
set_option maxRecDepth 100000 in
set_option maxHeartbeats 8000000 in
theorem vs_add_new (A B : Option Addr) (c d n m : Nat) (s : List Kn) (l : List Vr) (hn : n = s.length) (hm : m = l.length) (hml : m ≤ 100000) (hnl : ∀ r, (runsV s r).length ≤ 200000) (U : List Kn) (hU : addsS s l = U) (N : Nat) (hN : U.length = N) (w : World) (ha : RdK w w.heap.size A c s) (hb : kVr.Rd w w.heap.size B d l) :
    Calls Tryz.prog 54 #[.slice A n c, .slice B m d] w (RetKF w N U) := by
  obtain ⟨NA, hNA⟩ : ∃ NA : Nat → Nat, ∀ k : Nat, (runsV s ((k : Int) + 1)).length = NA k := ⟨_, fun _ => rfl⟩
  obtain ⟨L, hL⟩ : ∃ L : Nat → List Rn, ∀ k : Nat, runsV s ((k : Int) + 1) ++ versR l ((k : Int) + 1) = L k := ⟨_, fun _ => rfl⟩
  obtain ⟨NL, hNL⟩ : ∃ NL : Nat → Nat, ∀ k : Nat, (L k).length = NL k := ⟨_, fun _ => rfl⟩
  obtain ⟨M, hM⟩ : ∃ M : Nat → List Rn, ∀ k : Nat, ofC (L k) = M k := ⟨_, fun _ => rfl⟩
  obtain ⟨NM, hNM⟩ : ∃ NM : Nat → Nat, ∀ k : Nat, (M k).length = NM k := ⟨_, fun _ => rfl⟩
  have hLl : ∀ k : Nat, NL k ≤ 300000 := fun k => by
    rw [← hNL, ← hL, List.length_append]
    have h1 := hnl ((k : Int) + 1)
    have h2 := versR_len l ((k : Int) + 1)
    omega
  have C1 := Lib.hid (vs_gather A c n s hn (fun r => by have := hnl r; omega) NA hNA w ha)
  have KO := Lib.hid (fun (k : Nat) (A : Option Addr) (c : Nat) W h => cn_of_own A c (NL k) (L k) (hNL k).symm (hLl k) (M k) (hM k) (NM k) (hNM k) W h)
  have KS := Lib.hid (fun (AA : Nat → Option Addr) (cc : Nat → Nat) W h => vs_set_sl (fun g => w.heap.size ≤ g) AA NM cc M hNM (fun r => ofC (runsV s r ++ versR l r)) (fun k => (congrArg ofC (hL k)).trans (hM k)) U (by rw [← hU, addsS_cols]) N hN W h)
  have HNM := Lib.hid hNM
  have HNL := Lib.hid hNL
  have HLL := Lib.hid hL
  have HL9 := Lib.hid hnl
  have HM := Lib.hid hm
  have HR := Lib.hid hb
  have HML := Lib.hid hml
  have hcx : m ≤ d := by rw [hm]; exact hb.room
  have hmx : m ≤ 9223372036854775807 := by omega
  clear ha hb hn hm hnl hml hU hN hNA hNL hL hM hNM hLl
  go_enter Tryz.func54, Tryz.ntmps54
  go_upto_region 2 with ((with_reducible refine C1.out.mono ?_); rintro e w1 ⟨A1, c1, rfl, hrd, hq⟩; have HP := Lib.hid (putAt_new hrd hq 106); clear hrd hq)
  clear C1
  obtain ⟨w2, hw2⟩ : ∃ w2, w2 = w1.alloc (grO (slV A1 NA c1) 106) := ⟨_, rfl⟩
  rw [← hw2] at HP
  rw [← hw2]
  clear hw2
  obtain ⟨g, hg⟩ : ∃ g, g = w1.heap.size := ⟨_, rfl⟩
  rw [← hg] at HP
  rw [← hg]
  clear hg
  go_wp2_with fail
  go_loopw [15] (fun i wr => ∃ (k : Nat) (V : Nat → Value), k ≤ m ∧ i = .int .i64 k ∧ Hid (PutAt w g wr V (fun j => runsV s ((j : Int) + 1) ++ versR (l.take k) ((j : Int) + 1)))) (fun i _ => m - (intOf i).toNat)
  case atStart => exact ⟨0, _, by omega, rfl, HP.out.congr fun k _ => List.append_nil _⟩
  case round =>
    obtain ⟨k, V, hk, rfl, HG⟩ := hrel
    by_cases hlt : k < m
    · obtain ⟨x, hg, -, -⟩ := cnt_get (l := l) (k := k) (by have := HM.out; omega)
      obtain ⟨b, o, rfl, hb1, hcell⟩ := vrs_at (HR.out.below HG.out.low) (by have := HM.out; omega)
      obtain ⟨q0, q1⟩ := hcell k x hg
      obtain ⟨X, hX⟩ : ∃ X, x.rep = X := ⟨_, rfl⟩
      obtain ⟨Y, hY⟩ : ∃ Y, x.cnt = Y := ⟨_, rfl⟩
      rw [hX] at q0
      rw [hY] at q1
      have hT := fun r => versR_take hg r
      obtain ⟨p, hp⟩ : ∃ p, rightVr x = p := ⟨_, rfl⟩
      have C1 := fun w => Lib.hid (k_vright x X Y hX hY p hp w)
      have HG2 := Lib.hid (HG.out.below (below_new wr (.cells #[.int .i64 X, .int .i64 Y] 24)))
      cases p with
      | false =>
        have HE := Lib.hid (fun (j : Nat) (_ : j < 16) => show runsV s ((j : Int) + 1) ++ versR (l.take (k + 1)) ((j : Int) + 1) = runsV s ((j : Int) + 1) ++ versR (l.take k) ((j : Int) + 1) from by rw [hT, runOf_wrong hp, List.append_nil])
        clear hcell hg hT hp hX hY HG
        go_wp2_with ((with_reducible refine (C1 _).out.mono ?_); rintro e w3 ⟨rfl, hq⟩; have HG3 := Lib.hid (HG2.out.below hq); clear hq)
        go_roundw
        case rel => exact ⟨k + 1, V, by omega, by go_num, HG3.out.congr HE.out⟩
        case measure => simp [intOf]; omega
      | true =>
        have hr9 := rightVr_iff.1 hp
        rw [hX] at hr9
        obtain ⟨j, hj⟩ : ∃ j : Nat, X = (j : Int) + 1 := ⟨(X - 1).toNat, by omega⟩
        have hj16 : j < 16 := by omega
        subst hj
        have HE := Lib.hid (fun (j' : Nat) (_ : j' < 16) => show runsV s ((j' : Int) + 1) ++ versR (l.take (k + 1)) ((j' : Int) + 1) = upd (fun j => runsV s ((j : Int) + 1) ++ versR (l.take k) ((j : Int) + 1)) j ((runsV s ((j : Int) + 1) ++ versR (l.take k) ((j : Int) + 1)) ++ [⟨Y, Y⟩]) j' from by
          rw [hT]
          by_cases e : j' = j
          · subst e; rw [upd_at, runOf_yes hp hX, hY, List.append_assoc]
          · rw [upd_far _ _ e, runOf_no (by rw [hX]; omega), List.append_nil])
        have HLE := Lib.hid (show (runsV s ((j : Int) + 1) ++ versR (l.take k) ((j : Int) + 1)).length + [(⟨Y, Y⟩ : Rn)].length ≤ 1000000 by
          have h1 := versR_len (l.take k) ((j : Int) + 1)
          have h2 := HL9.out ((j : Int) + 1)
          have h3 := HML.out
          rw [List.length_take] at h1
          rw [List.length_append, List.length_singleton]
          omega)
        obtain ⟨NJ, hNJ⟩ : ∃ N, ((runsV s ((j : Int) + 1) ++ versR (l.take k) ((j : Int) + 1)) ++ [(⟨Y, Y⟩ : Rn)]).length = N := ⟨_, rfl⟩
        have HNJ := Lib.hid hNJ
        obtain ⟨vj, hvj⟩ : ∃ v, V j = v := ⟨_, rfl⟩
        have hjw : IntKind.i64.wrap ((j : Int) + 1 - 1) = (j : Int) := by rw [Int.add_sub_cancel]; exact IntWalk.i64_in _ (by omega)
        have hj0 : decide ((j : Int) < 0) = false := decide_eq_false (by omega)
        have hj1 : decide ((j : Int) < 16) = true := decide_eq_true (by omega)
        have hjk0 : (0 : Int) ≤ (j : Int) := by omega
        have hjk1 : (j : Int) < 16 := by omega
        clear hcell hg hT hp hX hY HG hr9 hNJ
        have hbx := vbox_new wr ((j : Int) + 1) Y
        have hlz : wr.heap.size < (wr.alloc (.cells #[.int .i64 ((j : Int) + 1), .int .i64 Y] 24)).heap.size := by simp
        go_upto_region 7 with ((with_reducible refine (C1 _).out.mono ?_); rintro e w3 ⟨rfl, hq⟩; have s0 := ((bcell hq).1 wr.heap.size 0 hlz).trans hbx.1; have s1 := ((bcell hq).1 wr.heap.size 1 hlz).trans hbx.2; have lz := Nat.lt_of_lt_of_le hlz hq.size; have HG3 := Lib.hid (HG2.out.below hq); clear hq)
        clear hbx hlz HG2 C1
        have q2 := HG3.out.all.cell j hj16
        rw [hvj] at q2
        have lg := HG3.out.all.lt
        have HG4 := Lib.hid (HG3.out.below ((Below.refl w3.heap.size w3).drew.alloc (Nat.le_refl _) (.cells #[.int .i64 Y, .int .i64 Y] 58)))
        have HO := Lib.hid (HG4.out.rows.own j hj16)
        rw [hvj] at HO
        have HRW := fun w => Lib.hid (rn_row w Y Y)
        have HVJ := Lib.hid hvj
        clear hvj
        go_region_law (first
          | (refine step_app_k kRn rfl (.tmp 28) (.tmp 34) rfl w.heap.size vj (runsV s ((j : Int) + 1) ++ versR (l.take k) ((j : Int) + 1)) rfl HO.out _ (some ⟨w3.heap.size, 0, none⟩) 1 1 [⟨Y, Y⟩] rfl rfl (HRW _).out HLE.out (by decide) (Nat.le_trans HG3.out.low.size (Nat.le_trans (Nat.le_succ _) (Nat.le_of_eq (size1 _ _).symm))) ?_; intro v4 w4 hown hg4 _ hv4; obtain ⟨A4, c4, rfl, -⟩ := hown.read_n HNJ.out.symm; have q3 := (HG4.out.mid hj16 (HVJ.out.symm ▸ hg4)).cell j hj16; have f3 := (HG4.out.mid hj16 (HVJ.out.symm ▸ hg4)).free j; have HG5 := Lib.hid (HG4.out.app hj16 hown (HVJ.out.symm ▸ hg4) (HVJ.out.symm ▸ hv4)); clear hown hg4 hv4))
        all_goals
          clear q2 s0 s1
          go_wp2_with fail
          go_roundw
          case rel => exact ⟨k + 1, upd V j (.slice A4 NJ c4), by omega, by go_num, HG5.out.congr HE.out⟩
          case measure => simp [intOf]; omega
    · have hkn : l.take k = l := List.take_of_length_le (by have := HM.out; omega)
      rw [hkn] at HG
      replace HG := Lib.hid (HG.out.congr fun j _ => (HLL.out j).symm)
      obtain ⟨AA, cc, hV⟩ := HG.out.rows.form NL HNL.out
      replace HG := Lib.hid (HG.out.congrV hV)
      have a0 : wr.cell? ⟨g, 0, none⟩ = some (.slice (AA 0) (NL 0) (cc 0)) := HG.out.all.cell 0 (by omega)
      have a1 : wr.cell? ⟨g, 1, none⟩ = some (.slice (AA 1) (NL 1) (cc 1)) := HG.out.all.cell 1 (by omega)
      have a2 : wr.cell? ⟨g, 2, none⟩ = some (.slice (AA 2) (NL 2) (cc 2)) := HG.out.all.cell 2 (by omega)
      have a3 : wr.cell? ⟨g, 3, none⟩ = some (.slice (AA 3) (NL 3) (cc 3)) := HG.out.all.cell 3 (by omega)
      have a4 : wr.cell? ⟨g, 4, none⟩ = some (.slice (AA 4) (NL 4) (cc 4)) := HG.out.all.cell 4 (by omega)
      have a5 : wr.cell? ⟨g, 5, none⟩ = some (.slice (AA 5) (NL 5) (cc 5)) := HG.out.all.cell 5 (by omega)
      have a6 : wr.cell? ⟨g, 6, none⟩ = some (.slice (AA 6) (NL 6) (cc 6)) := HG.out.all.cell 6 (by omega)
      have a7 : wr.cell? ⟨g, 7, none⟩ = some (.slice (AA 7) (NL 7) (cc 7)) := HG.out.all.cell 7 (by omega)
      have a8 : wr.cell? ⟨g, 8, none⟩ = some (.slice (AA 8) (NL 8) (cc 8)) := HG.out.all.cell 8 (by omega)
      have a9 : wr.cell? ⟨g, 9, none⟩ = some (.slice (AA 9) (NL 9) (cc 9)) := HG.out.all.cell 9 (by omega)
      have a10 : wr.cell? ⟨g, 10, none⟩ = some (.slice (AA 10) (NL 10) (cc 10)) := HG.out.all.cell 10 (by omega)
      have a11 : wr.cell? ⟨g, 11, none⟩ = some (.slice (AA 11) (NL 11) (cc 11)) := HG.out.all.cell 11 (by omega)
      have a12 : wr.cell? ⟨g, 12, none⟩ = some (.slice (AA 12) (NL 12) (cc 12)) := HG.out.all.cell 12 (by omega)
      have a13 : wr.cell? ⟨g, 13, none⟩ = some (.slice (AA 13) (NL 13) (cc 13)) := HG.out.all.cell 13 (by omega)
      have a14 : wr.cell? ⟨g, 14, none⟩ = some (.slice (AA 14) (NL 14) (cc 14)) := HG.out.all.cell 14 (by omega)
      have a15 : wr.cell? ⟨g, 15, none⟩ = some (.slice (AA 15) (NL 15) (cc 15)) := HG.out.all.cell 15 (by omega)
      clear hkn hV
      go_wp2_with fail
      clear a0 a1 a2 a3 a4 a5 a6 a7 a8 a9 a10 a11 a12 a13 a14 a15
      have HQ := Lib.hid (HG.out.ord M)
      clear HG HP
      go_loopw [39] (fun i wx => ∃ (k : Nat) (VN : Nat → Value), k ≤ 16 ∧ i = .int .i64 k ∧ Hid (OrdAt w g wr.heap.size wx k (slV AA NL cc) VN L M)) (fun i _ => 16 - (intOf i).toNat)
      case atStart => exact ⟨0, _, by omega, rfl, HQ⟩
      case round =>
        obtain ⟨q, VN, hq9, rfl, HQ⟩ := hrel
        by_cases hlt2 : q < 16
        · have hd : decide ((q : Int) < 16) = true := decide_eq_true (by omega)
          have hk0 : (0 : Int) ≤ (q : Int) := by omega
          have hk1 : (q : Int) < 16 := by omega
          have I0 : ∀ w, (Instr.index 106 (.agg #[.slice (AA 0) (NL 0) (cc 0), .slice (AA 1) (NL 1) (cc 1), .slice (AA 2) (NL 2) (cc 2), .slice (AA 3) (NL 3) (cc 3), .slice (AA 4) (NL 4) (cc 4), .slice (AA 5) (NL 5) (cc 5), .slice (AA 6) (NL 6) (cc 6), .slice (AA 7) (NL 7) (cc 7), .slice (AA 8) (NL 8) (cc 8), .slice (AA 9) (NL 9) (cc 9), .slice (AA 10) (NL 10) (cc 10), .slice (AA 11) (NL 11) (cc 11), .slice (AA 12) (NL 12) (cc 12), .slice (AA 13) (NL 13) (cc 13), .slice (AA 14) (NL 14) (cc 14), .slice (AA 15) (NL 15) (cc 15)]) (.int .i64 (q : Int))).run Tryz.prog w = .ok (.slice (AA q) (NL q) (cc q)) w := fun w => idx16 (slV AA NL cc) hlt2 w
          have K := Lib.hid (KO.out q (AA q) (cc q) wr ((HQ.out.old.rds q hlt2)))
          go_wp2_with ((with_reducible refine K.out.mono ?_); rintro e w7 ⟨A7, c7, rfl, ho, hq⟩; have HO7 := Lib.hid ho; have HQ7 := Lib.hid hq; have q3 := (HQ.out.below hq).all.cell q hlt2; have f3 := (HQ.out.below hq).all.free q; clear ho hq)
          have HN7 := Lib.hid (HQ.out.next hlt2 HO7.out HQ7.out)
          clear HO7 HQ7 q3 f3 K I0
          go_roundw
          case rel => exact ⟨q + 1, upd VN q (.slice A7 (NM q) c7), by omega, by go_num, HN7⟩
          case measure => simp [intOf]; omega
        · have hd : decide ((q : Int) < 16) = false := decide_eq_false (by omega)
          obtain rfl : q = 16 := by omega
          obtain ⟨A3, c3, hgr, hrd⟩ := HQ.out.fin NM HNM.out
          have K := Lib.hid (KS.out A3 c3 wr fun k hk => (hrd k hk).mono fun b hb => by have h1 := HQ.out.ge; have h2 := HQ.out.lt; omega)
          have a0 : wr.cell? ⟨g, 0, none⟩ = some (.slice (A3 0) (NM 0) (c3 0)) := hgr.cell 0 (by omega)
          have a1 : wr.cell? ⟨g, 1, none⟩ = some (.slice (A3 1) (NM 1) (c3 1)) := hgr.cell 1 (by omega)
          have a2 : wr.cell? ⟨g, 2, none⟩ = some (.slice (A3 2) (NM 2) (c3 2)) := hgr.cell 2 (by omega)
          have a3 : wr.cell? ⟨g, 3, none⟩ = some (.slice (A3 3) (NM 3) (c3 3)) := hgr.cell 3 (by omega)
          have a4 : wr.cell? ⟨g, 4, none⟩ = some (.slice (A3 4) (NM 4) (c3 4)) := hgr.cell 4 (by omega)
          have a5 : wr.cell? ⟨g, 5, none⟩ = some (.slice (A3 5) (NM 5) (c3 5)) := hgr.cell 5 (by omega)
          have a6 : wr.cell? ⟨g, 6, none⟩ = some (.slice (A3 6) (NM 6) (c3 6)) := hgr.cell 6 (by omega)
          have a7 : wr.cell? ⟨g, 7, none⟩ = some (.slice (A3 7) (NM 7) (c3 7)) := hgr.cell 7 (by omega)
          have a8 : wr.cell? ⟨g, 8, none⟩ = some (.slice (A3 8) (NM 8) (c3 8)) := hgr.cell 8 (by omega)
          have a9 : wr.cell? ⟨g, 9, none⟩ = some (.slice (A3 9) (NM 9) (c3 9)) := hgr.cell 9 (by omega)
          have a10 : wr.cell? ⟨g, 10, none⟩ = some (.slice (A3 10) (NM 10) (c3 10)) := hgr.cell 10 (by omega)
          have a11 : wr.cell? ⟨g, 11, none⟩ = some (.slice (A3 11) (NM 11) (c3 11)) := hgr.cell 11 (by omega)
          have a12 : wr.cell? ⟨g, 12, none⟩ = some (.slice (A3 12) (NM 12) (c3 12)) := hgr.cell 12 (by omega)
          have a13 : wr.cell? ⟨g, 13, none⟩ = some (.slice (A3 13) (NM 13) (c3 13)) := hgr.cell 13 (by omega)
          have a14 : wr.cell? ⟨g, 14, none⟩ = some (.slice (A3 14) (NM 14) (c3 14)) := hgr.cell 14 (by omega)
          have a15 : wr.cell? ⟨g, 15, none⟩ = some (.slice (A3 15) (NM 15) (c3 15)) := hgr.cell 15 (by omega)
          clear hgr hrd
          go_wp2_with ((with_reducible refine K.out.mono ?_); rintro e w8 ⟨A8, c8, rfl, hrd, hq⟩; have H8 := Lib.hid hrd; have HQ8 := Lib.hid hq; clear hrd hq)
          go_ret
          exact ⟨A8, c8, rfl, H8.out.mono (fun b hb => by have h1 := HQ.out.low.size; rcases hb with hb | hb <;> omega), HQ.out.low.trans (HQ8.out.mono HQ.out.low.size)⟩
theorem vs_add (A B : Option Addr) (c d n m : Nat) (s : List Kn) (l : List Vr) (hn : n = s.length) (hm : m = l.length) (hml : m ≤ 100000) (hnl : ∀ r, (runsV s r).length ≤ 200000) (U : List Kn) (hU : addsS s l = U) (N : Nat) (hN : U.length = N) (w : World) (ha : RdK w w.heap.size A c s) (hb : kVr.Rd w w.heap.size B d l) :
    Calls Tryz.prog 54 #[.slice A n c, .slice B m d] w (RetK w N U) :=
  (vs_add_new A B c d n m s l hn hm hml hnl U hU N hN w ha hb).mono fun _ _ h => h.to
end Go.Proofs.YtaodifpnfejbbaaGreat

/-
  Layer 14 (vset), the program: two sets held against each other by the library's calls.
-/
namespace Go.Proofs.YtaodifpnfejbbaaGreat
open Go.RowKit

theorem eq_rn_is (r t : Rn) (X Y Z W : Int) (h1 : r.fr = X) (h2 : r.to = Y) (h3 : t.fr = Z) (h4 : t.to = W) (q : Bool) (hq : (r.fr == t.fr && r.to == t.to) = q) (w : World) : (Op.equalIn 10000 58 (.agg #[.int .i64 X, .int .i64 Y]) (.agg #[.int .i64 Z, .int .i64 W])).run Tryz.prog w = .ok q w := by
  subst h1 h2 h3 h4; exact eq_rn _ _ _ _ q hq w
theorem sameC_cons (r t : Rn) (a b : List Rn) : sameC (r :: a) (t :: b) = ((r.fr == t.fr && r.to == t.to) && sameC a b) := rfl
set_option maxHeartbeats 1000000 in
theorem vs_equal (A B : Option Addr) (c d n m : Nat) (a b : List Rn) (hn : n = a.length) (hm : m = b.length) (v : Bool) (hv : sameC a b = v) (w : World) (ha : kRn.Rd w w.heap.size A c a) (hb : kRn.Rd w w.heap.size B d b) :
    Calls Tryz.prog 106 #[.slice A n c, .slice B m d] w fun e w' => e = .returned (.bool v) ∧ Below w.heap.size w w' := by
  have HN := Lib.hid hn
  have HM := Lib.hid hm
  have HA := Lib.hid ha
  have HB := Lib.hid hb
  have hmx := rd_maxC ha hn
  have hmy := rd_maxC hb hm
  have hcx : n ≤ c := by rw [hn]; exact ha.room
  have hcy : m ≤ d := by rw [hm]; exact hb.room
  subst hv
  by_cases hnm : n = m
  · subst hnm
    clear hn hm ha hb
    go_enter Tryz.func106, Tryz.ntmps106
    go_wp2_with fail
    go_loopw [13] (fun i wr => ∃ k : Nat, k ≤ n ∧ Hid (sameC a b = sameC (a.drop k) (b.drop k)) ∧ i = .int .i64 k ∧ Hid (Below w.heap.size w wr)) (fun i _ => n - (intOf i).toNat)
    case atStart => exact ⟨0, by omega, rfl, rfl, Below.refl _ _⟩
    case round =>
      obtain ⟨k, hk, HL, rfl, HW⟩ := hrel
      by_cases hlt : k < n
      · obtain ⟨r, hg, hd, -⟩ := cnt_get (l := a) (k := k) (by have := HN.out; omega)
        obtain ⟨t, hg', hd', -⟩ := cnt_get (l := b) (k := k) (by have := HM.out; omega)
        obtain ⟨b1, o1, rfl, hb1, hcell1⟩ := rns_at (HA.out.below HW.out) (by have := HN.out; omega)
        obtain ⟨b2, o2, rfl, hb2, hcell2⟩ := rns_at (HB.out.below HW.out) (by have := HM.out; omega)
        obtain ⟨a0, a1⟩ := hcell1 k r hg
        obtain ⟨c0, c1⟩ := hcell2 k t hg'
        obtain ⟨X, hX⟩ : ∃ X, r.fr = X := ⟨_, rfl⟩
        obtain ⟨Y, hY⟩ : ∃ Y, r.to = Y := ⟨_, rfl⟩
        obtain ⟨Z, hZ⟩ : ∃ Z, t.fr = Z := ⟨_, rfl⟩
        obtain ⟨W, hW⟩ : ∃ W, t.to = W := ⟨_, rfl⟩
        obtain ⟨x, hx⟩ : ∃ x, (r.fr == t.fr && r.to == t.to) = x := ⟨_, rfl⟩
        have EQ := fun w => eq_rn_is r t X Y Z W hX hY hZ hW x hx w
        have HL2 := Lib.hid (HL.out.trans (show sameC (a.drop k) (b.drop k) = (x && sameC (a.drop (k + 1)) (b.drop (k + 1))) by rw [hd, hd', sameC_cons, hx]))
        have hk0 : (0 : Int) ≤ (k : Int) := by omega
        have hkn : (k : Int) < (n : Int) := by omega
        rw [hX] at a0
        rw [hY] at a1
        rw [hZ] at c0
        rw [hW] at c1
        clear hcell1 hcell2 hg hg' hd hd' hx hX hY hZ hW
        cases x
        all_goals
          go_wp2_with fail
          go_quiet (fail)
          go_wp2_with fail
        · go_ret
          exact ⟨ret_bool HL2.out.symm, below_drewN HW.out _⟩
        · go_roundw
          case rel => exact ⟨k + 1, by omega, HL2, by go_num, below_drewN HW.out _⟩
          case measure => simp [intOf]; omega
      · have HL2 := Lib.hid (HL.out.trans (show sameC (a.drop k) (b.drop k) = true by rw [List.drop_eq_nil_of_le (by have := HN.out; omega), List.drop_eq_nil_of_le (by have := HM.out; omega)]; rfl))
        go_wp2_with fail
        go_ret
        exact ⟨ret_bool HL2.out.symm, HW.out⟩
  · have HE := Lib.hid (sameC_len (a := a) (b := b) (by omega))
    have hne : ((n : Int) == (m : Int)) = false := beq_eq_false_iff_ne.2 (by omega)
    have hne2 : ((n : Int) != (m : Int)) = true := by rw [bne, hne]; rfl
    clear hn hm ha hb hnm
    go_enter Tryz.func106, Tryz.ntmps106
    go_wp2_with fail
    go_ret
    exact ⟨ret_bool HE.out.symm, Below.refl _ _⟩
end Go.Proofs.YtaodifpnfejbbaaGreat

/-
  Layer 14 (vset), the program: are two sets the same, is one within the other?
-/
namespace Go.Proofs.YtaodifpnfejbbaaGreat
open Go.RowKit

theorem vs_of_new (A : Option Addr) (c n : Nat) (s : List Kn) (hn : n = s.length) (hnl : ∀ r, (runsV s r).length ≤ 200000) (U : List Kn) (hU : ofS s = U) (N : Nat) (hN : U.length = N) (w : World) (hr : RdK w w.heap.size A c s) :
    Calls Tryz.prog 49 #[.slice A n c] w (RetKF w N U) := by
  have C := Lib.hid (vs_add_new A none c 0 n 0 s [] hn rfl (by omega) hnl U hU N hN w hr (Kind.Rd.nil _ _))
  clear hn hnl hU hN hr
  go_enter Tryz.func49, Tryz.ntmps49
  go_wp2_with ((with_reducible refine C.out.mono ?_); rintro e w1 ⟨A1, c1, rfl, hrd, hq⟩; have HR := Lib.hid hrd; have HQ := Lib.hid hq; clear hrd hq)
  go_ret
  exact ⟨A1, c1, rfl, HR.out, HQ.out⟩
theorem vs_of (A : Option Addr) (c n : Nat) (s : List Kn) (hn : n = s.length) (hnl : ∀ r, (runsV s r).length ≤ 200000) (U : List Kn) (hU : ofS s = U) (N : Nat) (hN : U.length = N) (w : World) (hr : RdK w w.heap.size A c s) :
    Calls Tryz.prog 49 #[.slice A n c] w (RetK w N U) :=
  (vs_of_new A c n s hn hnl U hU N hN w hr).mono fun _ _ h => h.to
theorem vs_union_new (A B : Option Addr) (c d n m : Nat) (a b : List Kn) (hn : n = a.length) (hm : m = b.length) (hnl : ∀ r, (runsV a r).length ≤ 100000) (hml : ∀ r, (runsV b r).length ≤ 100000) (U : List Kn) (hU : makeS 1 a b = U) (N : Nat) (hN : U.length = N) (w : World) (ha : RdK w w.heap.size A c a) (hb : RdK w w.heap.size B d b) :
    Calls Tryz.prog 125 #[.slice A n c, .slice B m d] w (RetKF w N U) := by
  have C := Lib.hid (vs_both_new 139 1 k_cunion_own (enters_of Tryz.func139 (by kernel_rfl) rfl) A B c d n m a b hn hm hnl hml U hU N hN w ha hb)
  clear hn hm hnl hml hU hN ha hb
  go_enter Tryz.func125, Tryz.ntmps125
  go_wp2_with ((with_reducible refine C.out.mono ?_); rintro e w1 ⟨A1, c1, rfl, hrd, hq⟩; have HR := Lib.hid hrd; have HQ := Lib.hid hq; clear hrd hq)
  go_ret
  exact ⟨A1, c1, rfl, HR.out, HQ.out⟩
theorem vs_union (A B : Option Addr) (c d n m : Nat) (a b : List Kn) (hn : n = a.length) (hm : m = b.length) (hnl : ∀ r, (runsV a r).length ≤ 100000) (hml : ∀ r, (runsV b r).length ≤ 100000) (U : List Kn) (hU : makeS 1 a b = U) (N : Nat) (hN : U.length = N) (w : World) (ha : RdK w w.heap.size A c a) (hb : RdK w w.heap.size B d b) :
    Calls Tryz.prog 125 #[.slice A n c, .slice B m d] w (RetK w N U) :=
  (vs_union_new A B c d n m a b hn hm hnl hml U hU N hN w ha hb).mono fun _ _ h => h.to
theorem vs_less_new (A B : Option Addr) (c d n m : Nat) (a b : List Kn) (hn : n = a.length) (hm : m = b.length) (hnl : ∀ r, (runsV a r).length ≤ 100000) (hml : ∀ r, (runsV b r).length ≤ 100000) (U : List Kn) (hU : makeS 3 a b = U) (N : Nat) (hN : U.length = N) (w : World) (ha : RdK w w.heap.size A c a) (hb : RdK w w.heap.size B d b) :
    Calls Tryz.prog 101 #[.slice A n c, .slice B m d] w (RetKF w N U) := by
  have C := Lib.hid (vs_both_new 130 3 k_cless_own (enters_of Tryz.func130 (by kernel_rfl) rfl) A B c d n m a b hn hm hnl hml U hU N hN w ha hb)
  clear hn hm hnl hml hU hN ha hb
  go_enter Tryz.func101, Tryz.ntmps101
  go_wp2_with ((with_reducible refine C.out.mono ?_); rintro e w1 ⟨A1, c1, rfl, hrd, hq⟩; have HR := Lib.hid hrd; have HQ := Lib.hid hq; clear hrd hq)
  go_ret
  exact ⟨A1, c1, rfl, HR.out, HQ.out⟩
theorem vs_less (A B : Option Addr) (c d n m : Nat) (a b : List Kn) (hn : n = a.length) (hm : m = b.length) (hnl : ∀ r, (runsV a r).length ≤ 100000) (hml : ∀ r, (runsV b r).length ≤ 100000) (U : List Kn) (hU : makeS 3 a b = U) (N : Nat) (hN : U.length = N) (w : World) (ha : RdK w w.heap.size A c a) (hb : RdK w w.heap.size B d b) :
    Calls Tryz.prog 101 #[.slice A n c, .slice B m d] w (RetK w N U) :=
  (vs_less_new A B c d n m a b hn hm hnl hml U hU N hN w ha hb).mono fun _ _ h => h.to
theorem sameS_cons (x y : Kn) (a b : List Kn) : sameS (x :: a) (y :: b) = (((x.rep == y.rep) && sameC x.runs y.runs) && sameS a b) := rfl
end Go.Proofs.YtaodifpnfejbbaaGreat

/-
  Layer 7 (span): which of two ranges ends ahead.
-/
namespace Go.Proofs.YtaodifpnfejbbaaGreat
open Go.RowKit

theorem span_later (a b : List UInt8) (S T V : ByteArray) (hS : str a = S) (hT : str b = T) (hV : str (match ltB a b with | true => b | false => a) = V) (w : World) :
    Calls Tryz.prog 102 #[.string S, .string T] w fun e w' => e = .returned (.string V) ∧ w = w' := by
  obtain ⟨x, hx, hx1, -⟩ := cmp_test a b
  have C := fun w => Lib.hid (cmp_is a b S T hS hT x hx w)
  cases hl : ltB a b with
  | true =>
    rw [hl] at hx1 hV
    obtain rfl : T = V := hT.symm.trans hV
    clear hx hS hT hV hl
    go_enter Tryz.func102, Tryz.ntmps102
    go_wp2_with ((with_reducible refine (C _).out.mono ?_); rintro e w' ⟨rfl, rfl⟩)
    go_ret
    exact ⟨rfl, rfl⟩
  | false =>
    rw [hl] at hx1 hV
    obtain rfl : S = V := hS.symm.trans hV
    clear hx hS hT hV hl
    go_enter Tryz.func102, Tryz.ntmps102
    go_wp2_with ((with_reducible refine (C _).out.mono ?_); rintro e w' ⟨rfl, rfl⟩)
    go_ret
    exact ⟨rfl, rfl⟩
theorem span_upTo (S T : ByteArray) (o : Bool) (w : World) :
    Calls Tryz.prog 103 #[.agg #[.string S, .string T, .bool o]] w fun e w' => e = .returned (.agg #[.string ⟨#[]⟩, .string T, .bool o]) ∧ Below w.heap.size w w' := by
  go_enter Tryz.func103, Tryz.ntmps103
  go_wp2_with fail
  exact bodyPost_ret (v := .agg #[.string ⟨#[]⟩, .string T, .bool o]) (by simp [results, Tryz.results103, go_sem]) rfl ⟨rfl, ((Below.refl _ _).alloc (Nat.le_refl _) _).alloc (by simp) _⟩
set_option maxHeartbeats 1600000 in
/-- What Ends does with right ranges: the way is told by six cases. -/
theorem span_ends (r t : Rng) (S T U V : ByteArray) (o p : Bool) (hr : IsR r S T o) (ht : IsR t U V p) (v : Int) (hv : endsR r t = v) (w : World) :
    Calls Tryz.prog 64 #[.agg #[.string S, .string T, .bool o], .agg #[.string U, .string V, .bool p]] w fun e w' => e = .returned (.int .i64 v) ∧ Below w.heap.size w w' := by
  obtain ⟨v1, e1⟩ : ∃ v1, rightR r = v1 := ⟨_, rfl⟩
  obtain ⟨v2, e2⟩ : ∃ v2, rightR t = v2 := ⟨_, rfl⟩
  have R1 := fun w => Lib.hid (span_right r S T o v1 hr e1 w)
  have R2 := fun w => Lib.hid (span_right t U V p v2 ht e2 w)
  cases v1
  case true =>
    cases v2
    case true =>
      have T1 := fun w => Lib.hid (span_upTo S T o w)
      have T2 := fun w => Lib.hid (span_upTo U V p w)
      have HO1 := fun e => Lib.hid (rightR_op e1 e)
      have HO2 := fun e => Lib.hid (rightR_op e2 e)
      obtain ⟨-, h2, h3⟩ := hr
      obtain ⟨-, h5, h6⟩ := ht
      have EQ := fun q hq w => Lib.hid (eq_rng_is ⟨#[]⟩ T ⟨#[]⟩ V o p q hq w)
      unfold endsR endLt at hv
      rw [e1, e2, h3, h6] at hv
      rw [h3] at HO1
      rw [h6] at HO2
      have key : (o = true ∧ p = true ∧ v = 0 ∧ T = V) ∨ (o = true ∧ p = false ∧ v = 1) ∨ (o = false ∧ p = true ∧ v = -1) ∨ (o = false ∧ p = false ∧ v = 0 ∧ T = V) ∨ (o = false ∧ p = false ∧ (T.toList == V.toList) = false ∧ Lib.compareBytes r.hi t.hi = v) := by
        cases o <;> cases p
        · rcases ltB_three r.hi t.hi with ⟨g1, g2, g3⟩ | ⟨g1, g2, g3⟩ | ⟨g1, g2, g3⟩
          · rw [g1, g2] at hv; exact .inr (.inr (.inr (.inr ⟨rfl, rfl, txt_ne h2 h5 g3, (cmp_lt g1).trans hv⟩)))
          · rw [g1, g2] at hv; exact .inr (.inr (.inr (.inr ⟨rfl, rfl, txt_ne h2 h5 g3, (cmp_gt g2).trans hv⟩)))
          · rw [g1, g2] at hv; exact .inr (.inr (.inr (.inl ⟨rfl, rfl, hv.symm, (h2.symm.trans (congrArg str g3)).trans h5⟩)))
        · exact .inr (.inr (.inl ⟨rfl, rfl, hv.symm⟩))
        · exact .inr (.inl ⟨rfl, rfl, hv.symm⟩)
        · exact .inl ⟨rfl, rfl, hv.symm, (h2.symm.trans (congrArg str ((HO1 rfl).out.trans (HO2 rfl).out.symm))).trans h5⟩
      have C := fun x hx w => Lib.hid (cmp_is r.hi t.hi T V h2 h5 x hx w)
      have KEY := Lib.hid key
      clear hv HO1 HO2 h2 h3 h5 h6 e1 e2 key
      go_enter Tryz.func64, Tryz.ntmps64
      go_wp2_with (first | ((with_reducible refine (R1 _).out.mono ?_); rintro e w1 ⟨rfl, hb1⟩; obtain ⟨hc1, hf1⟩ := bcell hb1) | ((with_reducible refine (R2 _).out.mono ?_); rintro e w2 ⟨rfl, hb2⟩; obtain ⟨hc2, hf2⟩ := bcell hb2))
      have hA := (((rgAt_new w S _ _ _).keep _).below hb1).below hb2
      have hB := ((rgAt_new (w.alloc _) U _ _ _).below hb1).below hb2
      rw [size1] at hB
      replace hb2 := (((Below.refl w.heap.size w).alloc (Nat.le_refl _) _).alloc (by simp) _).trans ((hb1.trans (hb2.mono hb1.size)).mono (by simp; omega))
      have HA := Lib.hid hA
      have HB := Lib.hid hB
      obtain ⟨a0, a1, a2, a3⟩ := hA
      obtain ⟨b0, b1, b2, b3⟩ := hB
      clear hb1 hc1 hf1 hc2 hf2 R1 R2
      have HW := Lib.hid hb2.size
      go_region_with (first
        | ((with_reducible refine (T1 _).out.mono ?_); rintro e w3 ⟨rfl, hb3⟩; clear a0 a1 a2 a3 b0 b1 b2 b3; (first | have HA := Lib.hid (HA.out.below hb3) | have HA := Lib.hid (HA.out.drew.below hb3)); (first | have HB := Lib.hid (HB.out.below hb3) | have HB := Lib.hid (HB.out.drew.below hb3)); obtain ⟨a0, a1, a2, a3⟩ := HA.out; obtain ⟨b0, b1, b2, b3⟩ := HB.out; (first | replace hb2 := hb2.trans (hb3.mono HW.out) | replace hb2 := hb2.drew.trans (hb3.mono HW.out)); replace HW := Lib.hid (Nat.le_trans HW.out hb3.size); clear hb3)
        | ((with_reducible refine (T2 _).out.mono ?_); rintro e w4 ⟨rfl, hb4⟩; clear a0 a1 a2 a3 b0 b1 b2 b3; (first | have HA := Lib.hid (HA.out.below hb4) | have HA := Lib.hid (HA.out.drew.below hb4)); (first | have HB := Lib.hid (HB.out.below hb4) | have HB := Lib.hid (HB.out.drew.below hb4)); obtain ⟨a0, a1, a2, a3⟩ := HA.out; obtain ⟨b0, b1, b2, b3⟩ := HB.out; (first | replace hb2 := hb2.trans (hb4.mono HW.out) | replace hb2 := hb2.drew.trans (hb4.mono HW.out)); replace HW := Lib.hid (Nat.le_trans HW.out hb4.size); clear hb4))
      all_goals
        rcases KEY.out with ⟨rfl, rfl, rfl, rfl⟩ | ⟨rfl, rfl, rfl⟩ | ⟨rfl, rfl, rfl⟩ | ⟨rfl, rfl, rfl, rfl⟩ | ⟨rfl, rfl, hne, hx⟩
        case' inr.inr.inr.inr =>
          replace EQ := EQ false (by rw [hne, Bool.and_false]; rfl)
          replace C := C v hx
        case' inl => replace EQ := EQ true (by simp)
        case' inr.inl => replace EQ := EQ false (by simp)
        case' inr.inr.inl => replace EQ := EQ false (by simp)
        case' inr.inr.inr.inl => replace EQ := EQ true (by simp)
        all_goals
          have EQ := fun w => (EQ w).out
          go_wp2_with ((with_reducible refine (C _).out.mono ?_); rintro e w' ⟨rfl, rfl⟩)
          go_ret
          exact ⟨rfl, below_set3 (below_set3 hb2 (Nat.le_refl _) _ _ _) (Nat.le_succ _) _ _ _⟩
    case false =>
      obtain rfl : v = 0 := by rw [← hv, endsR_wrong (by rw [e2, Bool.and_false])]
      clear hv e1 e2 hr ht
      go_enter Tryz.func64, Tryz.ntmps64
      go_wp2_with (first | ((with_reducible refine (R1 _).out.mono ?_); rintro e w1 ⟨rfl, hb1⟩; obtain ⟨hc1, hf1⟩ := bcell hb1) | ((with_reducible refine (R2 _).out.mono ?_); rintro e w2 ⟨rfl, hb2⟩; obtain ⟨hc2, hf2⟩ := bcell hb2))
      go_ret
      exact ⟨rfl, (((Below.refl w.heap.size w).alloc (Nat.le_refl _) _).alloc (by simp) _).trans ((hb1.trans (hb2.mono hb1.size)).mono (by simp; omega))⟩
  case false =>
    obtain rfl : v = 0 := by rw [← hv, endsR_wrong (by rw [e1]; rfl)]
    clear hv e1 e2 hr ht R2
    go_enter Tryz.func64, Tryz.ntmps64
    go_wp2_with ((with_reducible refine (R1 _).out.mono ?_); rintro e w1 ⟨rfl, hb1⟩; obtain ⟨hc1, hf1⟩ := bcell hb1)
    go_ret
    exact ⟨rfl, (((Below.refl w.heap.size w).alloc (Nat.le_refl _) _).alloc (by simp) _).trans (hb1.mono (by simp; omega))⟩
end Go.Proofs.YtaodifpnfejbbaaGreat

/-
  Layer 8 (ranges), the program: is there a text between two; is a list right; which texts it has; are two lists the same, range by range.
-/
namespace Go.Proofs.YtaodifpnfejbbaaGreat
open Go.RowKit

theorem rg_apart (r t : Rng) (S T U V : ByteArray) (o p v : Bool) (hr : IsR r S T o) (ht : IsR t U V p) (hv : gapR r t = v) (w : World) :
    Calls Tryz.prog 96 #[.agg #[.string S, .string T, .bool o], .agg #[.string U, .string V, .bool p]] w fun e w' => e = .returned (.bool v) ∧ Below w.heap.size w w' := by
  obtain ⟨-, h2, h3⟩ := hr
  obtain ⟨h4, -, -⟩ := ht
  obtain ⟨x, hx, hx1, -⟩ := cmp_test r.hi t.lo
  have C := fun w => Lib.hid (cmp_is r.hi t.lo T U h2 h4 x hx w)
  unfold gapR at hv
  rw [← hx1, h3] at hv
  clear hx hx1 h2 h3 h4
  obtain ⟨d, hd⟩ : ∃ d, decide (x < 0) = d := ⟨_, rfl⟩
  rw [hd] at hv
  subst hv
  cases o <;> cases d
  all_goals
    go_enter Tryz.func96, Tryz.ntmps96
    go_wp2_with ((with_reducible refine (C _).out.mono ?_); rintro e w' ⟨rfl, rfl⟩)
    go_ret
    exact ⟨rfl, ((Below.refl _ _).alloc (Nat.le_refl _) _).alloc (by simp) _⟩
end Go.Proofs.YtaodifpnfejbbaaGreat
