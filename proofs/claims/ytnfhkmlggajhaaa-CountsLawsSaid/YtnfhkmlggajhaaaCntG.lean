/-
  Layer 13 (counts), the program: the right ones of some runs, those that begin ahead first.
-/
import Derived.Test.YtnfhkmlggajhaaaCntF
import Derived.Test.YtnfhkmlggajhaaaCntD
import Derived.Test.YtnfhkmlggajhaaaSorted
import Derived.Test.YtnfhkmlggajhaaaShelfSortRn
namespace Go.Proofs.Ytnfhkmlggajhaaa
open Go.RowKit Go.Sort

instance : Inhabited Rn := ⟨⟨0, 0⟩⟩
def cmpI (x y : Int) : Int := match decide (x < y) with | true => -1 | false => match decide (y < x) with | true => 1 | false => 0
theorem cmpI_lt {x y : Int} (h : x < y) : cmpI x y = -1 := by unfold cmpI; rw [decide_eq_true h]
theorem cmpI_gt {x y : Int} (h : y < x) : cmpI x y = 1 := by unfold cmpI; rw [decide_eq_false (by omega), decide_eq_true h]
theorem cmpI_eq {x y : Int} (h : x = y) : cmpI x y = 0 := by unfold cmpI; rw [decide_eq_false (by omega), decide_eq_false (by omega)]
def cmpFr (x y : Rn) : Int := cmpI x.fr y.fr
theorem lt_cmpFr (x y : Rn) : ltOf cmpFr x y = decide (x.fr < y.fr) := by
  unfold ltOf cmpFr
  rcases Int.lt_trichotomy x.fr y.fr with h | h | h
  · rw [cmpI_lt h, decide_eq_true h]; rfl
  · rw [cmpI_eq h, decide_eq_false (show ¬ x.fr < y.fr by omega)]; rfl
  · rw [cmpI_gt h, decide_eq_false (show ¬ x.fr < y.fr by omega)]; rfl
theorem swo_cmpFr : SWO (ltOf cmpFr) where
  irrefl x := by rw [lt_cmpFr]; exact decide_eq_false (by omega)
  trans x y z h1 h2 := by rw [lt_cmpFr, decide_eq_true_eq] at *; omega
  ntrans x y z h1 h2 := by rw [lt_cmpFr, decide_eq_false_iff_not] at *; omega
theorem cn_isnan (x : Int) (w : World) : Calls Try.prog 42 #[.int .i64 x] w fun e w' => e = .returned (.bool false) ∧ w = w' := by
  go_enter Try.func42, Try.ntmps42
  go_wp2_with fail
  go_ret
  exact ⟨rfl, rfl⟩
theorem cn_compare (x y v : Int) (hv : cmpI x y = v) (w : World) : Calls Try.prog 35 #[.int .i64 x, .int .i64 y] w fun e w' => e = .returned (.int .i64 v) ∧ w = w' := by
  have N := fun x w => Lib.hid (cn_isnan x w)
  rcases Int.lt_trichotomy x y with h | h | h
  · obtain rfl : v = -1 := by rw [← hv, cmpI_lt h]
    have h1 : decide (x < y) = true := decide_eq_true h
    clear hv
    go_enter Try.func35, Try.ntmps35
    go_wp2_with ((with_reducible refine (N _ _).out.mono ?_); rintro e w' ⟨rfl, rfl⟩)
    go_ret
    exact ⟨rfl, rfl⟩
  · obtain rfl : v = 0 := by rw [← hv, cmpI_eq h]
    have h1 : decide (x < y) = false := decide_eq_false (by omega)
    have h2 : decide (x > y) = false := decide_eq_false (by omega)
    clear hv
    go_enter Try.func35, Try.ntmps35
    go_wp2_with ((with_reducible refine (N _ _).out.mono ?_); rintro e w' ⟨rfl, rfl⟩)
    go_ret
    exact ⟨rfl, rfl⟩
  · obtain rfl : v = 1 := by rw [← hv, cmpI_gt h]
    have h1 : decide (x < y) = false := decide_eq_false (by omega)
    have h2 : decide (x > y) = true := decide_eq_true h
    clear hv
    go_enter Try.func35, Try.ntmps35
    go_wp2_with ((with_reducible refine (N _ _).out.mono ?_); rintro e w' ⟨rfl, rfl⟩)
    go_ret
    exact ⟨rfl, rfl⟩
theorem cn_closure (x y : Rn) (W : World) : Calls Try.prog 34 #[.agg (rnCells x).toArray, .agg (rnCells y).toArray] W fun e w' => e = .returned (.int .i64 (cmpFr x y)) ∧ ∃ q os', w' = grow (W.drewN q) os' := by
  have C := fun w => Lib.hid (cn_compare x.fr y.fr (cmpFr x y) rfl w)
  unfold rnCells
  generalize cmpFr x y = v at C ⊢
  go_enter Try.func34, Try.ntmps34
  go_wp2_with ((with_reducible refine (C _).out.mono ?_); rintro e w' ⟨rfl, rfl⟩)
  go_ret
  exact ⟨rfl, 0, _, by rw [alloc_eq_grow, alloc_eq_grow, grow_grow]; rfl⟩
theorem cn_sort (v : Value) (f : List Rn) (base : Nat) (w : World) (h : kRn.Own w base v f) (hf : f.length ≤ 1000000) (hb : base ≤ w.heap.size) :
    Calls Try.prog 33 #[v, .func (.func 34) #[] #[]] w fun e w' => e = .returned (.tuple #[]) ∧ ∃ m, m.Perm f ∧ SortedC m ∧ kRn.Own w' base v m ∧ Below base w w' := by
  by_cases h0 : f = []
  · subst h0
    obtain ⟨A, c, rfl, _⟩ := h.form
    have K := AnyF.slices_SortFunc_none (P := Try.prog) (ρ := Try.sortRn_ren) { Try.sortRn with } A c (.func (.func 34) #[] #[]) w
    refine Calls.mono K ?_
    rintro e w' ⟨rfl, rfl⟩
    exact ⟨rfl, [], List.Perm.refl _, List.Pairwise.nil, h, Below.refl _ _⟩
  · have hp : 0 < f.length := List.length_pos_iff.2 h0
    obtain ⟨g, c, rfl, hc, hg, hgl, _, _⟩ := h.some_ rfl hp
    have hH := h.holdsK.1
    have eg : ∀ args w, (callFunc 34 args).run Try.prog w = .ok (.enter 34 args) w := enters_of Try.func34 (by kernel_rfl) rfl
    have K := AnyQ.slices_SortFunc Try.sortRn 2 Try.isAgg26 Try.sizeOf26 rnCells (fun _ => rfl) kRn.one cmpFr swo_cmpFr 34 #[] g 0 c f.toArray w eg (fun _ _ _ _ x y => cn_closure x y _) hH hgl (by rw [List.size_toArray]; omega)
    rw [List.size_toArray] at K
    refine Calls.mono K ?_
    rintro e w' ⟨rfl, d, n, os, hpm, hst, rfl⟩
    have hd : d.size = f.length := by have := hpm.1; rwa [List.size_toArray] at this
    have hst2 := pairs_of_sortedIn (lt := ltOf cmpFr) (d := d) (by rw [hd]; exact hst)
    refine ⟨rfl, d.toList, perm_of_permIn (by rw [List.size_toArray]; exact hpm), ?_, h.sorted d hd rfl, (Below.refl _ _).grown (grown_sortK d) hb (fun j hj => by injection hj with hj; subst hj; exact hg)⟩
    unfold SortedC
    exact hst2.imp fun {a b} hab => by rw [lt_cmpFr, decide_eq_false_iff_not] at hab; omega
theorem cfilter_next {l : List Rn} {k : Nat} {r : Rn} (h : l[k]? = some r) : (l.take (k + 1)).filter oneC = (l.take k).filter oneC ++ (match oneC r with | true => [r] | false => []) := by
  rw [List.take_add_one, h, List.filter_append]
  cases hr : oneC r <;> simp [hr]
set_option maxHeartbeats 1000000 in
theorem cn_byBeginning (A : Option Addr) (c n : Nat) (l : List Rn) (hn : n = l.length) (hnl : n ≤ 300000) (w : World) (hr : kRn.Rd w w.heap.size A c l) :
    Calls Try.prog 26 #[.slice A n c] w fun e w' => ∃ m, m.Perm (l.filter oneC) ∧ SortedC m ∧ ∃ A' c', e = .returned (.slice A' m.length c') ∧ kRn.Rd w' w'.heap.size A' c' m ∧ Below w.heap.size w w' := by
  have HN := Lib.hid hn
  have HR := Lib.hid hr
  have hcx : n ≤ c := by rw [hn]; exact hr.room
  clear hn hr
  go_enter Try.func26, Try.ntmps26
  go_wp2_with fail
  go_loopw [3, 8] (fun v i wr => ∃ k : Nat, k ≤ n ∧ Hid (kRn.Own wr w.heap.size v ((l.take k).filter oneC)) ∧ i = .int .i64 k ∧ Below w.heap.size w wr) (fun _ i _ => n - (intOf i).toNat)
  case atStart => exact ⟨0, by omega, Kind.Own.nil _ _, rfl, Below.refl _ _⟩
  case round =>
    obtain ⟨k, hk, HO, rfl, hb⟩ := hrel
    have hol : ((l.take k).filter oneC).length ≤ k := Nat.le_trans (List.length_filter_le _ _) (by rw [List.length_take]; omega)
    by_cases hlt : k < n
    · obtain ⟨r, hg, hd, -⟩ := cnt_get (l := l) (k := k) (by have := HN.out; omega)
      obtain ⟨b, o, rfl, hb1, hcell⟩ := rns_at (HR.out.below hb) (by have := HN.out; omega)
      obtain ⟨c0, c1⟩ := hcell k r hg
      obtain ⟨d, hdv⟩ : ∃ d, oneC r = d := ⟨_, rfl⟩
      have C := fun w => Lib.hid (cn_one r _ _ rfl rfl d hdv w)
      have HF := Lib.hid (cfilter_next hg)
      rw [hdv] at HF
      have hb2 := Nat.lt_of_lt_of_le hb1 hb.size
      have HRW := fun w => Lib.hid (rn_row w r.fr r.to)
      obtain ⟨L, hL⟩ : ∃ L, [r] = L := ⟨_, rfl⟩
      have HX := Lib.hid hL
      have hX1 : L.length = 1 := by rw [← hL]; rfl
      rw [show [(⟨r.fr, r.to⟩ : Rn)] = L from hL] at HRW
      have HLE := Lib.hid (show ((l.take k).filter oneC).length + L.length ≤ 1000000 by rw [hX1]; omega)
      have HX1 := Lib.hid hX1.symm
      clear hcell hg hd hdv hL hX1
      obtain ⟨X, hX⟩ : ∃ X, r.fr = X := ⟨_, rfl⟩
      obtain ⟨Y, hY⟩ : ∃ Y, r.to = Y := ⟨_, rfl⟩
      rw [hX, hY] at C HRW
      rw [hX] at c0
      rw [hY] at c1
      have HG := Lib.hid (rnAt_new wr X Y 26)
      clear hX hY
      have HB1 := Lib.hid (hb.alloc hb.size (.cells #[.int .i64 X, .int .i64 Y] 26))
      have HO1 := Lib.hid (HO.out.alloc (.cells #[.int .i64 X, .int .i64 Y] 26))
      cases d
      · go_wp2_with ((with_reducible refine (C _).out.mono ?_); rintro e w2 ⟨rfl, hq⟩; have HB2 := Lib.hid (HB1.out.trans (hq.mono HB1.out.size)); have HO2 := Lib.hid (HO1.out.below hq); clear hq)
        go_roundw
        case rel => exact ⟨k + 1, by omega, by have := HO2.out; rw [← List.append_nil (List.filter _ _), ← HF.out] at this; exact this, by go_num, HB2.out⟩
        case measure => simp [intOf]; omega
      · go_wp2_with (first
          | ((with_reducible refine (C _).out.mono ?_); rintro e w2 ⟨rfl, hq⟩; have HB2 := Lib.hid (HB1.out.trans (hq.mono HB1.out.size)); have HO2 := Lib.hid (HO1.out.below hq); obtain ⟨g0, g1, g2⟩ := HG.out.below hq; clear hq)
          | (at_builtin; refine wpList_app_k kRn rfl (.tmp 14) (.tmp 16) rfl w.heap.size _ _ rfl (Kind.Own.alloc HO2.out _) _ (some ⟨w2.heap.size, 0, none⟩) 1 1 L HX1.out rfl (HRW w2).out HLE.out (by decide) (cle_alloc (HB2.out.size) _) ?_; intro v3 w3 hown3 hg3 hb3 _; have HO3 := Lib.hid hown3; have HB3 := Lib.hid ((HB2.out.alloc HB2.out.size _).trans hb3); clear hown3 hb3 hg3))
        go_roundw
        case rel => exact ⟨k + 1, by omega, by have := HO3.out; rw [← HX.out, ← HF.out] at this; exact this, by go_num, HB3.out⟩
        case measure => simp [intOf]; omega
    · have hkn : l.take k = l := List.take_of_length_le (by have := HN.out; omega)
      rw [hkn] at HO hol
      have C := Lib.hid (cn_sort _ _ _ wr HO.out (by omega) hb.size)
      have HOF := HO
      clear HO hkn
      go_wp2_with ((with_reducible refine C.out.mono ?_); rintro e w2 ⟨rfl, m, hm1, hm2, hm3, hm4⟩; have H1 := Lib.hid hm1; have H2 := Lib.hid hm2; have H3 := Lib.hid hm3; have H4 := Lib.hid (hb.trans hm4); clear hm1 hm2 hm3 hm4)
      go_ret
      obtain ⟨A5, c5, he, hrd⟩ := H3.out.form
      exact ⟨m, H1.out, H2.out, A5, c5, by rw [he]; rfl, hrd, H4.out⟩
end Go.Proofs.Ytnfhkmlggajhaaa
