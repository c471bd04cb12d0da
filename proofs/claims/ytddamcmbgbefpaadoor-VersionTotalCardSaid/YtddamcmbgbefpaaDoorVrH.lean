/-
  Layer 12 (version), the program: the right ones of some versions, in order, each once.
-/
import Derived.Test.YtddamcmbgbefpaaDoorVrG
import Derived.Test.YtddamcmbgbefpaaDoorVrC
import Derived.Test.YtddamcmbgbefpaaDoorLaw12B
import Derived.Test.YtddamcmbgbefpaaDoorSorted
import Derived.Test.YtddamcmbgbefpaaDoorShelfSortVr
namespace Go.Proofs.YtddamcmbgbefpaaDoor
open Go.RowKit Go.Sort

theorem lt_cmpVr (x y : Vr) : ltOf cmpVr x y = lessVr x y := by
  unfold ltOf
  rcases cmpVr_three x y with ⟨h, _, h', _⟩ | ⟨h, _, h', _⟩ | ⟨h, _, h', _⟩ <;> rw [h, h'] <;> rfl
theorem swo_cmpVr : SWO (ltOf cmpVr) where
  irrefl x := by rw [lt_cmpVr]; exact lessVr_irrefl _
  trans x y z h1 h2 := by rw [lt_cmpVr] at *; exact lessVr_trans h1 h2
  ntrans x y z h1 h2 := by rw [lt_cmpVr] at *; rw [lessVr_no] at *; omega
set_option maxRecDepth 100000 in
theorem vr_closure (a b : Vr) (w : World) : Calls Tryd.prog 11 #[.agg (vrCells a).toArray, .agg (vrCells b).toArray] w fun e w' => e = .returned (.int .i64 (cmpVr a b)) ∧ ∃ q os', w' = grow (w.drewN q) os' := by
  show Calls Tryd.prog 11 #[.agg #[.int .i64 a.rep, .int .i64 a.cnt], .agg #[.int .i64 b.rep, .int .i64 b.cnt]] w _
  obtain ⟨z, hz⟩ : ∃ z, cmpVr a b = z := ⟨_, rfl⟩
  rw [hz]
  obtain ⟨x, hx⟩ : ∃ x, a.rep = x := ⟨_, rfl⟩
  obtain ⟨y, hy⟩ : ∃ y, a.cnt = y := ⟨_, rfl⟩
  obtain ⟨u, hu⟩ : ∃ u, b.rep = u := ⟨_, rfl⟩
  obtain ⟨v, hv⟩ : ∃ v, b.cnt = v := ⟨_, rfl⟩
  rw [hx, hy, hu, hv]
  obtain ⟨q, hq⟩ : ∃ q, (x == u && y == v) = q := ⟨_, rfl⟩
  obtain ⟨b1, h1⟩ : ∃ b, decide (x < u) = b := ⟨_, rfl⟩
  obtain ⟨b2, h2⟩ : ∃ b, (x == u) = b := ⟨_, rfl⟩
  obtain ⟨b3, h3⟩ : ∃ b, decide (y < v) = b := ⟨_, rfl⟩
  have K := cmpVr_by hx hy hu hv hq h1 h2 h3
  rw [hz] at K
  subst K
  have EQ := fun w => eq_vr x y u v q hq w
  clear hx hy hu hv hz hq
  cases q
  case' false =>
    cases b1
    case' false =>
      cases b2
      case' true =>
        cases b3
  all_goals
    go_enter Tryd.func11, Tryd.ntmps11
    go_wp2_with fail
    go_ret
    exact ⟨rfl, 0, _, by rw [alloc_eq_grow, alloc_eq_grow, grow_grow]; rfl⟩
theorem vr_sort (v : Value) (f : List Vr) (base : Nat) (w : World) (h : kVr.Own w base v f) (hf : f.length ≤ 100000) (hb : base ≤ w.heap.size) :
    Calls Tryd.prog 21 #[v, .func (.func 11) #[] #[]] w fun e w' => e = .returned (.tuple #[]) ∧ ∃ m, m.Perm f ∧ (m.Pairwise fun a b => lessVr b a = false) ∧ kVr.Own w' base v m ∧ Below base w w' := by
  by_cases h0 : f = []
  · subst h0
    obtain ⟨A, c, rfl, _⟩ := h.form
    have K := AnyF.slices_SortFunc_none (P := Tryd.prog) (ρ := Tryd.sortVr_ren) { Tryd.sortVr with } A c (.func (.func 11) #[] #[]) w
    refine Calls.mono K ?_
    rintro e w' ⟨rfl, rfl⟩
    exact ⟨rfl, [], List.Perm.refl _, List.Pairwise.nil, h, Below.refl _ _⟩
  · have hp : 0 < f.length := List.length_pos_iff.2 h0
    obtain ⟨g, c, rfl, hc, hg, hgl, _, _⟩ := h.some_ rfl hp
    have hH := h.holdsK.1
    have eg : ∀ args w, (callFunc 11 args).run Tryd.prog w = .ok (.enter 11 args) w := enters_of Tryd.func11 (by kernel_rfl) rfl
    have K := AnyQ.slices_SortFunc Tryd.sortVr 2 Tryd.isAgg23 Tryd.sizeOf23 vrCells (fun _ => rfl) kVr.one cmpVr swo_cmpVr 11 #[] g 0 c f.toArray w eg (fun _ _ _ _ x y => vr_closure x y _) hH hgl (by rw [List.size_toArray]; omega)
    rw [List.size_toArray] at K
    refine Calls.mono K ?_
    rintro e w' ⟨rfl, d, n, os, hpm, hst, rfl⟩
    have hd : d.size = f.length := by have := hpm.1; rwa [List.size_toArray] at this
    have hst2 := pairs_of_sortedIn (lt := ltOf cmpVr) (d := d) (by rw [hd]; exact hst)
    refine ⟨rfl, d.toList, perm_of_permIn (by rw [List.size_toArray]; exact hpm), ?_, h.sorted d hd rfl, (Below.refl _ _).grown (grown_sortK d) hb (fun j hj => by injection hj with hj; subst hj; exact hg)⟩
    exact hst2.imp fun {a b} hab => by rw [← lt_cmpVr]; exact hab
theorem vfilter_next {l : List Vr} {k : Nat} {r : Vr} (h : l[k]? = some r) : (l.take (k + 1)).filter rightVr = (l.take k).filter rightVr ++ (match rightVr r with | true => [r] | false => []) := by
  rw [List.take_add_one, h, List.filter_append]
  cases hr : rightVr r <;> simp [hr]
theorem vr_row1 (w : World) (r : Vr) : RowAt (w.alloc (.cells #[.int .i64 r.rep, .int .i64 r.cnt] 23)) (w.heap.size + 1) (some ⟨w.heap.size, 0, none⟩) (kVr.row [r]) :=
  (Kind.rd_new (k := kVr) (l := [r]) rfl rfl (by simp)).row
set_option maxRecDepth 100000 in
set_option maxHeartbeats 2000000 in
theorem vr_sorted (A : Option Addr) (c n : Nat) (l : List Vr) (hn : n = l.length) (hnl : n ≤ 1000) (w : World) (hr : kVr.Rd w w.heap.size A c l) :
    Calls Tryd.prog 15 #[.slice A n c] w fun e w' => ∃ r A' c' N, N = r.length ∧ SortVr l r ∧ e = .returned (.slice A' N c') ∧ kVr.Own w' w.heap.size (.slice A' N c') r ∧ Below w.heap.size w w' := by
  have HN := Lib.hid hn
  have HR := Lib.hid hr
  have hcx : n ≤ c := by rw [hn]; exact hr.room
  clear hn hr
  go_enter Tryd.func15, Tryd.ntmps15
  go_wp2_with fail
  go_loopw [3, 8] (fun v i wr => ∃ k : Nat, k ≤ n ∧ Hid (kVr.Own wr w.heap.size v ((l.take k).filter rightVr)) ∧ i = .int .i64 k ∧ Below w.heap.size w wr) (fun _ i _ => n - (intOf i).toNat)
  case atStart => exact ⟨0, by omega, Kind.Own.nil _ _, rfl, Below.refl _ _⟩
  case round =>
    obtain ⟨k, hk, HO, rfl, hb⟩ := hrel
    have hol : ((l.take k).filter rightVr).length ≤ k := Nat.le_trans (List.length_filter_le _ _) (by rw [List.length_take]; omega)
    by_cases hlt : k < n
    · obtain ⟨r, hg⟩ : ∃ r, l[k]? = some r := ⟨_, List.getElem?_eq_getElem (by have := HN.out; omega)⟩
      obtain ⟨b, o, rfl, hb1, hcell⟩ := vrs_at (HR.out.below hb) (by have := HN.out; omega)
      obtain ⟨c0, c1⟩ := hcell k r hg
      obtain ⟨d, hdv⟩ : ∃ d, rightVr r = d := ⟨_, rfl⟩
      have C := fun w => Lib.hid (k_vright r _ _ rfl rfl d hdv w)
      have HF := Lib.hid (vfilter_next hg)
      rw [hdv] at HF
      have hb2 := Nat.lt_of_lt_of_le hb1 hb.size
      have HRW := fun w => Lib.hid (vr_row1 w r)
      obtain ⟨n0, n1⟩ := vr_new wr r.rep r.cnt
      obtain ⟨X, hX⟩ : ∃ X, [r] = X := ⟨_, rfl⟩
      have HX := Lib.hid hX
      have hX1 : X.length = 1 := by rw [← hX]; rfl
      rw [hX] at HRW
      have HLE := Lib.hid (show ((l.take k).filter rightVr).length + X.length ≤ 1000000 by rw [hX1]; omega)
      have HX1 := Lib.hid hX1.symm
      clear hcell hg hdv hX hX1
      obtain ⟨x, hx⟩ : ∃ x, r.rep = x := ⟨_, rfl⟩
      obtain ⟨y, hy⟩ : ∃ y, r.cnt = y := ⟨_, rfl⟩
      rw [hx, hy] at C HRW n0 n1
      rw [hx] at c0
      rw [hy] at c1
      clear hx hy
      have HC := Lib.hid (show CellL (wr.alloc (.cells #[.int .i64 x, .int .i64 y] 23)) [(⟨wr.heap.size, 0, none⟩, .int .i64 x), (⟨wr.heap.size, 1, none⟩, .int .i64 y)] (wr.alloc (.cells #[.int .i64 x, .int .i64 y] 23)) from ⟨n0, n1, Below.refl _ _⟩)
      clear n0 n1
      have HB1 := Lib.hid (hb.alloc hb.size (.cells #[.int .i64 x, .int .i64 y] 23))
      have HO1 := Lib.hid (HO.out.alloc (.cells #[.int .i64 x, .int .i64 y] 23))
      cases d
      · go_wp2_with ((with_reducible refine (C _).out.mono ?_); rintro e w2 ⟨rfl, hq⟩; have HB2 := Lib.hid (HB1.out.trans (hq.mono HB1.out.size)); have HO2 := Lib.hid (HO1.out.below hq); clear hq)
        go_roundw
        case rel => exact ⟨k + 1, by omega, by have := HO2.out; rw [← List.append_nil (List.filter _ _), ← HF.out] at this; exact this, by go_num, HB2.out⟩
        case measure => simp [intOf]; omega
      · go_wp2_with (first
          | ((with_reducible refine (C _).out.mono ?_); rintro e w2 ⟨rfl, hq⟩; have HB2 := Lib.hid (HB1.out.trans (hq.mono HB1.out.size)); have HO2 := Lib.hid (HO1.out.below hq); replace HC := cellL_call hq HC.out; obtain ⟨g0, g1, -⟩ := HC; clear hq)
          | (at_builtin; refine wpList_app_k kVr rfl (.tmp 14) (.tmp 16) rfl w.heap.size _ _ rfl (Kind.Own.alloc HO2.out _) _ (some ⟨w2.heap.size, 0, none⟩) 1 1 X HX1.out rfl (HRW w2).out HLE.out (by decide) (by rw [size1]; exact Nat.le_succ_of_le HB2.out.size) ?_; intro v3 w3 hown3 hg3 hb3 _; have HO3 := Lib.hid hown3; have HB3 := Lib.hid ((HB2.out.alloc HB2.out.size _).trans hb3); clear hown3 hb3 hg3))
        go_roundw
        case rel => exact ⟨k + 1, by omega, by have := HO3.out; rw [← HX.out, ← HF.out] at this; exact this, by go_num, HB3.out⟩
        case measure => simp [intOf]; omega
    · have hkn : l.take k = l := List.take_of_length_le (by have := HN.out; omega)
      rw [hkn] at HO hol
      have C := Lib.hid (vr_sort _ _ _ wr HO.out (by omega) hb.size)
      have C2 := Lib.hid (fun (m : List Vr) (hm : m.length ≤ 100000) => vr_compact m hm)
      have HLF := Lib.hid hol
      clear HO hkn hol
      go_wp2_with (first
        | ((with_reducible refine C.out.mono ?_); rintro e w2 ⟨rfl, m, hm1, hm2, hm3, hm4⟩; have H1 := Lib.hid hm1; have H2 := Lib.hid hm2; have H3 := Lib.hid hm3; have H4 := Lib.hid (hb.trans hm4); have H5 := Lib.hid (show m.length ≤ 100000 by rw [hm1.length_eq]; have := HLF.out; omega); clear hm1 hm2 hm3 hm4)
        | ((with_reducible refine (C2.out _ H5.out _ _ _ H3.out H4.out.size).mono ?_); rintro e w3 ⟨A3, c3, N3, hN, rfl, ho, hq⟩; have H6 := Lib.hid hN; have H7 := Lib.hid ho; have H8 := Lib.hid (H4.out.trans hq); clear hN ho hq))
      go_ret
      exact ⟨_, A3, c3, N3, H6.out, compact_sort H1.out H2.out, rfl, H7.out, H8.out⟩
theorem k_vsort : VSortC 15 := fun A c n l hn hnl w hr => (vr_sorted A c n l hn hnl w hr).mono fun _ _ ⟨r, A', c', N, h1, h2, h3, h4, h5⟩ => ⟨r, A', c', N, h1, h2, h3, h4.rd, h5⟩
end Go.Proofs.YtddamcmbgbefpaaDoor
