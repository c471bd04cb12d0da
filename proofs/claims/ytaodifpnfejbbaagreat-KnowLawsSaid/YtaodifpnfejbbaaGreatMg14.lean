/-
  Several texts in one: ShelfSort, RgsI, RgsJ, RgsK, RgsL, RgsSwp, RgsM, Law08H, KnwU, KnwV.
-/
import Derived.Shelf.SlSortCmp.WholeK
import Derived.Shelf.SlSortCmp.NoneTotal
import Derived.Test.YtaodifpnfejbbaaGreatProg
import Derived.Deep.CutRange
import Derived.Test.YtaodifpnfejbbaaGreatMg13
/-
  The shelf's contracts at this program, in plain words (made by wip/tools/shelf.py).
-/
namespace Go.Proofs
open Go.Shelf
def Tryz.sortRg_ren : Go.Shelf.Ren := ⟨fun | 6 => 123 | 15 => 138 | 14 => 137 | 28 => 156 | 29 => 157 | 20 => 148 | 21 => 149 | 22 => 150 | 23 => 151 | 24 => 152 | 25 => 153 | 26 => 154 | 27 => 155 | 46 => 178 | 47 => 179 | 48 => 180 | 49 => 181 | 50 => 182 | 57 => 189 | n => n, fun | 22 => 36 | 24 => 42 | 25 => 86 | 3 => 3 | 39 => 146 | 0 => 0 | 53 => 161 | 55 => 163 | 4 => 4 | 46 => 154 | 45 => 153 | 50 => 158 | 5 => 5 | 9 => 9 | 66 => 179 | 70 => 183 | 76 => 189 | 77 => 190 | n => n, fun | n => n⟩
theorem Tryz.sortRg : Go.Proofs.SlLaysF0.n6 Tryz.prog Tryz.sortRg_ren := {
  mixed := by kernel_rfl
  f6 := ⟨Tryz.f123.name, by decide, Tryz.func123.trans (congrArg some (by kernel_rfl))⟩
  f14 := ⟨Tryz.f137.name, by decide, Tryz.func137.trans (congrArg some (by kernel_rfl))⟩
  f15 := Tryz.func138.trans (congrArg some (by kernel_rfl))
  f20 := ⟨Tryz.f148.name, by decide, Tryz.func148.trans (congrArg some (by kernel_rfl))⟩
  f21 := ⟨Tryz.f149.name, by decide, Tryz.func149.trans (congrArg some (by kernel_rfl))⟩
  f22 := ⟨Tryz.f150.name, by decide, Tryz.func150.trans (congrArg some (by kernel_rfl))⟩
  f23 := ⟨Tryz.f151.name, by decide, Tryz.func151.trans (congrArg some (by kernel_rfl))⟩
  f24 := ⟨Tryz.f152.name, by decide, Tryz.func152.trans (congrArg some (by kernel_rfl))⟩
  f25 := ⟨Tryz.f153.name, by decide, Tryz.func153.trans (congrArg some (by kernel_rfl))⟩
  f26 := ⟨Tryz.f154.name, by decide, Tryz.func154.trans (congrArg some (by kernel_rfl))⟩
  f27 := ⟨Tryz.f155.name, by decide, Tryz.func155.trans (congrArg some (by kernel_rfl))⟩
  f28 := Tryz.func156.trans (congrArg some (by kernel_rfl))
  f29 := Tryz.func157.trans (congrArg some (by kernel_rfl))
  f46 := ⟨Tryz.f178.name, by decide, Tryz.func178.trans (congrArg some (by kernel_rfl))⟩
  f47 := Tryz.func179.trans (congrArg some (by kernel_rfl))
  f48 := Tryz.func180.trans (congrArg some (by kernel_rfl))
  f49 := ⟨Tryz.f181.name, by decide, Tryz.func181.trans (congrArg some (by kernel_rfl))⟩
  f50 := ⟨Tryz.f182.name, by decide, Tryz.func182.trans (congrArg some (by kernel_rfl))⟩
  f57 := ⟨Tryz.f189.name, by decide, Tryz.func189.trans (congrArg some (by kernel_rfl))⟩
  t0 := Tryz.underlying0
  a0 := Tryz.isAgg0
  z0 := Tryz.sizeOf0
  v0 := Tryz.zeroValue0
  t3 := Tryz.underlying3
  a3 := Tryz.isAgg3
  z3 := Tryz.sizeOf3
  v3 := Tryz.zeroValue3
  t4 := Tryz.underlying4
  a4 := Tryz.isAgg4
  z4 := Tryz.sizeOf4
  v4 := Tryz.zeroValue4
  t5 := Tryz.underlying5
  a5 := Tryz.isAgg5
  z5 := Tryz.sizeOf5
  v5 := Tryz.zeroValue5
  t9 := Tryz.underlying9
  a9 := Tryz.isAgg9
  z9 := Tryz.sizeOf9
  v9 := Tryz.zeroValue9
  t22 := Tryz.underlying36
  a22 := Tryz.isAgg36
  z22 := Tryz.sizeOf36
  v22 := Tryz.zeroValue36
  t25 := Tryz.underlying86
  a25 := Tryz.isAgg86
  z25 := Tryz.sizeOf86
  v25 := Tryz.zeroValue86
  t39 := Tryz.underlying146
  a39 := Tryz.isAgg146
  z39 := Tryz.sizeOf146
  v39 := Tryz.zeroValue146
  t45 := Tryz.underlying153
  a45 := Tryz.isAgg153
  z45 := Tryz.sizeOf153
  v45 := Tryz.zeroValue153
  t46 := Tryz.underlying154
  a46 := Tryz.isAgg154
  z46 := Tryz.sizeOf154
  v46 := Tryz.zeroValue154
  t50 := Tryz.underlying158
  a50 := Tryz.isAgg158
  z50 := Tryz.sizeOf158
  v50 := Tryz.zeroValue158
  t53 := Tryz.underlying161
  a53 := Tryz.isAgg161
  z53 := Tryz.sizeOf161
  v53 := Tryz.zeroValue161
  t55 := Tryz.underlying163
  a55 := Tryz.isAgg163
  z55 := Tryz.sizeOf163
  v55 := Tryz.zeroValue163
  t66 := Tryz.underlying179
  a66 := Tryz.isAgg179
  z66 := Tryz.sizeOf179
  v66 := Tryz.zeroValue179
  t70 := Tryz.underlying183
  a70 := Tryz.isAgg183
  z70 := Tryz.sizeOf183
  v70 := Tryz.zeroValue183
  t76 := Tryz.underlying189
  a76 := Tryz.isAgg189
  z76 := Tryz.sizeOf189
  v76 := Tryz.zeroValue189
  t77 := Tryz.underlying190
  a77 := Tryz.isAgg190
  z77 := Tryz.sizeOf190
  v77 := Tryz.zeroValue190 }
end Go.Proofs

/-
  Layer 8 (ranges), the program: the right ones of some ranges, those that begin ahead first.
-/
namespace Go.Proofs.YtaodifpnfejbbaaGreat
open Go.RowKit Go.Sort

instance : Inhabited Rng := ⟨zeroR⟩
def cmpLo (x y : Rng) : Int := Lib.compareBytes x.lo y.lo
theorem lt_cmpLo (x y : Rng) : ltOf cmpLo x y = ltB x.lo y.lo := by
  obtain ⟨v, hv, h1, _⟩ := cmp_test x.lo y.lo
  unfold ltOf cmpLo
  rw [hv]; exact h1
theorem swo_cmpLo : SWO (ltOf cmpLo) where
  irrefl x := by rw [lt_cmpLo]; exact ltB_irrefl _
  trans x y z h1 h2 := by rw [lt_cmpLo] at *; exact ltB_trans h1 h2
  ntrans x y z h1 h2 := by rw [lt_cmpLo] at *; exact leB_trans h2 h1
theorem rgs_closure (x y : Rng) (W : World) : Calls Tryz.prog 124 #[.agg (rngCells x).toArray, .agg (rngCells y).toArray] W fun e w' => e = .returned (.int .i64 (cmpLo x y)) ∧ ∃ q os', w' = grow (W.drewN q) os' := by
  have C := fun w => Lib.hid (cmp_is x.lo y.lo _ _ rfl rfl (cmpLo x y) rfl w)
  unfold rngCells
  generalize cmpLo x y = v at C ⊢
  go_enter Tryz.func124, Tryz.ntmps124
  go_wp2_with ((with_reducible refine (C _).out.mono ?_); rintro e w' ⟨rfl, rfl⟩)
  go_ret
  exact ⟨rfl, 0, _, by rw [alloc_eq_grow, alloc_eq_grow, grow_grow]; rfl⟩
theorem rgs_sort (v : Value) (f : List Rng) (base : Nat) (w : World) (h : kRng.Own w base v f) (hf : f.length ≤ 1000000) (hb : base ≤ w.heap.size) :
    Calls Tryz.prog 123 #[v, .func (.func 124) #[] #[]] w fun e w' => e = .returned (.tuple #[]) ∧ ∃ m, m.Perm f ∧ SortedL m ∧ kRng.Own w' base v m ∧ Below base w w' := by
  by_cases h0 : f = []
  · subst h0
    obtain ⟨A, c, rfl, _⟩ := h.form
    have K := AnyF.slices_SortFunc_none (P := Tryz.prog) (ρ := Tryz.sortRg_ren) { Tryz.sortRg with } A c (.func (.func 124) #[] #[]) w
    refine Calls.mono K ?_
    rintro e w' ⟨rfl, rfl⟩
    exact ⟨rfl, [], List.Perm.refl _, List.Pairwise.nil, h, Below.refl _ _⟩
  · have hp : 0 < f.length := List.length_pos_iff.2 h0
    obtain ⟨g, c, rfl, hc, hg, hgl, _, _⟩ := h.some_ rfl hp
    have hH := h.holdsK.1
    have eg : ∀ args w, (callFunc 124 args).run Tryz.prog w = .ok (.enter 124 args) w := enters_of Tryz.func124 (by kernel_rfl) rfl
    have K := AnyQ.slices_SortFunc Tryz.sortRg 3 Tryz.isAgg42 Tryz.sizeOf42 rngCells (fun _ => rfl) kRng.one cmpLo swo_cmpLo 124 #[] g 0 c f.toArray w eg (fun _ _ _ _ x y => rgs_closure x y _) hH hgl (by rw [List.size_toArray]; omega)
    rw [List.size_toArray] at K
    refine Calls.mono K ?_
    rintro e w' ⟨rfl, d, n, os, hpm, hst, rfl⟩
    have hd : d.size = f.length := by have := hpm.1; rwa [List.size_toArray] at this
    have hst2 := pairs_of_sortedIn (lt := ltOf cmpLo) (d := d) (by rw [hd]; exact hst)
    refine ⟨rfl, d.toList, perm_of_permIn (by rw [List.size_toArray]; exact hpm), ?_, h.sorted d hd rfl, (Below.refl _ _).grown (grown_sortK d) hb (fun j hj => by injection hj with hj; subst hj; exact hg)⟩
    unfold SortedL
    exact hst2.imp fun {a b} hab => by rw [← lt_cmpLo]; exact hab
theorem filter_next {l : List Rng} {k : Nat} {r : Rng} (h : l[k]? = some r) : (l.take (k + 1)).filter rightR = (l.take k).filter rightR ++ (match rightR r with | true => [r] | false => []) := by
  rw [List.take_add_one, h, List.filter_append]
  cases hr : rightR r <;> simp [hr]
set_option maxHeartbeats 1000000 in
theorem rgs_byBeginning (A : Option Addr) (c n : Nat) (l : List Rng) (hn : n = l.length) (hnl : n ≤ 100000) (w : World) (hr : kRng.Rd w w.heap.size A c l) :
    Calls Tryz.prog 95 #[.slice A n c] w fun e w' => ∃ m, m.Perm (l.filter rightR) ∧ SortedL m ∧ RetR w m e w' := by
  have HN := Lib.hid hn
  have HR := Lib.hid hr
  have hcx : n ≤ c := by rw [hn]; exact hr.room
  clear hn hr
  go_enter Tryz.func95, Tryz.ntmps95
  go_wp2_with fail
  go_loopw [3, 8] (fun v i wr => ∃ k : Nat, k ≤ n ∧ Hid (kRng.Own wr w.heap.size v ((l.take k).filter rightR)) ∧ i = .int .i64 k ∧ Below w.heap.size w wr) (fun _ i _ => n - (intOf i).toNat)
  case atStart => exact ⟨0, by omega, Kind.Own.nil _ _, rfl, Below.refl _ _⟩
  case round =>
    obtain ⟨k, hk, HO, rfl, hb⟩ := hrel
    have hol : ((l.take k).filter rightR).length ≤ k := Nat.le_trans (List.length_filter_le _ _) (by rw [List.length_take]; omega)
    by_cases hlt : k < n
    · obtain ⟨r, hg, hd, -⟩ := get_some (l := l) (k := k) (by have := HN.out; omega)
      obtain ⟨b, o, rfl, hb1, hcell⟩ := rngs_at (HR.out.below hb) (by have := HN.out; omega)
      obtain ⟨c0, c1, c2⟩ := hcell k r hg
      obtain ⟨d, hdv⟩ : ∃ d, rightR r = d := ⟨_, rfl⟩
      have C := fun w => Lib.hid (span_right r _ _ _ d (IsR.mk' r) hdv w)
      have HF := Lib.hid (filter_next hg)
      rw [hdv] at HF
      have hb2 := Nat.lt_of_lt_of_le hb1 hb.size
      have HRW := fun w => Lib.hid (rng_row w r 1 rfl).row
      have HG := Lib.hid (rgAt_new wr (str r.lo) (str r.hi) r.op 42)
      obtain ⟨X, hX⟩ : ∃ X, [r] = X := ⟨_, rfl⟩
      have HX := Lib.hid hX
      have hX1 : X.length = 1 := by rw [← hX]; rfl
      rw [hX] at HRW
      have HLE := Lib.hid (show ((l.take k).filter rightR).length + X.length ≤ 1000000 by rw [hX1]; omega)
      have HX1 := Lib.hid hX1.symm
      clear hcell hg hd hdv hX hX1
      obtain ⟨S, hS⟩ : ∃ S, str r.lo = S := ⟨_, rfl⟩
      obtain ⟨T, hT⟩ : ∃ T, str r.hi = T := ⟨_, rfl⟩
      obtain ⟨q, hq⟩ : ∃ q, r.op = q := ⟨_, rfl⟩
      rw [hS, hT, hq] at C HG HRW
      rw [hS] at c0
      rw [hT] at c1
      rw [hq] at c2
      clear hS hT hq
      have HB1 := Lib.hid (hb.alloc hb.size (.cells #[.string S, .string T, .bool q] 42))
      have HO1 := Lib.hid (HO.out.alloc (.cells #[.string S, .string T, .bool q] 42))
      cases d
      · go_wp2_with ((with_reducible refine (C _).out.mono ?_); rintro e w2 ⟨rfl, hq⟩; have HB2 := Lib.hid (HB1.out.trans (hq.mono HB1.out.size)); have HO2 := Lib.hid (HO1.out.below hq); clear hq)
        go_roundw
        case rel => exact ⟨k + 1, by omega, by have := HO2.out; rw [← List.append_nil (List.filter _ _), ← HF.out] at this; exact this, by go_num, HB2.out⟩
        case measure => simp [intOf]; omega
      · go_wp2_with (first
          | ((with_reducible refine (C _).out.mono ?_); rintro e w2 ⟨rfl, hq⟩; have HB2 := Lib.hid (HB1.out.trans (hq.mono HB1.out.size)); have HO2 := Lib.hid (HO1.out.below hq); obtain ⟨g0, g1, g2, g3⟩ := HG.out.below hq; clear hq)
          | (at_builtin; refine wpList_app_k kRng rfl (.tmp 14) (.tmp 16) rfl w.heap.size _ _ rfl (Kind.Own.alloc HO2.out _) _ (some ⟨w2.heap.size, 0, none⟩) 1 1 X HX1.out rfl (HRW w2).out HLE.out (by decide) (le_alloc (HB2.out.size) _) ?_; intro v3 w3 hown3 hg3 hb3 _; have HO3 := Lib.hid hown3; have HB3 := Lib.hid ((HB2.out.alloc HB2.out.size _).trans hb3); clear hown3 hb3 hg3))
        go_roundw
        case rel => exact ⟨k + 1, by omega, by have := HO3.out; rw [← HX.out, ← HF.out] at this; exact this, by go_num, HB3.out⟩
        case measure => simp [intOf]; omega
    · have hkn : l.take k = l := List.take_of_length_le (by have := HN.out; omega)
      rw [hkn] at HO hol
      have C := Lib.hid (rgs_sort _ _ _ wr HO.out (by omega) hb.size)
      have HOF := HO
      clear HO hkn
      go_wp2_with ((with_reducible refine C.out.mono ?_); rintro e w2 ⟨rfl, m, hm1, hm2, hm3, hm4⟩; have H1 := Lib.hid hm1; have H2 := Lib.hid hm2; have H3 := Lib.hid hm3; have H4 := Lib.hid (hb.trans hm4); clear hm1 hm2 hm3 hm4)
      go_ret
      obtain ⟨A5, c5, he, hrd⟩ := H3.out.form
      exact ⟨m, H1.out, H2.out, A5, c5, by rw [he]; rfl, hrd, H4.out⟩
end Go.Proofs.YtaodifpnfejbbaaGreat

/-
  Layer 8 (ranges), the program: the right list of some ranges' texts.
-/
namespace Go.Proofs.YtaodifpnfejbbaaGreat
open Go.RowKit

theorem own_last {w : World} {base g n c D : Nat} {dn : List Rng} {p : Rng} (h : kRng.Own w base (.slice (some ⟨g, 0, none⟩) n c) (dn ++ [p])) (hn : n = (dn ++ [p]).length) (hD : dn.length = D) (x : List UInt8) (T : ByteArray) (hT : str x = T) (o q : Bool) (hq : o = q) :
    kRng.Own ((w.setCell ⟨g, D * 3 + 1, none⟩ (.string T)).setCell ⟨g, D * 3 + 2, none⟩ (.bool q)) base (.slice (some ⟨g, 0, none⟩) n c) (dn ++ [⟨p.lo, x, o⟩]) := by
  subst hD hT hq
  have g1 : (dn ++ [p])[dn.length]? = some p := by rw [List.getElem?_append_right (Nat.le_refl _), Nat.sub_self]; rfl
  have h1 := h.stored (j := 1) (y := ⟨p.lo, x, p.op⟩) (v := .string (str x)) hn g1 (by decide) rfl
  rw [show (dn ++ [p]).set dn.length ⟨p.lo, x, p.op⟩ = dn ++ [⟨p.lo, x, p.op⟩] from by simp] at h1
  have g2 : (dn ++ [(⟨p.lo, x, p.op⟩ : Rng)])[dn.length]? = some ⟨p.lo, x, p.op⟩ := by rw [List.getElem?_append_right (Nat.le_refl _), Nat.sub_self]; rfl
  have h2 := h1.stored (j := 2) (y := ⟨p.lo, x, o⟩) (v := .bool o) (by rw [hn]; simp) g2 (by decide) rfl
  rw [show (dn ++ [(⟨p.lo, x, p.op⟩ : Rng)]).set dn.length ⟨p.lo, x, o⟩ = dn ++ [⟨p.lo, x, o⟩] from by simp] at h2
  exact h2
/-- The one that was begun last is right, and begins not behind those to come. -/
def LastOk (o : Option Rng) (l : List Rng) : Prop := ∀ p, o = some p → rightR p = true ∧ ∀ t ∈ l, ltB t.lo p.lo = false
theorem LastOk.none (l : List Rng) : LastOk .none l := fun p h => by cases h
theorem LastOk.new {r : Rng} {l : List Rng} (hr : rightR r = true) (hs : SortedL (r :: l)) : LastOk (some r) l := fun p h => by
  injection h with h; subst h
  exact ⟨hr, (List.pairwise_cons.1 hs).1⟩
theorem LastOk.stay {p r : Rng} {l : List Rng} (h : LastOk (some p) (r :: l)) : LastOk (some p) l := fun p' h' => by
  obtain ⟨h1, h2⟩ := h p' h'
  exact ⟨h1, fun t ht => h2 t (List.mem_cons_of_mem _ ht)⟩
theorem LastOk.more {p r : Rng} {l : List Rng} (h : LastOk (some p) (r :: l)) (hr : rightR r = true) : LastOk (some ⟨p.lo, r.hi, r.op⟩) l := fun p' h' => by
  injection h' with h'; subst h'
  obtain ⟨h1, h2⟩ := h p rfl
  exact ⟨more_right h1 hr (h2 r (List.mem_cons_self ..)), fun t ht => h2 t (List.mem_cons_of_mem _ ht)⟩
theorem SortedL.from {l : List Rng} (h : SortedL l) (k : Nat) : SortedL (l.drop k) := List.Pairwise.sublist (List.drop_sublist k l) h
theorem ends_test {p r : Rng} (hp : rightR p = true) (hr : rightR r = true) : ∃ v : Int, endsR p r = v ∧ decide (v < 0) = endLt p r := by
  refine ⟨_, rfl, ?_⟩
  cases h : endLt p r with
  | true => rw [endsR_lt hp hr h]; rfl
  | false => cases h' : endLt r p with
    | true => rw [endsR_gt hp hr h']; rfl
    | false => rw [endsR_eq h h']; rfl
/-- What is handed back: a row of ranges of the call's own. -/
def RetO (w : World) (l : List Rng) (e : Ending) (w' : World) : Prop := ∃ v, e = .returned v ∧ kRng.Own w' w.heap.size v l ∧ Below w.heap.size w w'
set_option maxHeartbeats 4000000 in
theorem rgs_of_own (A : Option Addr) (c n : Nat) (l : List Rng) (hn : n = l.length) (hnl : n ≤ 1000) (w : World) (hr : kRng.Rd w w.heap.size A c l) :
    Calls Tryz.prog 58 #[.slice A n c] w (RetO w (normV l)) := by
  have B0 := Lib.hid (rgs_byBeginning A c n l hn (by omega) w hr)
  have HN := Lib.hid hn
  clear hn hr
  go_enter Tryz.func58, Tryz.ntmps58
  go_wp2_with ((with_reducible refine B0.out.mono ?_); rintro e w1 ⟨m, hm1, hm2, A1, c1, rfl, hrd, hq⟩; have HM := Lib.hid (mergeL_norm hm1 hm2); have HR := Lib.hid hrd; have HB0 := Lib.hid hq; have HSS := Lib.hid hm2; have HRT := Lib.hid (show ∀ r ∈ m, rightR r = true from fun r hr => (List.mem_filter.1 (hm1.mem_iff.1 hr)).2); have hml := Nat.le_trans (Nat.le_of_eq hm1.length_eq) (List.length_filter_le _ _); clear hm1 hm2 hrd hq)
  obtain ⟨N, hN⟩ : ∃ N, m.length = N := ⟨_, rfl⟩
  rw [hN]
  have hNl : N ≤ 1000 := by have := HN.out; omega
  have HNM := Lib.hid hN
  have hcx : N ≤ c1 := by rw [← hN]; exact HR.out.room
  clear hN hml B0
  go_loopw [3, 10] (fun v i wr => ∃ (k : Nat) (dn : List Rng) (o : Option Rng), k ≤ N ∧ Hid (mergeL none m = dn ++ mergeL o (m.drop k)) ∧ Hid (kRng.Own wr w1.heap.size v (dn ++ o.toList)) ∧ Hid (o = none → dn = []) ∧ Hid (LastOk o (m.drop k)) ∧ (dn ++ o.toList).length ≤ k ∧ i = .int .i64 k ∧ Below w1.heap.size w1 wr) (fun _ i _ => N - (intOf i).toNat)
  case atStart => exact ⟨0, [], none, by omega, rfl, Kind.Own.nil _ _, fun _ => rfl, LastOk.none _, by simp, rfl, Below.refl _ _⟩
  case round =>
    obtain ⟨k, dn, o, hk, HL, HO, HE, HP, hol, rfl, hb⟩ := hrel
    by_cases hlt : k < N
    · obtain ⟨r, hg, hd, hrm⟩ := get_some (l := m) (k := k) (by have := HNM.out; omega)
      obtain ⟨b, o1, rfl, hb1, hcell⟩ := rngs_at (HR.out.below hb) (by have := HNM.out; omega)
      obtain ⟨c0, c1, c2⟩ := hcell k r hg
      have hrr := HRT.out r hrm
      have HN1 := Lib.hid (LastOk.new hrr (by rw [← hd]; exact HSS.out.from k))
      have hbl := Nat.lt_of_lt_of_le hb1 hb.size
      have HRW := fun w => Lib.hid (rng_row w r 1 rfl).row
      have HG := Lib.hid (rgAt_new wr (str r.lo) (str r.hi) r.op 42)
      obtain ⟨S, hS⟩ : ∃ S, str r.lo = S := ⟨_, rfl⟩
      obtain ⟨T, hT⟩ : ∃ T, str r.hi = T := ⟨_, rfl⟩
      obtain ⟨q, hq⟩ : ∃ q, r.op = q := ⟨_, rfl⟩
      rw [hS, hT, hq] at HG HRW
      rw [hS] at c0
      rw [hT] at c1
      rw [hq] at c2
      have HB1 := Lib.hid (hb.alloc hb.size (.cells #[.string S, .string T, .bool q] 42))
      have HO1 := Lib.hid (HO.out.alloc (.cells #[.string S, .string T, .bool q] 42))
      obtain ⟨WB, hWB⟩ : ∃ WB, wr.alloc (.cells #[.string S, .string T, .bool q] 42) = WB := ⟨_, rfl⟩
      cases o with
      | none =>
        have HL2 := Lib.hid (HL.out.trans (show dn ++ mergeL none (m.drop k) = dn ++ mergeL (some r) (m.drop (k + 1)) by rw [hd]; rfl))
        obtain rfl := HE.out rfl
        obtain ⟨A0, cp0, rfl, -⟩ := HO.out.read_n (n := 0) rfl
        have HC := Lib.hid (show CellL WB [(⟨wr.heap.size, 0, none⟩, .string S), (⟨wr.heap.size, 1, none⟩, .string T), (⟨wr.heap.size, 2, none⟩, .bool q)] WB from by rw [hWB] at HG; exact ⟨HG.out.1, HG.out.2.1, HG.out.2.2.1, Below.refl _ _⟩)
        rw [hWB] at HO1 HB1
        clear hcell hg hd hrm hrr hS hT hq HG HL HE HO
        have HW := Lib.hid hWB
        go_wp2_with fail
        clear c0 c1 c2
        clear hWB
        refine q_region (CellL WB [(⟨wr.heap.size, 0, none⟩, .string S), (⟨wr.heap.size, 1, none⟩, .string T), (⟨wr.heap.size, 2, none⟩, .bool q)]) (by kernel_rfl) (by kernel_rfl) (cellL_drew HC.out) ?_
        repeat (first
          | go_big_quiet_skip
          | (go_big_quiet_want; (first
            | (refine q_take (v := ?_) ?_ ?_; rotate_left; (focus (intro w hSw; (try simp only [CellL] at hSw); go_split_ands; go_simp; (try (rw [if_neg (by omega)])); (try with_reducible rfl); done)))); (try simp only [Act.put, List.setIfInBounds_toArray, List.set_cons_zero, List.set_cons_succ]); go_big_quiet_on))
        refine wpQuiet_nil ?_
        intro w2 hw2
        have HB2 := Lib.hid (HB1.out.trans ((cellL_size hw2).mono HB1.out.size))
        have HO2 := Lib.hid (HO1.out.below (cellL_size hw2))
        simp only [CellL] at hw2
        obtain ⟨g0, g1, g2, -⟩ := hw2
        go_wp2_with (at_builtin; refine wpList_app_k kRng rfl (.tmp 27) (.tmp 29) rfl w1.heap.size _ _ rfl (Kind.Own.alloc HO2.out _) _ (some ⟨w2.heap.size, 0, none⟩) 1 1 [r] rfl rfl (HRW w2).out (by simp) (by decide) (le_alloc (HB2.out.size) _) ?_; intro v3 w3 hown3 hg3 hb3 _; have HO3 := Lib.hid hown3; have HB3 := Lib.hid ((HB2.out.alloc HB2.out.size _).trans hb3); clear hown3 hb3 hg3)
        go_roundw
        case rel => exact ⟨k + 1, [], some r, by omega, HL2, HO3.out, (fun h => by cases h), HN1.out, by simp, by go_num, HB3.out⟩
        case measure => simp [intOf]; omega
      | some p =>
        obtain ⟨D, hD⟩ : ∃ D, dn.length = D := ⟨_, rfl⟩
        have hLn : D + 1 = (dn ++ [p]).length := by rw [List.length_append, hD]; rfl
        have hD9 : D ≤ 1000 := by have h := hol; rw [show (some p).toList = [p] from rfl, ← hLn] at h; omega
        obtain ⟨g, cp, rfl, hcp, hgb, -, -, -⟩ := HO.out.some_ hLn (by omega)
        have hga : (dn ++ [p])[D]? = some p := by rw [← hD, List.getElem?_append_right (Nat.le_refl _), Nat.sub_self]; rfl
        have HP1 := Lib.hid (show LastOk (some p) (r :: m.drop (k + 1)) from by rw [← hd]; exact HP.out)
        have hpr := (HP.out p rfl).1
        obtain ⟨x, hx⟩ : ∃ x, gapR p r = x := ⟨_, rfl⟩
        have CA := fun w => (rg_apart p r _ _ S T _ q x (IsR.mk' p) ⟨hS, hT, hq⟩ hx w)
        have CA := Lib.hid (fun L => cellL_of (a := WB) (l := L) CA)
        obtain ⟨ev, hev, het⟩ := ends_test hpr hrr
        have CE := fun w => (span_ends p r _ _ S T _ q (IsR.mk' p) ⟨hS, hT, hq⟩ ev hev w)
        have CE := Lib.hid (fun L => cellL_of (a := WB) (l := L) CE)
        have HLP := Lib.hid (HL.out.trans (by rw [hd]))
        have HX1 := Lib.hid (fun h : x = true => mergeL_gap (l := m.drop (k + 1)) (hx.trans h))
        obtain ⟨y, hy⟩ : ∃ y, endLt p r = y := ⟨_, rfl⟩
        rw [hy] at het
        have HX2 := Lib.hid (fun h : x = false => mergeL_last (l := m.drop (k + 1)) (hx.trans h))
        have HY := Lib.hid hy
        have HTT := Lib.hid hT
        have HQQ := Lib.hid hq
        rw [hWB] at HO1 HB1 HG
        have HGA := Lib.hid hga
        have HLN := Lib.hid hLn
        have HDD := Lib.hid hD
        have HRR := Lib.hid hrr
        obtain ⟨U, hU⟩ : ∃ U, str p.lo = U := ⟨_, rfl⟩
        obtain ⟨V, hV⟩ : ∃ V, str p.hi = V := ⟨_, rfl⟩
        obtain ⟨pm, hpm⟩ : ∃ pm, p.op = pm := ⟨_, rfl⟩
        obtain ⟨-, hgl, hfz, hcs⟩ := HO1.out.at_g hLn (by omega)
        have e0 := hcs D p hga 0 _ rfl
        have e1 := hcs D p hga 1 _ rfl
        have e2 := hcs D p hga 2 _ rfl
        change WB.cell? ⟨g, D * 3 + 0, none⟩ = some (.string (str p.lo)) at e0
        change WB.cell? ⟨g, D * 3 + 1, none⟩ = some (.string (str p.hi)) at e1
        change WB.cell? ⟨g, D * 3 + 2, none⟩ = some (.bool p.op) at e2
        rw [Nat.add_zero] at e0
        rw [hU, hV, hpm] at CA CE
        rw [hU] at e0
        rw [hV] at e1
        rw [hpm] at e2
        have HC := Lib.hid (show CellL WB [(⟨wr.heap.size, 0, none⟩, .string S), (⟨wr.heap.size, 1, none⟩, .string T), (⟨wr.heap.size, 2, none⟩, .bool q), (⟨g, D * 3, none⟩, .string U), (⟨g, D * 3 + 1, none⟩, .string V), (⟨g, D * 3 + 2, none⟩, .bool pm)] WB from ⟨HG.out.1, HG.out.2.1, HG.out.2.2.1, e0, e1, e2, Below.refl _ _⟩)
        have hj0 : (0 : Int) ≤ (D : Int) := by omega
        have hjn : (D : Int) < (D : Int) + 1 := by omega
        have hjd : decide ((D : Int) < 0) = false := decide_eq_false (by omega)
        have hjw : IntKind.i64.wrap ((D : Int) + 1 - 1) = (D : Int) := by rw [Int.add_sub_cancel]; exact IntWalk.i64_in _ (by omega)
        have hjw2 : IntKind.i64.wrap (D : Int) = (D : Int) := IntWalk.i64_in _ (by omega)
        clear hcell hg hd hrm hrr hpr hS hT hq HG HL HE HO HP hLn hga hD hx hy hev hU hV hpm hgl hfz hcs e0 e1 e2
        have HET := Lib.hid het
        clear het
        go_wp2_with fail
        clear c0 c1 c2 hWB
        cases x
        case true =>
          have HL2 := Lib.hid (HLP.out.trans (show dn ++ mergeL (some p) (r :: m.drop (k + 1)) = (dn ++ [p]) ++ mergeL (some r) (m.drop (k + 1)) by rw [HX1.out rfl, List.append_assoc]; rfl))
          clear HX1 HX2 HET HY CE
          refine q_region (CellL WB [(⟨wr.heap.size, 0, none⟩, .string S), (⟨wr.heap.size, 1, none⟩, .string T), (⟨wr.heap.size, 2, none⟩, .bool q), (⟨g, D * 3, none⟩, .string U), (⟨g, D * 3 + 1, none⟩, .string V), (⟨g, D * 3 + 2, none⟩, .bool pm)]) (by kernel_rfl) (by kernel_rfl) (cellL_drew HC.out) ?_
          repeat (first
            | go_big_quiet_skip
            | (go_big_quiet_want; (first
              | (refine q_take (v := ?_) ?_ ?_; rotate_left; (focus (intro w hSw; (try simp only [CellL] at hSw); go_split_ands; go_simp; (try (rw [if_neg (by omega)])); (try with_reducible rfl); done)))
              | (refine q_call (CA.out _) ?_ ?_; (focus (intro w hSw; (try simp only [CellL] at hSw); go_split_ands; go_simp; (try (rw [if_neg (by omega)])); done)))); (try simp only [Act.put, List.setIfInBounds_toArray, List.set_cons_zero, List.set_cons_succ]); go_big_quiet_on))
          refine wpQuiet_nil ?_
          intro w2 hw2
          have HB2 := Lib.hid (HB1.out.trans ((cellL_size hw2).mono HB1.out.size))
          have HO2 := Lib.hid (HO1.out.below (cellL_size hw2))
          simp only [CellL] at hw2
          obtain ⟨g0, g1, g2, -⟩ := hw2
          have HLE := Lib.hid (show (dn ++ [p]).length + [r].length ≤ 1000000 by rw [← HLN.out, List.length_singleton]; omega)
          go_wp2_with (at_builtin; refine wpList_app_k kRng rfl (.tmp 27) (.tmp 29) rfl w1.heap.size _ _ rfl (Kind.Own.alloc HO2.out _) _ (some ⟨w2.heap.size, 0, none⟩) 1 1 [r] rfl rfl (HRW w2).out HLE.out (by decide) (le_alloc (HB2.out.size) _) ?_; intro v3 w3 hown3 hg3 hb3 _; have HO3 := Lib.hid hown3; have HB3 := Lib.hid ((HB2.out.alloc HB2.out.size _).trans hb3); clear hown3 hb3 hg3)
          go_roundw
          case rel => exact ⟨k + 1, dn ++ [p], some r, by omega, HL2, HO3.out, (fun h => by cases h), HN1.out, by have h1 := HLN.out; rw [List.length_append, ← h1]; have h2 := hol; rw [show (some p).toList = [p] from rfl, ← h1] at h2; show D + 1 + 1 ≤ k + 1; omega, by go_num, HB3.out⟩
          case measure => simp [intOf]; omega
        case false =>
          have HLL := Lib.hid (HLP.out.trans (by rw [HX2.out rfl]))
          clear HX1 HX2
          refine q_region (CellL WB [(⟨wr.heap.size, 0, none⟩, .string S), (⟨wr.heap.size, 1, none⟩, .string T), (⟨wr.heap.size, 2, none⟩, .bool q), (⟨g, D * 3, none⟩, .string U), (⟨g, D * 3 + 1, none⟩, .string V), (⟨g, D * 3 + 2, none⟩, .bool pm)]) (by kernel_rfl) (by kernel_rfl) (cellL_drew HC.out) ?_
          repeat (first
            | go_big_quiet_skip
            | (go_big_quiet_want; (first
              | (refine q_take (v := ?_) ?_ ?_; rotate_left; (focus (intro w hSw; (try simp only [CellL] at hSw); go_split_ands; go_simp; (try (rw [if_neg (by omega)])); (try with_reducible rfl); done)))
              | (refine q_call (CA.out _) ?_ ?_; (focus (intro w hSw; (try simp only [CellL] at hSw); go_split_ands; go_simp; (try (rw [if_neg (by omega)])); done)))); (try simp only [Act.put, List.setIfInBounds_toArray, List.set_cons_zero, List.set_cons_succ]); go_big_quiet_on))
          refine wpQuiet_nil ?_
          intro w2 hw2
          have HW2 := Lib.hid hw2
          clear hw2
          go_wp2_with fail
          have het := HET.out
          refine q_region (CellL WB [(⟨wr.heap.size, 0, none⟩, .string S), (⟨wr.heap.size, 1, none⟩, .string T), (⟨wr.heap.size, 2, none⟩, .bool q), (⟨g, D * 3, none⟩, .string U), (⟨g, D * 3 + 1, none⟩, .string V), (⟨g, D * 3 + 2, none⟩, .bool pm)]) (by kernel_rfl) (by kernel_rfl) (cellL_drew HW2.out) ?_
          repeat (first
            | go_big_quiet_skip
            | (go_big_quiet_want; (first
              | (refine q_take (v := ?_) ?_ ?_; rotate_left; (focus (intro w hSw; (try simp only [CellL] at hSw); go_split_ands; go_simp; (try (rw [if_neg (by omega)])); (try with_reducible rfl); done)))
              | (refine q_call (CE.out _) ?_ ?_; (focus (intro w hSw; (try simp only [CellL] at hSw); go_split_ands; go_simp; (try (rw [if_neg (by omega)])); done)))); (try simp only [Act.put, List.setIfInBounds_toArray, List.set_cons_zero, List.set_cons_succ]); go_big_quiet_on))
          refine wpQuiet_nil ?_
          intro w3 hw3
          have HB3 := Lib.hid (HB1.out.trans ((cellL_size hw3).mono HB1.out.size))
          have HO3 := Lib.hid (HO1.out.below (cellL_size hw3))
          simp only [CellL] at hw3
          obtain ⟨g0, g1, g2, e0, e1, e2, -⟩ := hw3
          cases y
          · have HL2 := Lib.hid (HLL.out.trans (by rw [show lastR p r = p from by unfold lastR; rw [HY.out]]))
            go_wp2_with fail
            go_roundw
            case rel => exact ⟨k + 1, dn, some p, by omega, HL2, HO3.out, (fun h => by cases h), HP1.out.stay, by omega, by go_num, HB3.out⟩
            case measure => simp [intOf]; omega
          · have HL2 := Lib.hid (HLL.out.trans (by rw [show lastR p r = ⟨p.lo, r.hi, r.op⟩ from by unfold lastR; rw [HY.out]]))
            obtain ⟨hg1, hgl, hfz, -⟩ := HO3.out.at_g HLN.out (by omega)
            have HOF := Lib.hid (own_last HO3.out HLN.out HDD.out r.hi T HTT.out r.op q HQQ.out)
            have HBF := Lib.hid ((HB3.out.setCell (p := ⟨g, D * 3 + 1, none⟩) hg1 (.string T)).setCell (p := ⟨g, D * 3 + 2, none⟩) hg1 (.bool q))
            go_wp2_with fail
            go_region
            go_wp2_with fail
            go_roundw
            case rel => exact ⟨k + 1, dn, some ⟨p.lo, r.hi, r.op⟩, by omega, HL2, HOF.out, (fun h => by cases h), HP1.out.more HRR.out, by have h2 := hol; simp at h2 ⊢; omega, by go_num, HBF.out.drew⟩
            case measure => simp [intOf]; omega
    · have HL2 := Lib.hid (HL.out.trans (show dn ++ mergeL o (m.drop k) = dn ++ o.toList by rw [List.drop_eq_nil_of_le (by have := HNM.out; omega)]; cases o <;> rfl))
      go_wp2_with fail
      go_ret
      have e := HM.out.symm.trans HL2.out
      refine ⟨_, rfl, ?_, HB0.out.trans (hb.mono HB0.out.size)⟩
      rw [e]
      exact HO.out.mono HB0.out.size
theorem rgs_of (A : Option Addr) (c n : Nat) (l : List Rng) (hn : n = l.length) (hnl : n ≤ 1000) (w : World) (hr : kRng.Rd w w.heap.size A c l) :
    Calls Tryz.prog 58 #[.slice A n c] w (RetR w (normV l)) := (rgs_of_own A c n l hn hnl w hr).mono fun _ _ ⟨v, he, ho, hb⟩ => by
  obtain ⟨A5, c5, rfl, hrd⟩ := ho.form
  exact ⟨A5, c5, he, hrd, hb⟩
theorem makeV_len1 (l : List Rng) : (normV l).length ≤ 2 * l.length + 2 := by
  have h1 := mkR_len (inV 1 l []) (edgesL (l ++ [])) none
  have h2 := edgesL_len (l ++ [])
  rw [List.append_nil] at h1 h2
  unfold normV makeV
  rw [List.append_nil]
  omega
end Go.Proofs.YtaodifpnfejbbaaGreat

/-
  Layer 8 (ranges), the program: a list that is not swept yet.
-/
namespace Go.Proofs.YtaodifpnfejbbaaGreat
open Go.RowKit

/-- While a list's edges are gathered: s in the second block of the call, what is handed back in the first one, the list's row as it was. -/
structure BegAt (w w1 : World) (g1 : Nat) (W : World) (v : Value) (L : List (List UInt8)) : Prop where
  s0 : W.cell? ⟨w.heap.size + 1, 0, none⟩ = some (.bool false)
  s1 : W.cell? ⟨w.heap.size + 1, 1, none⟩ = some v
  sf : ∀ j, W.frozen? ⟨w.heap.size + 1, j, none⟩ = false
  r0 : W.cell? ⟨w.heap.size, 0, none⟩ = some (.bool false)
  r1 : W.cell? ⟨w.heap.size, 1, none⟩ = some (.slice none 0 0)
  rf : ∀ j, W.frozen? ⟨w.heap.size, j, none⟩ = false
  own : kStr.Own W w1.heap.size v L
  same : ∀ j, W.cell? ⟨g1, j, none⟩ = w1.cell? ⟨g1, j, none⟩
  below : Below w.heap.size w W
  size : w1.heap.size ≤ W.heap.size
theorem BegAt.alloc {w w1 W : World} {g1 : Nat} {v : Value} {L : List (List UInt8)} (h : BegAt w w1 g1 W v L) (h2 : w.heap.size + 2 ≤ w1.heap.size) (h3 : g1 < w1.heap.size) (x : Obj) : BegAt w w1 g1 (W.alloc x) v L := by
  have hz := h.size
  obtain ⟨kc, kf⟩ := bcell (below_new W x)
  exact ⟨(kc _ _ (by omega)).trans h.s0, (kc _ _ (by omega)).trans h.s1, fun j => (kf _ _ (by omega)).trans (h.sf j), (kc _ _ (by omega)).trans h.r0, (kc _ _ (by omega)).trans h.r1, fun j => (kf _ _ (by omega)).trans (h.rf j), h.own.alloc x, fun j => (kc _ _ (by omega)).trans (h.same j), h.below.alloc h.below.size x, le_alloc hz x⟩
theorem BegAt.app {w w1 W W' : World} {g1 : Nat} {v v' : Value} {L L' : List (List UInt8)} (h : BegAt w w1 g1 W v L) (h2 : w.heap.size + 2 ≤ w1.heap.size) (h3 : g1 < w1.heap.size) (h4 : g1 ≠ w.heap.size + 1) (ho : kStr.Own W' w1.heap.size v' L') (hb : Below w1.heap.size W W') :
    BegAt w w1 g1 (W'.setCell ⟨w.heap.size + 1, 1, none⟩ v') v' L' := by
  obtain ⟨kc, kf⟩ := bcell hb
  have fr : ∀ p, (W'.setCell ⟨w.heap.size + 1, 1, none⟩ v').frozen? p = W'.frozen? p := fun p => by rw [World.frozen?_setCell]
  refine ⟨set_other ((kc _ _ (by omega)).trans h.s0) (addr_off (by decide)) _, set_same ((kc _ _ (by omega)).trans h.s1) _, fun j => (fr _).trans ((kf _ _ (by omega)).trans (h.sf j)), set_other ((kc _ _ (by omega)).trans h.r0) (addr_block (by omega)) _, set_other ((kc _ _ (by omega)).trans h.r1) (addr_block (by omega)) _,
    fun j => (fr _).trans ((kf _ _ (by omega)).trans (h.rf j)), ho.other (grownBy_set _ _ _ _) (by omega), fun j => (World.cell?_setCell_other _ _ _ _ (addr_block (Ne.symm h4))).trans ((kc _ _ h3).trans (h.same j)), ?_, ?_⟩
  · exact (h.below.trans (hb.mono (by omega))).setCell (p := ⟨w.heap.size + 1, 1, none⟩) (Nat.le_succ _) _
  · have h5 := hb.size
    have h6 := h.size
    have : (W'.setCell ⟨w.heap.size + 1, 1, none⟩ v').heap.size = W'.heap.size := by simp
    omega
theorem edgesR_next {m : List Rng} {k : Nat} {r : Rng} (h : m[k]? = some r) : edgesR (m.take (k + 1)) = edgesR (m.take k) ++ (match r.op with | true => [r.lo] | false => [r.lo, r.hi]) := by
  have e : edgesR [r] = (match r.op with | true => [r.lo] | false => [r.lo, r.hi]) := by cases ho : r.op <;> simp [edgesR, ho]
  rw [List.take_add_one, h, edgesR_append]
  exact congrArg _ e
theorem row_new1 (w : World) (x : Obj) (s : List UInt8) (S : ByteArray) (hS : str s = S) : RowAt ((w.alloc x).alloc (.cells #[.string S] 9)) (w.heap.size + 1 + 1) (some ⟨w.heap.size + 1, 0, none⟩) (kStr.row [s]) := by
  subst hS
  have := (Kind.rd_new (k := kStr) (w := w.alloc x) (cs := #[.string (str s)]) (l := [s]) (t := 9) (n := 1) rfl rfl (by simp)).row
  rwa [size1] at this
theorem row_newS (w : World) (p : Addr) (v : Value) (s : List UInt8) (S : ByteArray) (hS : str s = S) : RowAt ((w.setCell p v).alloc (.cells #[.string S] 9)) (w.heap.size + 1) (some ⟨w.heap.size, 0, none⟩) (kStr.row [s]) := by
  subst hS
  have := (Kind.rd_new (k := kStr) (w := w.setCell p v) (cs := #[.string (str s)]) (l := [s]) (t := 9) (n := 1) rfl rfl (by simp)).row
  rwa [show (w.setCell p v).heap.size = w.heap.size from by simp] at this
set_option maxHeartbeats 4000000 in
theorem rgs_begin (A : Option Addr) (c n : Nat) (l : List Rng) (hn : n = l.length) (hnl : n ≤ 1000) (w : World) (hr : kRng.Rd w w.heap.size A c l) :
    Calls Tryz.prog 107 #[.slice A n c] w fun e w' => ∃ A' c', e = .returned (.agg #[.bool false, .slice A' (edgesR (normV l)).length c']) ∧ kStr.Rd w' w'.heap.size A' c' (edgesR (normV l)) ∧ Below w.heap.size w w' := by
  have hml := makeV_len1 l
  have C := fun W (h : Below w.heap.size w W) => Lib.hid (rgs_of_own A c n l hn hnl W (hr.call h))
  have HB0 := Lib.hid (((Below.refl w.heap.size w).alloc (Nat.le_refl _) (.cells #[.bool false, .slice none 0 0] 121)).alloc (by simp) (.cells #[.bool false, .slice none 0 0] 121))
  have HN := Lib.hid hn
  clear hn hr
  go_enter Tryz.func107, Tryz.ntmps107
  go_wp2_with ((with_reducible refine (C _ HB0.out).out.mono ?_); rintro e w1 ⟨v1, rfl, ho, hq⟩; have HO := Lib.hid ho; have HQ := Lib.hid hq; obtain ⟨A1, c1, rfl, hrd⟩ := ho.form; have HR := Lib.hid hrd; clear ho hq hrd)
  obtain ⟨N, hN⟩ : ∃ N, (normV l).length = N := ⟨_, rfl⟩
  obtain ⟨M, hM⟩ : ∃ M, normV l = M := ⟨_, rfl⟩
  rw [hN] at HO hml ⊢
  rw [hM] at HO HR hN
  have HMM := Lib.hid hM
  have hN9 : N ≤ 2002 := by have := HN.out; omega
  have HNM := Lib.hid hN
  have hcx : N ≤ c1 := by rw [← hN]; exact HR.out.room
  have hz2 : w.heap.size + 2 ≤ w1.heap.size := by have := HQ.out.size; simp at this; omega
  have H0 : ∃ g1, g1 < w1.heap.size ∧ g1 ≠ w.heap.size + 1 ∧ (0 < N → A1 = some ⟨g1, 0, none⟩ ∧ ∀ k r, M[k]? = some r → w1.cell? ⟨g1, k * 3, none⟩ = some (.string (str r.lo)) ∧ w1.cell? ⟨g1, k * 3 + 1, none⟩ = some (.string (str r.hi)) ∧ w1.cell? ⟨g1, k * 3 + 2, none⟩ = some (.bool r.op)) := by
    by_cases hp : 0 < N
    · obtain ⟨g, cp, hv, -, h1, h2, -, h4⟩ := HO.out.some_ hN.symm hp
      injection hv with hA
      refine ⟨g, h2, ?_, fun _ => ⟨hA, fun k r hr => ⟨h4 k r hr 0 _ rfl, h4 k r hr 1 _ rfl, h4 k r hr 2 _ rfl⟩⟩⟩
      simp at h1; omega
    · exact ⟨w.heap.size, by omega, by omega, fun h => absurd h hp⟩
  obtain ⟨g1, hg1, hg2, H0⟩ := H0
  have H0 := Lib.hid H0
  have HS : Hid (BegAt w w1 g1 w1 (.slice none 0 0) []) := by
    obtain ⟨kc, kf⟩ := bcell HQ.out
    have q0 := fun j => kc w.heap.size j (by simp; omega)
    have q1 := fun j => kc (w.heap.size + 1) j (by simp)
    have f0 := fun j => kf w.heap.size j (by simp; omega)
    have f1 := fun j => kf (w.heap.size + 1) j (by simp)
    have hh0 : ((w.alloc (.cells #[.bool false, .slice none 0 0] 121)).alloc (.cells #[.bool false, .slice none 0 0] 121)).heap[w.heap.size]? = some (.cells #[.bool false, .slice none 0 0] 121 (0, 0)) := heap_old _ (heap_new w _ _ rfl)
    have hh1 : ((w.alloc (.cells #[.bool false, .slice none 0 0] 121)).alloc (.cells #[.bool false, .slice none 0 0] 121)).heap[w.heap.size + 1]? = some (.cells #[.bool false, .slice none 0 0] 121 (0, 0)) := by
      have := heap_new (w.alloc (.cells #[.bool false, .slice none 0 0] 121)) (.cells #[.bool false, .slice none 0 0] 121) _ rfl
      rwa [size1] at this
    refine ⟨(q1 0).trans ?_, (q1 1).trans ?_, fun j => (f1 j).trans ?_, (q0 0).trans ?_, (q0 1).trans ?_, fun j => (f0 j).trans ?_, Kind.Own.nil _ _, fun _ => rfl, HB0.out.trans (HQ.out.mono (by simp; omega)), Nat.le_refl _⟩
    · rw [cell_of_row _ _ _ _ _ _ hh1]; rfl
    · rw [cell_of_row _ _ _ _ _ _ hh1]; rfl
    · unfold World.frozen?; rw [hh1]; simp
    · rw [cell_of_row _ _ _ _ _ _ hh0]; rfl
    · rw [cell_of_row _ _ _ _ _ _ hh0]; rfl
    · unfold World.frozen?; rw [hh0]; simp
  clear hN hml hM C HB0 HQ HO HR
  go_loopw [9] (fun i wr => ∃ (k : Nat) (v : Value), k ≤ N ∧ Hid (BegAt w w1 g1 wr v (edgesR (M.take k))) ∧ i = .int .i64 k) (fun i _ => N - (intOf i).toNat)
  case atStart => exact ⟨0, _, by omega, HS, rfl⟩
  case round =>
    obtain ⟨k, v, hk, HB, rfl⟩ := hrel
    by_cases hlt : k < N
    · obtain ⟨r, hg, hd, -⟩ := get_some (l := M) (k := k) (by have := HNM.out; omega)
      obtain ⟨rfl, hcell⟩ := H0.out (by omega)
      obtain ⟨c0, c1, c2⟩ := hcell k r hg
      rw [← HB.out.same] at c0 c1 c2
      have HX := Lib.hid (edgesR_next hg)
      have HLK := Lib.hid (show (edgesR (M.take k)).length ≤ 10000 by have := edgesR_len (M.take k); rw [List.length_take] at this; omega)
      obtain ⟨S, hS⟩ : ∃ S, str r.lo = S := ⟨_, rfl⟩
      obtain ⟨T, hT⟩ : ∃ T, str r.hi = T := ⟨_, rfl⟩
      obtain ⟨q, hq⟩ : ∃ q, r.op = q := ⟨_, rfl⟩
      have HG := Lib.hid (rgAt_new wr S T q 42)
      have HB1 := Lib.hid (HB.out.alloc hz2 hg1 (.cells #[.string S, .string T, .bool q] 42))
      have HLT := Lib.hid (show some wr.heap.size ≠ v.ownBlock from fun hv => Nat.lt_irrefl _ (HB.out.own.lt _ hv.symm).2)
      have HR1 := Lib.hid (row_new1 wr (.cells #[.string S, .string T, .bool q] 42) r.lo S hS)
      have HR2 := fun w0 p0 v0 => Lib.hid (row_newS w0 p0 v0 r.hi T hT)
      obtain ⟨N1, hN1⟩ : ∃ N1, (edgesR (M.take k) ++ [r.lo]).length = N1 := ⟨_, rfl⟩
      obtain ⟨N2, hN2⟩ : ∃ N2, (edgesR (M.take k) ++ [r.lo] ++ [r.hi]).length = N2 := ⟨_, rfl⟩
      have HN1 := Lib.hid hN1.symm
      have HN2 := Lib.hid hN2.symm
      clear hN1 hN2
      rw [hq] at HX
      rw [hS] at c0
      rw [hT] at c1
      rw [hq] at c2
      have HLE1 := Lib.hid (show (edgesR (M.take k)).length + [r.lo].length ≤ 1000000 by have := HLK.out; rw [List.length_singleton]; omega)
      have HLE2 := Lib.hid (show (edgesR (M.take k) ++ [r.lo]).length + [r.hi].length ≤ 1000000 by have := HLK.out; rw [List.length_append, List.length_singleton, List.length_singleton]; omega)
      have hl3 : w.heap.size + 1 < w1.heap.size := by omega
      have hgr : wr.heap.size ≠ w.heap.size + 1 := by have := HB.out.size; omega
      have HSZ := Lib.hid HB1.out.size
      obtain ⟨s0, s1, sf, -, -, -, -, -, -, -⟩ := HB1.out
      obtain ⟨g0, g1', g2, g3⟩ := HG.out
      clear hcell hg hd hS hT hq HB
      have HLL := Lib.hid hl3
      have HGR := Lib.hid hgr
      clear hl3 hgr
      cases q
      · go_wp2_with (first
          | (at_builtin; refine wpList_app_k kStr rfl (.tmp 14) (.tmp 17) rfl w1.heap.size _ _ rfl (Kind.Own.alloc HB1.out.own _) _ (some ⟨wr.heap.size + 1, 0, none⟩) 1 1 [r.lo] rfl rfl HR1.out HLE1.out (by decide) (le_alloc HSZ.out _) ?_; intro v3 w3 hown3 hg3 hb3 _; obtain ⟨A3, c3, rfl, -⟩ := hown3.read_n HN1.out; have HQ3 := Lib.hid (HB1.out.alloc hz2 hg1 (.cells #[.string S] 9)); have HB2 := Lib.hid (HQ3.out.app hz2 hg1 hg2 hown3 hb3); have HG2 := Lib.hid (((HG.out.keep (.cells #[.string S] 9)).grown hg3 HLT.out).other (g' := w.heap.size + 1) (k := 1) (Ne.symm HGR.out) (.slice A3 N1 c3)); have HSZ2 := Lib.hid HB2.out.size; replace s1 := ((bcell hb3).1 _ _ HLL.out).trans HQ3.out.s1; have sf3 := fun j => ((bcell hb3).2 _ j HLL.out).trans (HQ3.out.sf j); obtain ⟨g0, g1', g2, g3⟩ := HG2.out; clear hown3 hg3 hb3)
          | (at_builtin; refine wpList_app_k kStr rfl (.tmp 24) (.tmp 27) rfl w1.heap.size _ _ rfl (Kind.Own.alloc HB2.out.own _) _ (some ⟨w3.heap.size, 0, none⟩) 1 1 [r.hi] rfl rfl (HR2 w3 _ _).out HLE2.out (by decide) (le_alloc HSZ2.out _) ?_; intro v4 w4 hown4 hg4 hb4 _; obtain ⟨A4, c4, rfl, -⟩ := hown4.read_n HN2.out; have HQ4 := Lib.hid (HB2.out.alloc hz2 hg1 (.cells #[.string T] 9)); have HB3 := Lib.hid (HQ4.out.app hz2 hg1 hg2 hown4 hb4); have s2 := ((bcell hb4).1 _ _ HLL.out).trans HQ4.out.s1; have sf4 := fun j => ((bcell hb4).2 _ j HLL.out).trans (HQ4.out.sf j); clear hown4 hg4 hb4))
        go_roundw
        case rel => exact ⟨k + 1, _, by omega, by rw [HX.out]; have := HB3.out; rw [List.append_assoc] at this; exact this, by go_num⟩
        case measure => simp [intOf]; omega
      · go_wp2_with (first
          | (at_builtin; refine wpList_app_k kStr rfl (.tmp 14) (.tmp 17) rfl w1.heap.size _ _ rfl (Kind.Own.alloc HB1.out.own _) _ (some ⟨wr.heap.size + 1, 0, none⟩) 1 1 [r.lo] rfl rfl HR1.out HLE1.out (by decide) (le_alloc HSZ.out _) ?_; intro v3 w3 hown3 hg3 hb3 _; obtain ⟨A3, c3, rfl, -⟩ := hown3.read_n HN1.out; have HQ3 := Lib.hid (HB1.out.alloc hz2 hg1 (.cells #[.string S] 9)); have HB2 := Lib.hid (HQ3.out.app hz2 hg1 hg2 hown3 hb3); have HG2 := Lib.hid (((HG.out.keep (.cells #[.string S] 9)).grown hg3 HLT.out).other (g' := w.heap.size + 1) (k := 1) (Ne.symm HGR.out) (.slice A3 N1 c3)); have HSZ2 := Lib.hid HB2.out.size; replace s1 := ((bcell hb3).1 _ _ HLL.out).trans HQ3.out.s1; have sf3 := fun j => ((bcell hb3).2 _ j HLL.out).trans (HQ3.out.sf j); obtain ⟨g0, g1', g2, g3⟩ := HG2.out; clear hown3 hg3 hb3))
        go_roundw
        case rel => exact ⟨k + 1, _, by omega, by rw [HX.out]; exact HB2.out, by go_num⟩
        case measure => simp [intOf]; omega
    · have hkn : M.take k = M := List.take_of_length_le (by have := HNM.out; omega)
      rw [hkn] at HB
      obtain ⟨s0, s1, sf, r0, r1, rf, -, -, -, -⟩ := HB.out
      obtain ⟨A5, c5, rfl, hrd⟩ := HB.out.own.form
      have HRD := Lib.hid hrd
      clear hkn hrd
      go_wp2_with fail
      have HBF := Lib.hid ((HB.out.below.setCell (p := ⟨w.heap.size, 0, none⟩) (Nat.le_refl _) (.bool false)).setCell (p := ⟨w.heap.size, 1, none⟩) (Nat.le_refl _) (.slice A5 (edgesR M).length c5))
      have HOF := Lib.hid ((HB.out.own.other (grownBy_set wr w.heap.size 0 (.bool false)) (by omega)).other (grownBy_set _ w.heap.size 1 (.slice A5 (edgesR M).length c5)) (by omega)).rd
      have hc1 : ((wr.setCell ⟨w.heap.size, 0, none⟩ (.bool false)).setCell ⟨w.heap.size, 1, none⟩ (.slice A5 (edgesR M).length c5)).cell? ⟨w.heap.size, 1, none⟩ = some (.slice A5 (edgesR M).length c5) := set_same (set_other r1 (addr_off (by decide)) _) _
      have hc0 : ((wr.setCell ⟨w.heap.size, 0, none⟩ (.bool false)).setCell ⟨w.heap.size, 1, none⟩ (.slice A5 (edgesR M).length c5)).cell? ⟨w.heap.size, 0, none⟩ = some (.bool false) := set_other (set_same r0 _) (addr_off (by decide)) _
      exact bodyPost_ret (v := .agg #[.bool false, .slice A5 (edgesR M).length c5]) (by simp [results, Tryz.results107, go_sem, hc0, hc1]) rfl ⟨A5, c5, by rw [HMM.out], by rw [HMM.out]; exact HOF.out, HBF.out⟩
end Go.Proofs.YtaodifpnfejbbaaGreat

/-
  Layer 8 (ranges), the program: a swept list from a text on; the next edge of two.
-/
namespace Go.Proofs.YtaodifpnfejbbaaGreat
open Go.RowKit

/-- The edges' row behind a text. -/
def passS (x : List UInt8) (A : Option Addr) (n c : Nat) : List (List UInt8) → Value
  | [] => .slice A n c
  | y :: _ => match decide (y = x) with | true => .slice (cutA A 1 c) (n - 1) (c - 1) | false => .slice A n c
theorem passS_same {x : List UInt8} {A : Option Addr} {n c : Nat} {l : List (List UInt8)} : passS x A n c (x :: l) = .slice (cutA A 1 c) (n - 1) (c - 1) := by rw [passS, decide_eq_true rfl]
theorem passS_other {x y : List UInt8} {A : Option Addr} {n c : Nat} {l : List (List UInt8)} (h : y ≠ x) : passS x A n c (y :: l) = .slice A n c := by rw [passS, decide_eq_false h]
/-- A row of texts that reads, as a value. -/
def SliceS (w : World) (v : Value) (l : List (List UInt8)) : Prop := ∃ A c, v = .slice A l.length c ∧ kStr.Rd w w.heap.size A c l
theorem SliceS.call {w w' : World} {v : Value} {l : List (List UInt8)} (h : SliceS w v l) (hb : Below w.heap.size w w') : SliceS w' v l := by
  obtain ⟨A, c, rfl, hr⟩ := h
  exact ⟨A, c, rfl, hr.call hb⟩
theorem passS_reads {x : List UInt8} {A : Option Addr} {c : Nat} {l : List (List UInt8)} {w : World} (hr : kStr.Rd w w.heap.size A c l) : SliceS w (passS x A l.length c l) (dropE x l) := by
  cases l with
  | nil => exact ⟨A, c, rfl, hr⟩
  | cons y l =>
    by_cases hy : y = x
    · subst hy
      rw [passS_same, dropE_same]
      refine ⟨_, _, rfl, ?_, by have := hr.room; simp only [List.length_cons] at this; omega, by have := hr.cap; omega⟩
      have h1 := RowAt.cut hr.row (k := 1) (c := c) (by rw [strs_len]; simp) (by rw [strs_len]; exact hr.room)
      rwa [← strs_drop, List.drop_one, List.tail_cons] at h1
    · rw [passS_other hy, dropE_other hy]
      exact ⟨_, _, rfl, hr⟩
set_option maxHeartbeats 1000000 in
theorem rgs_pass (A : Option Addr) (c n : Nat) (l : List (List UInt8)) (x : List UInt8) (v : Bool) (U : ByteArray) (hU : str x = U) (hn : n = l.length) (v' : Bool) (hv : passB x v l = v') (s' : Value) (hs : passS x A n c l = s') (w : World) (hr : kStr.Rd w w.heap.size A c l) :
    Calls Tryz.prog 109 #[.agg #[.bool v, .slice A n c], .string U] w fun e w' => e = .returned (.agg #[.bool v', s']) ∧ Below w.heap.size w w' := by
  have HB := Lib.hid (((Below.refl w.heap.size w).alloc (Nat.le_refl _) (.cells #[.bool v', s'] 121)).alloc (by simp) (.cells #[.bool v', s'] 121))
  cases l with
  | nil =>
    obtain rfl : n = 0 := hn
    obtain rfl : v' = v := hv.symm
    obtain rfl : s' = .slice A 0 c := hs.symm
    clear hr hv hs
    go_enter Tryz.func109, Tryz.ntmps109
    go_wp2_with fail
    exact bodyPost_ret (v := .agg #[.bool v', .slice A 0 c]) (by simp [results, Tryz.results109, go_sem]) rfl ⟨rfl, HB.out⟩
  | cons y l =>
    obtain ⟨b, o, rfl, hb1, hcell⟩ := texts_at hr (by simp)
    have c0 := hcell 0 y rfl
    rw [Nat.add_zero] at c0
    have hn0 : 0 < n := by rw [hn]; simp
    have hnc : n ≤ c := by rw [hn]; exact hr.room
    have hnd : decide ((0 : Int) < (n : Int)) = true := decide_eq_true (by omega)
    by_cases hy : y = x
    · have hE : ((str y).toList == U.toList) = true := by rw [hy, hU]; simp
      have K : ∀ w : World, (Instr.slice 101 (.slice (some ⟨b, o, none⟩) n c) (some (.int .i64 1)) none none).run Tryz.prog w = .ok (.slice (cutA (some ⟨b, o, none⟩) 1 c) (n - 1) (c - 1)) w := fun w => run_cut (T := 101) (E := 9) Tryz.underlying101 str_sizeOf w (some ⟨b, o, none⟩) n c 1 (by omega)
      obtain rfl : v' = !v := by rw [← hv, hy, passB_same]
      obtain ⟨q, hq⟩ : ∃ q, cutA (some ⟨b, o, none⟩) 1 c = q := ⟨_, rfl⟩
      obtain ⟨n1, hn1⟩ : ∃ n1, n - 1 = n1 := ⟨_, rfl⟩
      obtain ⟨c1, hc1⟩ : ∃ c1, c - 1 = c1 := ⟨_, rfl⟩
      rw [hq, hn1, hc1] at K
      obtain rfl : s' = .slice q n1 c1 := by rw [← hs, ← hq, ← hn1, ← hc1, hy, passS_same]
      obtain ⟨S, hS⟩ : ∃ S, str y = S := ⟨_, rfl⟩
      rw [hS] at c0 hE
      clear hcell hv hs hn hq hn1 hc1 hS hy hU hr
      go_enter Tryz.func109, Tryz.ntmps109
      go_wp2_with fail
      go_region
      go_wp2_with fail
      exact bodyPost_ret (v := .agg #[.bool (!v), .slice q n1 c1]) (by simp [results, Tryz.results109, go_sem]) rfl ⟨rfl, HB.out.drew⟩
    · have hE : ((str y).toList == U.toList) = false := txt_ne rfl hU hy
      obtain rfl : v' = v := by rw [← hv, passB_other hy]
      obtain rfl : s' = .slice (some ⟨b, o, none⟩) n c := by rw [← hs, passS_other hy]
      obtain ⟨S, hS⟩ : ∃ S, str y = S := ⟨_, rfl⟩
      rw [hS] at c0 hE
      clear hcell hv hs hn hS hy hU hr
      go_enter Tryz.func109, Tryz.ntmps109
      go_wp2_with fail
      exact bodyPost_ret (v := .agg #[.bool v', .slice (some ⟨b, o, none⟩) n c]) (by simp [results, Tryz.results109, go_sem]) rfl ⟨rfl, HB.out⟩
/-- The next edge, as it is handed back. -/
def nearU (a b : List (List UInt8)) : ByteArray := match nearE a b with | some e => str e | none => ⟨#[]⟩
set_option maxHeartbeats 1000000 in
theorem rgs_nearest (A B : Option Addr) (c d n m : Nat) (a b : List (List UInt8)) (x y : Bool) (hn : n = a.length) (hm : m = b.length) (U : ByteArray) (hU : nearU a b = U) (v : Bool) (hv : (nearE a b).isSome = v) (w : World) (ha : kStr.Rd w w.heap.size A c a) (hb : kStr.Rd w w.heap.size B d b) :
    Calls Tryz.prog 108 #[.agg #[.bool x, .slice A n c], .agg #[.bool y, .slice B m d]] w fun e w' => e = .returned (.tuple #[.string U, .bool v]) ∧ Below w.heap.size w w' := by
  have HB := Lib.hid (((Below.refl w.heap.size w).alloc (Nat.le_refl _) (.cells #[.bool x, .slice A n c] 121)).alloc (by simp) (.cells #[.bool y, .slice B m d] 121))
  have hna : n ≤ c := by rw [hn]; exact ha.room
  have hmb : m ≤ d := by rw [hm]; exact hb.room
  cases a with
  | nil =>
    obtain rfl : n = 0 := hn
    cases b with
    | nil =>
      obtain rfl : m = 0 := hm
      obtain rfl : v = false := hv.symm
      obtain rfl : U = ⟨#[]⟩ := hU.symm
      clear ha hb hv hU
      go_enter Tryz.func108, Tryz.ntmps108
      go_wp2_with fail
      go_ret2
      exact ⟨rfl, HB.out⟩
    | cons t b =>
      obtain ⟨b1, o1, rfl, hb1, hcell⟩ := texts_at hb (by simp)
      have c0 := hcell 0 t rfl
      rw [Nat.add_zero] at c0
      have hm0 : 0 < m := by rw [hm]; simp
      have hmd : ((m : Int) == 0) = false := beq_eq_false_iff_ne.2 (by omega)
      obtain rfl : v = true := hv.symm
      obtain rfl : U = str t := hU.symm
      obtain ⟨S, hS⟩ : ∃ S, str t = S := ⟨_, rfl⟩
      rw [hS] at c0 ⊢
      clear ha hb hv hcell hm hS
      go_enter Tryz.func108, Tryz.ntmps108
      go_wp2_with fail
      go_ret2
      exact ⟨rfl, HB.out⟩
  | cons s a =>
    obtain ⟨b2, o2, rfl, hb2, hcell2⟩ := texts_at ha (by simp)
    have e0 := hcell2 0 s rfl
    rw [Nat.add_zero] at e0
    have hn0 : 0 < n := by rw [hn]; simp
    have hnd : ((n : Int) == 0) = false := beq_eq_false_iff_ne.2 (by omega)
    cases b with
    | nil =>
      obtain rfl : m = 0 := hm
      obtain rfl : v = true := hv.symm
      obtain rfl : U = str s := hU.symm
      obtain ⟨S, hS⟩ : ∃ S, str s = S := ⟨_, rfl⟩
      rw [hS] at e0 ⊢
      clear ha hb hv hcell2 hn hS
      go_enter Tryz.func108, Tryz.ntmps108
      go_wp2_with fail
      go_quiet (fail)
      go_wp2_with fail
      go_ret2
      exact ⟨rfl, below_drewN HB.out _⟩
    | cons t b =>
      obtain ⟨b1, o1, rfl, hb1, hcell⟩ := texts_at hb (by simp)
      have c0 := hcell 0 t rfl
      rw [Nat.add_zero] at c0
      have hm0 : 0 < m := by rw [hm]; simp
      have hmd : ((m : Int) == 0) = false := beq_eq_false_iff_ne.2 (by omega)
      obtain rfl : v = true := by
        rw [← hv]
        cases hl : ltB s t with
        | true => rw [nearE_lt hl]; rfl
        | false => rw [nearE_ge hl]; rfl
      obtain ⟨z, hz, hz1, -⟩ := cmp_test s t
      have C := fun w => Lib.hid (cmp_is s t _ _ rfl rfl z hz w)
      have HU1 := Lib.hid (fun h : ltB s t = true => show U = str s by rw [← hU]; unfold nearU; rw [nearE_lt h])
      have HU2 := Lib.hid (fun h : ltB s t = false => show U = str t by rw [← hU]; unfold nearU; rw [nearE_ge h])
      obtain ⟨l, hl⟩ : ∃ l, ltB s t = l := ⟨_, rfl⟩
      rw [hl] at hz1 HU1 HU2
      obtain ⟨S, hS⟩ : ∃ S, str s = S := ⟨_, rfl⟩
      obtain ⟨T, hT⟩ : ∃ T, str t = T := ⟨_, rfl⟩
      rw [hS] at e0 C HU1
      rw [hT] at c0 C HU2
      clear ha hb hv hU hcell hcell2 hn hm hz hl hS hT
      cases l
      · obtain rfl := HU2.out rfl
        clear HU1 HU2
        go_enter Tryz.func108, Tryz.ntmps108
        go_wp2_with fail
        go_quiet ((go_at_call 76; exact Calls.quiet_of_same ((C _).out.mono fun _ _ ⟨h1, h2⟩ => ⟨h1, h2.symm⟩)))
        go_wp2_with fail
        go_ret2
        exact ⟨rfl, below_drewN HB.out _⟩
      · obtain rfl := HU1.out rfl
        clear HU1 HU2
        go_enter Tryz.func108, Tryz.ntmps108
        go_wp2_with fail
        go_quiet ((go_at_call 76; exact Calls.quiet_of_same ((C _).out.mono fun _ _ ⟨h1, h2⟩ => ⟨h1, h2.symm⟩)))
        go_wp2_with fail
        go_ret2
        exact ⟨rfl, below_drewN HB.out _⟩
end Go.Proofs.YtaodifpnfejbbaaGreat

/-
  Plain facts on two lists swept together (layer 8): what holds from edge to edge. No program in this text.
-/
namespace Go.Proofs.YtaodifpnfejbbaaGreat

/-- What holds at an edge, ahead of it: what is left of both lists' edges tells what both have from there on. -/
def SwOk (a b : List Rng) (n : Nat) (cur : Option (List UInt8)) (x : Bool) (ea : List (List UInt8)) (y : Bool) (eb : List (List UInt8)) : Prop :=
  ∀ e, cur = some e → FromE e ea ∧ FromE e eb ∧ (∀ s, ltB s e = false → togV x ea s = hasL a s) ∧ (∀ s, ltB s e = false → togV y eb s = hasL b s) ∧ (dropE e ea).length + (dropE e eb).length ≤ n
/-- How many edges are left, at most. -/
def wtE (n : Nat) : Option (List UInt8) → Nat
  | none => 0
  | some _ => n + 1
theorem SwOk.start (a b : List Rng) (n : Nat) (hn : (edgesR (normV a)).length + (edgesR (normV b)).length ≤ n) : SwOk a b n (some []) false (edgesR (normV a)) false (edgesR (normV b)) := fun e he => by
  injection he with he
  subst he
  have ra : rightL (normV a) = true := makeV_right _ _ _
  have rb : rightL (normV b) = true := makeV_right _ _ _
  refine ⟨⟨edgesR_riseB ra, fun x _ => ltB_nil x⟩, ⟨edgesR_riseB rb, fun x _ => ltB_nil x⟩, fun s _ => by rw [togV_edges ra, normV_has], fun s _ => by rw [togV_edges rb, normV_has], ?_⟩
  have := dropE_len [] (edgesR (normV a))
  have := dropE_len [] (edgesR (normV b))
  omega
theorem SwOk.val {a b : List Rng} {n : Nat} {e : List UInt8} {x y : Bool} {ea eb : List (List UInt8)} (h : SwOk a b n (some e) x ea y eb) : passB e x ea = hasL a e ∧ passB e y eb = hasL b e := by
  obtain ⟨h1, h2, h3, h4, _⟩ := h e rfl
  exact ⟨by rw [← h1.at, h3 e (ltB_irrefl e)], by rw [← h2.at, h4 e (ltB_irrefl e)]⟩
theorem SwOk.next {a b : List Rng} {n : Nat} {e : List UInt8} {x y : Bool} {ea eb : List (List UInt8)} (h : SwOk a b n (some e) x ea y eb) :
    SwOk a b (n - 1) (nearE (dropE e ea) (dropE e eb)) (passB e x ea) (dropE e ea) (passB e y eb) (dropE e eb) ∧ wtE (n - 1) (nearE (dropE e ea) (dropE e eb)) ≤ n ∧ restE n ea eb (some e) = e :: restE (n - 1) (dropE e ea) (dropE e eb) (nearE (dropE e ea) (dropE e eb)) := by
  obtain ⟨h1, h2, h3, h4, h5⟩ := h e rfl
  refine ⟨fun e' he' => ?_, ?_, ?_⟩
  · obtain ⟨k1, k2, k3, k4, _⟩ := nearE_some h1.drop h2.drop he'
    refine ⟨k2, k3, fun s hs => ?_, fun s hs => ?_, by omega⟩
    · have : ltB s e = false := leB_trans (ltB_asymm k1) hs
      rw [h1.pass this, h3 s this]
    · have : ltB s e = false := leB_trans (ltB_asymm k1) hs
      rw [h2.pass this, h4 s this]
  · cases hn : nearE (dropE e ea) (dropE e eb) with
    | none => exact Nat.zero_le _
    | some e' =>
      obtain ⟨_, _, _, k4, _⟩ := nearE_some h1.drop h2.drop hn
      show n - 1 + 1 ≤ n
      omega
  · show e :: mrgE n (dropE e ea) (dropE e eb) = _
    congr 1
    cases n with
    | zero =>
      have e1 : dropE e ea = [] := List.length_eq_zero_iff.1 (by omega)
      have e2 : dropE e eb = [] := List.length_eq_zero_iff.1 (by omega)
      rw [e1, e2]; rfl
    | succ n => exact restE_next n _ _
end Go.Proofs.YtaodifpnfejbbaaGreat

/-
  Layer 8 (ranges), the program: two lists swept together.
-/
namespace Go.Proofs.YtaodifpnfejbbaaGreat
open Go.RowKit

/-- The text at which it is asked, as it is carried. -/
def curU : Option (List UInt8) → ByteArray
  | none => ⟨#[]⟩
  | some e => str e
theorem nearU_cur (a b : List (List UInt8)) : nearU a b = curU (nearE a b) := by
  unfold nearU curU; cases nearE a b <;> rfl
theorem rgs_begin_is (A : Option Addr) (c n : Nat) (l : List Rng) (hn : n = l.length) (hnl : n ≤ 1000) (w0 : World) (hr : kRng.Rd w0 w0.heap.size A c l) (E : List (List UInt8)) (hE : edgesR (normV l) = E) (N : Nat) (hN : E.length = N) (w : World) (hb : Below w0.heap.size w0 w) :
    Calls Tryz.prog 107 #[.slice A n c] w fun e w' => ∃ A' c', e = .returned (.agg #[.bool false, .slice A' N c']) ∧ kStr.Rd w' w'.heap.size A' c' E ∧ Below w.heap.size w w' := by
  subst hE hN
  exact rgs_begin A c n l hn hnl w (hr.call hb)
theorem rgs_pass_is (A : Option Addr) (c n : Nat) (l : List (List UInt8)) (x : List UInt8) (v : Bool) (w0 : World) (hn : l.length = n) (hr : kStr.Rd w0 w0.heap.size A c l) (v' : Bool) (hv : passB x v l = v') (l' : List (List UInt8)) (hl : dropE x l = l') :
    ∃ A' n' c', l'.length = n' ∧ kStr.Rd w0 w0.heap.size A' c' l' ∧ ∀ w, Below w0.heap.size w0 w → Hid (Calls Tryz.prog 109 #[.agg #[.bool v, .slice A n c], .string (str x)] w fun e w' => e = .returned (.agg #[.bool v', .slice A' n' c']) ∧ Below w.heap.size w w') := by
  subst hn hl
  obtain ⟨A', c', h1, h2⟩ := passS_reads (x := x) hr
  exact ⟨A', _, c', rfl, h2, fun w hb => rgs_pass A c l.length l x v _ rfl rfl v' hv _ h1 w (hr.call hb)⟩
set_option maxRecDepth 100000 in
set_option maxHeartbeats 8000000 in
theorem rgs_sweep (g : FuncId) (kf : Bool → Bool → Bool) (K : ∀ x y w, Calls Tryz.prog g #[.bool x, .bool y] w fun e w' => e = .returned (.bool (kf x y)) ∧ w = w') (eg : ∀ args w, (callFunc g args).run Tryz.prog w = .ok (.enter g args) w)
    (op : Int) (A B : Option Addr) (c d n m : Nat) (a b : List Rng) (hk : ∀ s, kf (hasL a s) (hasL b s) = inV op a b s) (hn : n = a.length) (hm : m = b.length) (hnl : n ≤ 1000) (hml : m ≤ 1000) (w : World) (ha : kRng.Rd w w.heap.size A c a) (hb : kRng.Rd w w.heap.size B d b) :
    Calls Tryz.prog 68 #[.slice A n c, .slice B m d, .func (.func g) #[] #[]] w (RetR w (makeV op a b)) := by
  obtain ⟨ea, hea⟩ : ∃ ea, edgesR (normV a) = ea := ⟨_, rfl⟩
  obtain ⟨eb, heb⟩ : ∃ eb, edgesR (normV b) = eb := ⟨_, rfl⟩
  obtain ⟨N, hN⟩ : ∃ N, ea.length = N := ⟨_, rfl⟩
  obtain ⟨M, hM⟩ : ∃ M, eb.length = M := ⟨_, rfl⟩
  have hN9 : N ≤ 4004 := by rw [← hN, ← hea]; have := edgesR_len (normV a); have := makeV_len1 a; omega
  have hM9 : M ≤ 4004 := by rw [← hM, ← heb]; have := edgesR_len (normV b); have := makeV_len1 b; omega
  have C1 := fun W h => Lib.hid (rgs_begin_is A c n a hn hnl w ha ea hea N hN W h)
  have C2 := fun W h => Lib.hid (rgs_begin_is B d m b hm hml w hb eb heb M hM W h)
  have HT := Lib.hid (sweep_make op a b (fun s => kf (hasL a s) (hasL b s)) hk (N + M) (by rw [hea, heb, hN, hM]; exact Nat.le_refl _))
  have HS := Lib.hid (SwOk.start a b (N + M) (by rw [hea, heb, hN, hM]; exact Nat.le_refl _))
  have HN := Lib.hid hN
  have HM := Lib.hid hM
  rw [hea, heb] at HT HS
  obtain ⟨T, hT⟩ : ∃ T, makeV op a b = T := ⟨_, rfl⟩
  have HTT := Lib.hid hT
  rw [hT] at HT
  have hb0 := Lib.hid (Below.refl w.heap.size w)
  clear hn hm ha hb hea heb hN hM hnl hml hT hk
  go_enter Tryz.func68, Tryz.ntmps68
  go_wp2_with (first
    | ((with_reducible refine (C1 _ hb0.out).out.mono ?_); rintro e w1 ⟨A1, c1, rfl, hrd, hq⟩; have H1 := Lib.hid hrd; replace hb0 := Lib.hid hq; clear hrd hq)
    | ((with_reducible refine (C2 _ hb0.out).out.mono ?_); rintro e w2 ⟨A2, c2, rfl, hrd, hq⟩; have H2 := Lib.hid hrd; have H1 := Lib.hid (H1.out.call hq); have hb1 := Lib.hid (hb0.out.trans (hq.mono hb0.out.size)); clear hrd hq))
  clear C1 C2 hb0
  obtain ⟨f, hf⟩ : ∃ f : List UInt8 → Bool, (fun s => kf (hasL a s) (hasL b s)) = f := ⟨_, rfl⟩
  rw [hf] at HT
  have HF := Lib.hid (fun s => (congrFun hf s).symm)
  clear hf
  go_loopg [9, 10, 11, 12] (N + M + 1) (fun gg s9 s10 s11 s12 wr => ∃ (n' : Nat) (cur : Option (List UInt8)) (x y : Bool) (fa fb : List (List UInt8)) (A7 A8 : Option Addr) (n7 c7 n8 c8 : Nat) (dn : List Rng) (o : Option (List UInt8)),
    Hid (mkR f (restE (N + M) ea eb (some [])) none = dn ++ mkR f (restE n' fa fb cur) o) ∧ Hid (kRng.Own wr (w2.heap.size + 2) s9 (dn ++ pendR o)) ∧ s10 = .bool o.isSome ∧ s11 = .string (curU cur) ∧ s12 = .bool cur.isSome ∧ Hid (SwOk a b n' cur x fa y fb) ∧
    Hid (SdAt wr w2.heap.size x (.slice A7 n7 c7)) ∧ Hid (SdAt wr (w2.heap.size + 1) y (.slice A8 n8 c8)) ∧ Hid (fa.length = n7 ∧ kStr.Rd w2 w2.heap.size A7 c7 fa) ∧ Hid (fb.length = n8 ∧ kStr.Rd w2 w2.heap.size A8 c8 fb) ∧ Hid (Below w2.heap.size w2 wr) ∧ (dn ++ pendR o).length + wtE n' cur ≤ N + M + 1 ∧ wtE n' cur ≤ gg)
  case atStart => exact ⟨N + M, some [], false, false, ea, eb, A1, A2, N, c1, M, c2, [], none, rfl, Kind.Own.nil _ _, rfl, rfl, rfl, HS.out, (sdAt_new w2 _ _ _).below (below_new _ _), sdAt_new1 w2 _ _ _ _, ⟨HN.out, H1.out⟩, ⟨HM.out, H2.out⟩, (below_new w2 _).alloc (by simp) _, by simp [pendR, wtE], Nat.le_refl _⟩
  case round =>
    obtain ⟨n', cur, x, y, fa, fb, A7, A8, n7, c7, n8, c8, dn, o, HL, HO, rfl, rfl, rfl, HOK, H7, H8, HR7, HR8, HBW, hlen, hgg⟩ := hrel
    obtain ⟨n9, hn9⟩ : ∃ n9, (dn ++ pendR o).length = n9 := ⟨_, rfl⟩
    obtain ⟨A9, c9, rfl, -⟩ := HO.out.read_n hn9.symm
    have HN9 := Lib.hid hn9
    rw [hn9] at hlen
    clear hn9
    cases cur with
    | none =>
      have e1 := Lib.hid (HT.out.symm.trans (HL.out.trans (show dn ++ mkR f (restE n' fa fb none) o = dn ++ pendR o by cases o <;> rfl)))
      go_wp2_with fail
      go_ret
      refine ⟨A9, c9, ?_, ?_, hb1.out.trans (HBW.out.mono hb1.out.size)⟩
      · rw [HTT.out, e1.out, HN9.out]; rfl
      · rw [HTT.out, e1.out]; exact HO.out.rd
    | some e =>
      obtain ⟨hok, hwt, hre⟩ := HOK.out.next
      obtain ⟨hv1, hv2⟩ := HOK.out.val
      obtain ⟨x', hx'⟩ : ∃ x', passB e x fa = x' := ⟨_, rfl⟩
      obtain ⟨y', hy'⟩ : ∃ y', passB e y fb = y' := ⟨_, rfl⟩
      obtain ⟨ga, hga⟩ : ∃ ga, dropE e fa = ga := ⟨_, rfl⟩
      obtain ⟨gb, hgb⟩ : ∃ gb, dropE e fb = gb := ⟨_, rfl⟩
      obtain ⟨A3, n3, c3, hn3, hr3, P1⟩ := rgs_pass_is A7 c7 n7 fa e x w2 HR7.out.1 HR7.out.2 x' hx' ga hga
      obtain ⟨A4, n4, c4, hn4, hr4, P2⟩ := rgs_pass_is A8 c8 n8 fb e y w2 HR8.out.1 HR8.out.2 y' hy' gb hgb
      rw [hx', hy', hga, hgb] at hok
      rw [hga, hgb] at hwt hre
      rw [hx'] at hv1
      rw [hy'] at hv2
      have HR3 := Lib.hid (And.intro hn3 hr3)
      have HR4 := Lib.hid (And.intro hn4 hr4)
      have HOK2 := Lib.hid hok
      have HV := Lib.hid (show f e = kf x' y' by rw [HF.out, hv1, hv2])
      have HL2 := Lib.hid (HL.out.trans (by rw [hre]))
      have HWT := Lib.hid hwt
      have hgg2 := show n' + 1 ≤ _ from hgg
      have hln2 : n9 + (n' + 1) ≤ N + M + 1 := hlen
      clear hn3 hr3 hn4 hr4 hok hv1 hv2 hre hwt hx' hy' hga hgb HR7 HR8 HOK HL hlen
      obtain ⟨U, hU⟩ : ∃ U, str e = U := ⟨_, rfl⟩
      have hcu : curU (some e) = U := hU
      rw [hU] at P1 P2
      rw [hcu]
      go_upto_region 7 with fail
      go_cut [] from 18 to 58 (fun wx => Hid (kRng.Own wx (w2.heap.size + 2) (.slice A9 n9 c9) (dn ++ pendR o)) ∧ Hid (SdAt wx w2.heap.size x' (.slice A3 n3 c3)) ∧ Hid (SdAt wx (w2.heap.size + 1) y' (.slice A4 n4 c4)) ∧ Hid (Below w2.heap.size w2 wx))
      case first =>
        obtain ⟨a0, a1, a3⟩ := H7.out
        obtain ⟨b0, b1, b3⟩ := H8.out
        have P1 := fun w h => (P1 w h)
        clear HT HS HTT HF HV HL2 HOK2 HWT HR3 HR4 HN HM H1 H2 HN9
        go_region_with (first
          | ((with_reducible refine (P1 _ (by first | exact HBW.out | exact HBW.out.drew)).out.mono ?_); rintro e w3 ⟨rfl, hq⟩; (try replace hq := below_of_drew hq); clear a0 a1 a3 b0 b1 b3; replace H7 := Lib.hid (H7.out.below hq); replace H8 := Lib.hid (H8.out.below hq); replace HO := Lib.hid (HO.out.below hq); replace HBW := Lib.hid (HBW.out.trans (hq.mono HBW.out.size)); obtain ⟨a0, a1, a3⟩ := H7.out; obtain ⟨b0, b1, b3⟩ := H8.out; clear hq)
          | ((with_reducible refine (P2 _ (by first | exact HBW.out | exact HBW.out.drew)).out.mono ?_); rintro e w4 ⟨rfl, hq⟩; (try replace hq := below_of_drew hq); clear a0 a1 a3 b0 b1 b3; replace H7 := Lib.hid (H7.out.below hq); replace H8 := Lib.hid (H8.out.below hq); replace HO := Lib.hid (HO.out.below hq); replace HBW := Lib.hid (HBW.out.trans (hq.mono HBW.out.size)); obtain ⟨a0, a1, a3⟩ := H7.out; obtain ⟨b0, b1, b3⟩ := H8.out; clear hq))
        all_goals
          go_wp2_with fail
          go_meet
          exact ⟨Lib.hid ((((HO.out.other (grownBy_set _ _ _ _) (by omega)).other (grownBy_set _ _ _ _) (by omega)).other (grownBy_set _ _ _ _) (by omega)).other (grownBy_set _ _ _ _) (by omega)), Lib.hid ((H7.out.set.other (by omega)).other (by omega)), Lib.hid ((H8.out.other (by omega)).other (by omega)).set,
            Lib.hid ((((HBW.out.setCell (p := ⟨w2.heap.size, 0, none⟩) (Nat.le_refl _) _).setCell (p := ⟨w2.heap.size, 1, none⟩) (Nat.le_refl _) _).setCell (p := ⟨w2.heap.size + 1, 0, none⟩) (Nat.le_succ _) _).setCell (p := ⟨w2.heap.size + 1, 1, none⟩) (Nat.le_succ _) _)⟩
      case rest =>
        clear HO H7 H8 HBW P1 P2
        obtain ⟨HO, H7, H8, HBW⟩ := hcut
        obtain ⟨a0, a1, a3⟩ := H7.out
        obtain ⟨b0, b1, b3⟩ := H8.out
        obtain ⟨v, hv⟩ : ∃ v, kf x' y' = v := ⟨_, rfl⟩
        have KC := fun w => Lib.hid (K x' y' w)
        rw [hv] at KC HV
        obtain ⟨U2, hU2⟩ : ∃ U2, nearU ga gb = U2 := ⟨_, rfl⟩
        obtain ⟨v2, hv2⟩ : ∃ v2, (nearE ga gb).isSome = v2 := ⟨_, rfl⟩
        have NE := fun w (h : Below w2.heap.size w2 w) => Lib.hid (rgs_nearest A3 A4 c3 c4 n3 n4 ga gb x' y' HR3.out.1.symm HR4.out.1.symm U2 hU2 v2 hv2 w (HR3.out.2.call h) (HR4.out.2.call h))
        have HU2 := Lib.hid ((nearU_cur ga gb).symm.trans hU2)
        have HV2 := Lib.hid hv2
        have HUU := Lib.hid hU
        clear hv hU2 hv2 hU hcu
        have HE1 := Lib.hid (show f e = false → o = none → dn ++ mkR f (e :: restE (n' - 1) ga gb (nearE ga gb)) o = dn ++ mkR f (restE (n' - 1) ga gb (nearE ga gb)) o from fun h h' => by rw [h', mkR_out h])
        have HE2 := Lib.hid (show ∀ lo, f e = true → o = some lo → dn ++ mkR f (e :: restE (n' - 1) ga gb (nearE ga gb)) o = dn ++ mkR f (restE (n' - 1) ga gb (nearE ga gb)) o from fun lo h h' => by rw [h', mkR_stay h])
        have HE3 := Lib.hid (show f e = true → o = none → dn ++ mkR f (e :: restE (n' - 1) ga gb (nearE ga gb)) o = dn ++ mkR f (restE (n' - 1) ga gb (nearE ga gb)) (some e) from fun h h' => by rw [h', mkR_on h])
        have HE4 := Lib.hid (show ∀ lo, f e = false → o = some lo → dn ++ mkR f (e :: restE (n' - 1) ga gb (nearE ga gb)) o = (dn ++ [⟨lo, e, false⟩]) ++ mkR f (restE (n' - 1) ga gb (nearE ga gb)) none from fun lo h h' => by rw [h', mkR_off h]; simp)
        cases o with
        | none =>
          cases v
          · have HL3 := Lib.hid (HL2.out.trans (HE1.out HV.out rfl))
            clear HE1 HE2 HE3 HE4 HV HL2
            go_wp2_with (first
              | ((with_reducible refine (KC _).out.mono ?_); rintro e5 w5 ⟨rfl, rfl⟩)
              | ((with_reducible refine (NE _ HBW.out).out.mono ?_); rintro e6 w6 ⟨rfl, hq⟩; have HO6 := Lib.hid (HO.out.below hq); have H76 := Lib.hid (H7.out.below hq); have H86 := Lib.hid (H8.out.below hq); have HB6 := Lib.hid (HBW.out.trans (hq.mono HBW.out.size)); clear hq))
            go_roundg (wtE (n' - 1) (nearE ga gb))
            case measure => have := HWT.out; omega
            case rel => exact ⟨n' - 1, nearE ga gb, x', y', ga, gb, A3, A4, n3, c3, n4, c4, dn, none, HL3, HO6, rfl, by rw [HU2.out], by rw [HV2.out], HOK2, H76, H86, HR3, HR4, HB6, by rw [HN9.out]; have := HWT.out; omega, Nat.le_refl _⟩
          · have HL3 := Lib.hid (HL2.out.trans (HE3.out HV.out rfl))
            have HRW := fun w : World => Lib.hid (show RowAt (w.alloc (.cells #[.string U, .string ⟨#[]⟩, .bool true] 42)) (w.heap.size + 1) (some ⟨w.heap.size, 0, none⟩) (kRng.row [⟨e, [], true⟩]) from by have := (rng_row w ⟨e, [], true⟩ 1 rfl).row; rw [HUU.out] at this; exact this)
            have HLE := Lib.hid (show (dn ++ pendR none).length + [(⟨e, [], true⟩ : Rng)].length ≤ 1000000 by rw [HN9.out, List.length_singleton]; omega)
            clear HE1 HE2 HE3 HE4 HV HL2
            go_wp2_with (first
              | ((with_reducible refine (KC _).out.mono ?_); rintro e5 w5 ⟨rfl, rfl⟩)
              | (at_builtin; refine wpList_app_k kRng rfl (.tmp 42) (.tmp 45) rfl (w2.heap.size + 2) _ _ rfl (Kind.Own.alloc HO.out _) _ (some ⟨wc.heap.size, 0, none⟩) 1 1 [⟨e, [], true⟩] rfl rfl (HRW wc).out HLE.out (by decide) (le_alloc (H8.out.lt) _) ?_; intro v3 w3 hown3 hg3 hb3 _; have HO3 := Lib.hid hown3; have HB3 := Lib.hid ((HBW.out.alloc HBW.out.size _).trans (hb3.mono (by omega))); have H73 := Lib.hid (SdAt.low H7.out (w' := w3) hb3 (by omega)); have H83 := Lib.hid (SdAt.low H8.out (w' := w3) hb3 (by omega)); clear a0 a1 a3 b0 b1 b3; obtain ⟨a0, a1, a3⟩ := H73.out; obtain ⟨b0, b1, b3⟩ := H83.out; clear hown3 hg3 hb3)
              | ((with_reducible refine (NE _ HB3.out).out.mono ?_); rintro e6 w6 ⟨rfl, hq⟩; have HO6 := Lib.hid (HO3.out.below hq); have H76 := Lib.hid (H73.out.below hq); have H86 := Lib.hid (H83.out.below hq); have HB6 := Lib.hid (HB3.out.trans (hq.mono HB3.out.size)); clear hq))
            go_roundg (wtE (n' - 1) (nearE ga gb))
            case measure => have := HWT.out; omega
            case rel => exact ⟨n' - 1, nearE ga gb, x', y', ga, gb, A3, A4, n3, c3, n4, c4, dn, some e, HL3, by have h := HO6.out; rw [pendR, List.append_nil] at h; exact h, rfl, by rw [HU2.out], by rw [HV2.out], HOK2, H76, H86, HR3, HR4, HB6, by have h1 := HN9.out; have := HWT.out; simp [pendR] at h1 ⊢; omega, Nat.le_refl _⟩
        | some lo =>
          cases v
          · have HL3 := Lib.hid (HL2.out.trans (HE4.out lo HV.out rfl))
            obtain ⟨D, hD⟩ : ∃ D, dn.length = D := ⟨_, rfl⟩
            obtain rfl : n9 = D + 1 := by rw [← HN9.out, List.length_append, hD]; rfl
            have hga : (dn ++ pendR (some lo))[D]? = some ⟨lo, [], true⟩ := by rw [← hD, List.getElem?_append_right (Nat.le_refl _), Nat.sub_self]; rfl
            obtain ⟨g5, cp5, hv5, hcp, hgb, -, -, -⟩ := HO.out.some_ HN9.out.symm (by omega)
            injection hv5 with hA9 _ hc9
            subst hA9 hc9
            obtain ⟨hg1, hg2, hfz, hcs⟩ := HO.out.at_g HN9.out.symm (by omega)
            have e1 := hcs D _ hga 1 _ rfl
            have e2 := hcs D _ hga 2 _ rfl
            change wc.cell? ⟨g5, D * 3 + 1, none⟩ = _ at e1
            change wc.cell? ⟨g5, D * 3 + 2, none⟩ = _ at e2
            have hD8 : D ≤ 10000 := by omega
            have HOF := Lib.hid (own_last HO.out HN9.out.symm hD e U HUU.out false false rfl)
            have HBF := Lib.hid ((HBW.out.setCell (p := ⟨g5, D * 3 + 1, none⟩) (by show w2.heap.size ≤ g5; omega) (.string U)).setCell (p := ⟨g5, D * 3 + 2, none⟩) (by show w2.heap.size ≤ g5; omega) (.bool false))
            have H7F := Lib.hid ((H7.out.other (g' := g5) (k := D * 3 + 1) (u := .string U) (by omega)).other (g' := g5) (k := D * 3 + 2) (u := .bool false) (by omega))
            have H8F := Lib.hid ((H8.out.other (g' := g5) (k := D * 3 + 1) (u := .string U) (by omega)).other (g' := g5) (k := D * 3 + 2) (u := .bool false) (by omega))
            have HDD := Lib.hid hD
            clear HE1 HE2 HE3 HE4 HV HL2 hcs hga hD
            obtain ⟨f0, f1, -⟩ := H7F.out
            obtain ⟨f2, f3, -⟩ := H8F.out
            go_wp2_with (first
              | ((with_reducible refine (KC _).out.mono ?_); rintro e5 w5 ⟨rfl, rfl⟩)
              | ((with_reducible refine (NE _ HBF.out).out.mono ?_); rintro e6 w6 ⟨rfl, hq⟩; have HO6 := Lib.hid (HOF.out.below hq); have H76 := Lib.hid (H7F.out.below hq); have H86 := Lib.hid (H8F.out.below hq); have HB6 := Lib.hid (HBF.out.trans (hq.mono HBF.out.size)); clear hq))
            go_roundg (wtE (n' - 1) (nearE ga gb))
            case measure => have := HWT.out; omega
            case rel => exact ⟨n' - 1, nearE ga gb, x', y', ga, gb, A3, A4, n3, c3, n4, c4, dn ++ [⟨lo, e, false⟩], none, HL3, by rw [pendR, List.append_nil]; exact HO6.out, rfl, by rw [HU2.out], by rw [HV2.out], HOK2, H76, H86, HR3, HR4, HB6, by have h1 := HDD.out; have := HWT.out; simp [pendR]; omega, Nat.le_refl _⟩
          · have HL3 := Lib.hid (HL2.out.trans (HE2.out lo HV.out rfl))
            clear HE1 HE2 HE3 HE4 HV HL2
            go_wp2_with (first
              | ((with_reducible refine (KC _).out.mono ?_); rintro e5 w5 ⟨rfl, rfl⟩)
              | ((with_reducible refine (NE _ HBW.out).out.mono ?_); rintro e6 w6 ⟨rfl, hq⟩; have HO6 := Lib.hid (HO.out.below hq); have H76 := Lib.hid (H7.out.below hq); have H86 := Lib.hid (H8.out.below hq); have HB6 := Lib.hid (HBW.out.trans (hq.mono HBW.out.size)); clear hq))
            go_roundg (wtE (n' - 1) (nearE ga gb))
            case measure => have := HWT.out; omega
            case rel => exact ⟨n' - 1, nearE ga gb, x', y', ga, gb, A3, A4, n3, c3, n4, c4, dn, some lo, HL3, HO6, rfl, by rw [HU2.out], by rw [HV2.out], HOK2, H76, H86, HR3, HR4, HB6, by rw [HN9.out]; have := HWT.out; omega, Nat.le_refl _⟩
end Go.Proofs.YtaodifpnfejbbaaGreat

/-
  The laws of layer 8: what the program's functions do, as they ask it.
-/
namespace Go.Proofs.YtaodifpnfejbbaaGreat
open Go.RowKit

theorem clo_meet (x y : Bool) (w : World) : Calls Tryz.prog 69 #[.bool x, .bool y] w fun e w' => e = .returned (.bool (x && y)) ∧ w = w' := by
  cases x <;> cases y
  all_goals
    go_enter Tryz.func69, Tryz.ntmps69
    go_wp2_with fail
    go_ret
    exact ⟨rfl, rfl⟩
theorem clo_not (x y : Bool) (w : World) : Calls Tryz.prog 70 #[.bool x, .bool y] w fun e w' => e = .returned (.bool (!x)) ∧ w = w' := by
  go_enter Tryz.func70, Tryz.ntmps70
  go_wp2_with fail
  go_ret
  exact ⟨rfl, rfl⟩
theorem k_of : OneC 58 1 := fun A c n a hn hs w ha => rgs_of A c n a hn (by have := hs.1; omega) w ha
theorem k_meet : SetC 33 2 := fun A B c d n m a b hn hm ha' hb' w ha hb => by
  have K := Lib.hid (rgs_sweep 69 (fun x y => x && y) clo_meet (enters_of Tryz.func69 (by kernel_rfl) rfl) 2 A B c d n m a b (fun _ => rfl) hn hm (by have := ha'.1; omega) (by have := hb'.1; omega) w ha hb)
  clear hn hm ha' hb' ha hb
  go_enter Tryz.func33, Tryz.ntmps33
  go_wp2_with ((with_reducible refine K.out.mono ?_); rintro e w1 ⟨A1, c1, rfl, hrd, hq⟩; have HR := Lib.hid hrd; clear hrd)
  go_ret
  exact ⟨A1, c1, rfl, HR.out, hq⟩
theorem k_not : OneC 34 4 := fun A c n a hn ha' w ha => by
  have K := Lib.hid (rgs_sweep 70 (fun x _ => !x) clo_not (enters_of Tryz.func70 (by kernel_rfl) rfl) 4 A none c 0 n 0 a [] (fun s => by unfold inV; rw [gV4, hasL_nil, Bool.not_false, Bool.and_true]) hn rfl (by have := ha'.1; omega) (by omega) w ha (Kind.Rd.nil _ _))
  clear hn ha' ha
  go_enter Tryz.func34, Tryz.ntmps34
  go_wp2_with ((with_reducible refine K.out.mono ?_); rintro e w1 ⟨A1, c1, rfl, hrd, hq⟩; have HR := Lib.hid hrd; clear hrd)
  go_ret
  exact ⟨A1, c1, rfl, HR.out, hq⟩
theorem same_L (a b : List Rng) : sameL (normV a) (normV b) = sameV a b := by
  unfold sameV
  rw [Bool.eq_iff_iff, sameL_iff, decide_eq_true_eq]
end Go.Proofs.YtaodifpnfejbbaaGreat

/-
  Layer 15 (know), the program: the right list of what some pieces have; joined; the one without the other; one set of some ranges; some versions of a key.
-/
namespace Go.Proofs.YtaodifpnfejbbaaGreat
open Go.RowKit

theorem own_is {L B : Nat} (A : Option Addr) (c n : Nat) (k : List Pc) (hn : n = k.length) (h : CapN L B k) (hL : L ≤ 500000) (hB : B ≤ 100000) (w : World) (hr : RdPc w A c k) : Calls Tryz.prog 35 #[.slice A n c] w (RetP w n k) :=
  kw_own A c n k hn (by have := h.len; omega) (fun p hp => by have := (h.each p hp).2.2; omega) (fun p hp r => by have := h.own p hp r; omega) w hr
theorem kw_of (A : Option Addr) (c n : Nat) (k : List Pc) (hn : n = k.length) (hc : CapN 8000 20000 k) (U : List Pc) (hU : ofP k = U) (N : Nat) (hN : N = U.length) (w : World) (hr : RdPc w A c k) : Calls Tryz.prog 10 #[.slice A n c] w (RetP w N U) := by
  have hcU : CapN 16001 20000 U := hU ▸ hc.of.mono (by omega) (by omega)
  have C1 := Lib.hid (kw_tidy (fun _ => True) A c n k hn hc U hU N hN w hr)
  have C2 := fun A c w h => Lib.hid (own_is A c N U hN hcU (by omega) (by omega) w h)
  clear hn hc hU hN hr hcU
  go_enter Tryz.func10, Tryz.ntmps10
  go_wp2_with (first
    | ((with_reducible refine C1.out.mono ?_); rintro e w1 ⟨A1, c1, rfl, hrd, hq⟩; have HR := Lib.hid (show RdPc w1 A1 c1 U from Deep.Rd.all hrd); have HQ := Lib.hid hq; clear hrd hq)
    | ((with_reducible refine (C2 _ _ _ HR.out).out.mono ?_); rintro e w2 ⟨A2, c2, rfl, hrd, hq⟩; have H2 := Lib.hid hrd; have HQ2 := Lib.hid (HQ.out.trans (hq.mono HQ.out.size)); clear hrd hq))
  go_ret
  exact ⟨A2, c2, rfl, H2.out, HQ2.out⟩
theorem kw_less_c {LA LB BA BB : Nat} (A B : Option Addr) (c d n m : Nat) (a b : List Pc) (ha : CapN LA BA a) (hb : CapN LB BB b) (hLA : LA ≤ 16001) (hLB : LB ≤ 16001) (hBA : BA ≤ 20000) (hBB : BB ≤ 20000) (hn : n = (ofP a).length) (hm : m = (ofP b).length) (U : List Pc) (hU : lessP a b = U) (N : Nat) (hN : N = U.length) (w : World) (hra : RdPc w A c (ofP a)) (hrb : RdPc w B d (ofP b)) :
    Calls Tryz.prog 61 #[.slice A n c, .slice B m d, .func (.func 62) #[] #[]] w (RetP w N U) :=
  (kw_sweep (fun _ => True) 62 3 (.inr rfl) kw_less (enters_of Tryz.func62 (by kernel_rfl) rfl) A B c d n m (ofP a) (ofP b) hn hm (by have h1 := ofP_len a; have h2 := ha.len; omega) (by have h1 := ofP_len b; have h2 := hb.len; omega) (ofP_right a) (ofP_right b)
    (fun s r => by have h1 := ofP_runs a s r; have h2 := ha.runs s r; omega) (fun s r => by have h1 := ofP_runs b s r; have h2 := hb.runs s r; omega) U (by rw [← hU]; exact makeP_right ..) (fun s => by rw [← hU, ← lessP_of]; exact lessP_cat (ofP_right a) (ofP_right b) s) N hN w hra hrb).mono fun _ _ h => h.to
set_option maxRecDepth 100000 in
set_option maxHeartbeats 2000000 in
theorem kw_lessP (A B : Option Addr) (c d n m : Nat) (a b : List Pc) (hn : n = a.length) (hm : m = b.length) (ha : CapN 8000 20000 a) (hb : CapN 8000 20000 b) (U : List Pc) (hU : lessP a b = U) (N : Nat) (hN : N = U.length) (w : World) (hra : RdPc w A c a) (hrb : RdPc w B d b) :
    Calls Tryz.prog 27 #[.slice A n c, .slice B m d] w (RetP w N U) := by
  have hcU : CapN 33000 81000 U := hU ▸ (ha.less hb).mono (by omega) (by omega)
  obtain ⟨n1, hn1⟩ : ∃ n, n = (ofP a).length := ⟨_, rfl⟩
  obtain ⟨m1, hm1⟩ : ∃ n, n = (ofP b).length := ⟨_, rfl⟩
  have C1 := Lib.hid (kw_tidy (fun _ => True) A c n a hn ha (ofP a) rfl n1 hn1 w hra)
  have C2 := fun w h => Lib.hid (kw_tidy (fun _ => True) B d m b hm hb (ofP b) rfl m1 hm1 w h)
  have C3 := fun A B c d w h1 h2 => Lib.hid (kw_less_c A B c d n1 m1 a b ha hb (by omega) (by omega) (by omega) (by omega) hn1 hm1 U hU N hN w h1 h2)
  have C4 := fun A c w h => Lib.hid (own_is A c N U hN hcU (by omega) (by omega) w h)
  have HB := Lib.hid (show dPc.Rd w (fun _ => True) B d b from hrb)
  clear hn hm ha hb hU hN hra hrb hcU hn1 hm1
  go_enter Tryz.func27, Tryz.ntmps27
  go_wp2_with (first
    | ((with_reducible refine C1.out.mono ?_); rintro e w1 ⟨A1, c1, rfl, hrd, hq⟩; have H1 := Lib.hid (show RdPc w1 A1 c1 (ofP a) from Deep.Rd.all hrd); replace HB := Lib.hid (Deep.Rd.call HB.out hq); have HQ := Lib.hid hq; clear hrd hq)
    | ((with_reducible refine (C2 _ HB.out).out.mono ?_); rintro e w2 ⟨A2, c2, rfl, hrd, hq⟩; have H2 := Lib.hid (show RdPc w2 A2 c2 (ofP b) from Deep.Rd.all hrd); replace H1 := Lib.hid (H1.out.call hq); replace HQ := Lib.hid (HQ.out.trans (hq.mono HQ.out.size)); clear hrd hq)
    | ((with_reducible refine (C3 _ _ _ _ _ H1.out H2.out).out.mono ?_); rintro e w3 ⟨A3, c3, rfl, hrd, hq⟩; have H3 := Lib.hid hrd; replace HQ := Lib.hid (HQ.out.trans (hq.mono HQ.out.size)); clear hrd hq)
    | ((with_reducible refine (C4 _ _ _ H3.out).out.mono ?_); rintro e w4 ⟨A4, c4, rfl, hrd, hq⟩; have H4 := Lib.hid hrd; replace HQ := Lib.hid (HQ.out.trans (hq.mono HQ.out.size)); clear hrd hq))
  go_ret
  exact ⟨A4, c4, rfl, H4.out, HQ.out⟩
set_option maxRecDepth 100000 in
set_option maxHeartbeats 2000000 in
theorem kw_within (A B : Option Addr) (c d n m : Nat) (a b : List Pc) (hn : n = a.length) (hm : m = b.length) (ha : CapN 8000 20000 a) (hb : CapN 8000 20000 b) (v : Bool) (hv : v = true ↔ lessP a b = []) (w : World) (hra : RdPc w A c a) (hrb : RdPc w B d b) :
    Calls Tryz.prog 32 #[.slice A n c, .slice B m d] w fun e w' => e = .returned (.bool v) ∧ Below w.heap.size w w' := by
  obtain ⟨U, hU⟩ : ∃ U, lessP a b = U := ⟨_, rfl⟩
  obtain ⟨N, hN⟩ : ∃ N, N = U.length := ⟨_, rfl⟩
  obtain ⟨n1, hn1⟩ : ∃ n, n = (ofP a).length := ⟨_, rfl⟩
  obtain ⟨m1, hm1⟩ : ∃ n, n = (ofP b).length := ⟨_, rfl⟩
  have C1 := Lib.hid (kw_tidy (fun _ => True) A c n a hn ha (ofP a) rfl n1 hn1 w hra)
  have C2 := fun w h => Lib.hid (kw_tidy (fun _ => True) B d m b hm hb (ofP b) rfl m1 hm1 w h)
  have C3 := fun A B c d w h1 h2 => Lib.hid (kw_less_c A B c d n1 m1 a b ha hb (by omega) (by omega) (by omega) (by omega) hn1 hm1 U hU N hN w h1 h2)
  have HB := Lib.hid (show dPc.Rd w (fun _ => True) B d b from hrb)
  have hs : ((N : Int) == 0) = v := by
    rw [Bool.eq_iff_iff, hv, hU, beq_iff_eq, hN]
    exact ⟨fun h => List.eq_nil_of_length_eq_zero (by omega), fun h => by rw [h]; rfl⟩
  subst hs
  clear hn hm ha hb hU hN hra hrb hn1 hm1 hv
  go_enter Tryz.func32, Tryz.ntmps32
  go_wp2_with (first
    | ((with_reducible refine C1.out.mono ?_); rintro e w1 ⟨A1, c1, rfl, hrd, hq⟩; have H1 := Lib.hid (show RdPc w1 A1 c1 (ofP a) from Deep.Rd.all hrd); replace HB := Lib.hid (Deep.Rd.call HB.out hq); have HQ := Lib.hid hq; clear hrd hq)
    | ((with_reducible refine (C2 _ HB.out).out.mono ?_); rintro e w2 ⟨A2, c2, rfl, hrd, hq⟩; have H2 := Lib.hid (show RdPc w2 A2 c2 (ofP b) from Deep.Rd.all hrd); replace H1 := Lib.hid (H1.out.call hq); replace HQ := Lib.hid (HQ.out.trans (hq.mono HQ.out.size)); clear hrd hq)
    | ((with_reducible refine (C3 _ _ _ _ _ H1.out H2.out).out.mono ?_); rintro e w3 ⟨A3, c3, rfl, -, hq⟩; replace HQ := Lib.hid (HQ.out.trans (hq.mono HQ.out.size)); clear hq))
  go_ret
  exact ⟨rfl, HQ.out⟩
theorem take_map_ofP {ks : List (List Pc)} {j : Nat} {l : List Pc} (h : ks[j]? = some l) : (ks.take (j + 1)).map ofP = (ks.take j).map ofP ++ [ofP l] := by rw [List.take_add_one, h, List.map_append]; rfl
set_option maxRecDepth 100000 in
set_option maxHeartbeats 8000000 in
theorem kw_joins (A : Option Addr) (c n : Nat) (ks : List (List Pc)) (hn : n = ks.length) (h4 : n ≤ 1000) (hc : CapN 8000 20000 ks.flatten) (U : List Pc) (hU : ofP ks.flatten = U) (N : Nat) (hN : N = U.length) (w : World) (hr : RdPP w A c ks) :
    Calls Tryz.prog 26 #[.slice A n c] w (RetP w N U) := by
  have HN := Lib.hid hn
  have HC := Lib.hid hc
  have HU := Lib.hid hU
  have HNN := Lib.hid hN
  have HR := Lib.hid (Deep.Rd.lives hr)
  have hcx : n ≤ c := by rw [hn]; exact hr.room
  have hcU : CapN 16001 20000 U := hU ▸ hc.of.mono (by omega) (by omega)
  have C2 := fun A c w h => Lib.hid (own_is A c N U hN hcU (by omega) (by omega) w h)
  clear hn hc hU hN hr hcU
  go_enter Tryz.func26, Tryz.ntmps26
  go_wp2_with fail
  go_loopw [3, 8] (fun vs i wr => ∃ j : Nat, j ≤ n ∧ Hid (dSlP.Own wr w.heap.size (fun _ => True) vs ((ks.take j).map ofP)) ∧ i = .int .i64 j ∧ Hid (Below w.heap.size w wr)) (fun _ i _ => n - (intOf i).toNat)
  case atStart => exact ⟨0, by omega, Deep.Own.nil _ _ _, rfl, Below.refl _ _⟩
  case round =>
    obtain ⟨j, hj, HO, rfl, HW⟩ := hrel
    by_cases hlt : j < n
    · obtain ⟨l, hg, -, hlm⟩ := get_some (l := ks) (k := j) (by have := HN.out; omega)
      obtain ⟨b, o, A1, n1, c1, rfl, hb1, c0, hn1, hrd⟩ := rows_atS (HR.out.keep (keptS_under HW.out fun g h => h.2)) hg
      obtain ⟨Y, hY⟩ : ∃ Y, ofP l = Y := ⟨_, rfl⟩
      obtain ⟨NY, hNY⟩ : ∃ N, N = Y.length := ⟨_, rfl⟩
      have C1 := Lib.hid (kw_tidy (fun g => True ∧ g < w.heap.size) A1 c1 n1 l hn1 (HC.out.mem hlm) Y hY NY hNY wr hrd)
      have HT := Lib.hid (take_map_ofP hg)
      rw [hY] at HT
      have HNY := Lib.hid hNY
      obtain ⟨VS, hVS⟩ : ∃ VS, VS = u3 := ⟨_, rfl⟩
      subst hVS
      have HLT := Lib.hid (fun g (h : VS.ownBlock = some g) => HO.out.lt g h)
      have HWS := Lib.hid HW.out.size
      have hj0 : (0 : Int) ≤ (j : Int) := by omega
      have hjn : (j : Int) < (n : Int) := by omega
      clear hg hlm hn1 hrd hY hNY
      go_upto_region 5 with fail
      obtain ⟨bs, hown, hall⟩ := HO.out
      have hlj : bs.length ≤ 1000 := by rw [hall.1, List.length_map, List.length_take]; omega
      have HKO := Lib.hid hown
      have HKA := Lib.hid hall
      clear hown hall
      go_wp2_with (first
        | ((with_reducible refine C1.out.mono ?_); rintro e w3 ⟨A3, c3, rfl, hrd, hq⟩; replace HKO := Lib.hid (Kind.Own.alloc (Kind.Own.below HKO.out hq) (.cells #[.slice A3 NY c3] 22)); replace HKA := Lib.hid ((HKA.out.keep (keptS_below hq _)).keep (keptS_below (below_new w3 (.cells #[.slice A3 NY c3] 22)) _)); have HREL := Lib.hid (show dSlP.rel (w3.alloc (.cells #[.slice A3 NY c3] 22)) (fun g => True ∧ VS.ownBlock ≠ some g) ⟨A3, NY, c3⟩ Y from ⟨HNY.out, (Deep.Rd.call hrd (below_new w3 _)).mono fun g hg => ⟨trivial, fun e => by have := HLT.out g e; rcases hg with hg | hg; (have := hg.2; omega); omega⟩⟩); have HW3 := Lib.hid ((HW.out.trans (hq.mono HW.out.size)).alloc (Nat.le_trans HW.out.size hq.size) (.cells #[.slice A3 NY c3] 22)); have HRW := Lib.hid (show RowAt (w3.alloc (.cells #[.slice A3 NY c3] 22)) (w3.heap.size + 1) (some ⟨w3.heap.size, 0, none⟩) (kSlP.row [⟨A3, NY, c3⟩]) from (Kind.rd_new (k := kSlP) (l := [⟨A3, NY, c3⟩]) rfl rfl (by simp)).row); have HLE := Lib.hid (show bs.length + [(⟨A3, NY, c3⟩ : SlP)].length ≤ 1000000 by rw [List.length_singleton]; omega); have HSZ := Lib.hid HW3.out.size; clear hrd hq)
        | (at_builtin; refine wpList_app_k kSlP rfl (.tmp 12) (.tmp 15) rfl w.heap.size _ bs rfl HKO.out _ (some ⟨w3.heap.size, 0, none⟩) 1 1 [⟨A3, NY, c3⟩] rfl rfl HRW.out HLE.out (by decide) HSZ.out ?_; intro v7 w7 hown7 hg7 hb7 hv7; have HO7 := Lib.hid (Deep.Own.app HKA.out (.one HREL.out) hown7 hg7 hv7); have HW7 := Lib.hid (HW3.out.trans hb7); clear hown7 hg7 hb7 hv7))
      go_roundw
      case measure => simp [intOf]; omega
      case rel => exact ⟨j + 1, by omega, by rw [HT.out]; exact HO7.out, by go_num, HW7⟩
    · have HTK := Lib.hid (show ks.take j = ks from List.take_of_length_le (by have := HN.out; omega))
      rw [HTK.out] at HO
      obtain ⟨NL, hNL⟩ : ∃ NL, NL = (ks.map ofP).length := ⟨_, rfl⟩
      obtain ⟨A7, c7, rfl, hrd⟩ := HO.out.rd hNL (fun _ _ => trivial)
      have C := Lib.hid (kw_join NL (fun _ => True) A7 c7 NL _ hNL (Nat.le_refl _) (by rw [hNL, List.length_map]; have := HN.out; omega) (fun l hl => by
        obtain ⟨p, hp, rfl⟩ := List.mem_map.1 hl
        exact ofP_right p) (HC.out.ofPs.mono (by have := HN.out; omega) (Nat.le_refl _)) U (by rw [ofPs_of]; exact HU.out) N HNN.out wr hrd)
      clear hNL hrd HO
      go_wp2_with (first
        | ((with_reducible refine C.out.mono ?_); rintro e w2 ⟨A8, c8, rfl, hrd, hq⟩; have HD := Lib.hid (show RdPc w2 A8 c8 U from Deep.Rd.all hrd); have HQ := Lib.hid (HW.out.trans (hq.mono HW.out.size)); clear hrd hq)
        | ((with_reducible refine (C2 _ _ _ HD.out).out.mono ?_); rintro e w4 ⟨A4, c4, rfl, hrd, hq⟩; have H4 := Lib.hid hrd; have HQ4 := Lib.hid (HQ.out.trans (hq.mono HQ.out.size)); clear hrd hq))
      go_ret
      exact ⟨A4, c4, rfl, H4.out, HQ4.out⟩
end Go.Proofs.YtaodifpnfejbbaaGreat

/-
  Layer 15 (know), the program: one set of some ranges; some versions of a key; have two the same?
-/
namespace Go.Proofs.YtaodifpnfejbbaaGreat
open Go.RowKit

theorem allD_append : ∀ (a b : List Rng) (dn : List Pc) (S : List Kn), allD dn (a ++ b) S = allD (allD dn a S) b S
  | [], _, _, _ => rfl
  | r :: a, b, dn, S => allD_append a b (putP dn r S) S
theorem allD_take {l : List Rng} {j : Nat} {r : Rng} (h : l[j]? = some r) (dn : List Pc) (S : List Kn) : allD dn (l.take (j + 1)) S = putP (allD dn (l.take j) S) r S := by
  rw [List.take_add_one, h, allD_append]; rfl
set_option maxRecDepth 100000 in
set_option maxHeartbeats 8000000 in
theorem kw_all (D A : Option Addr) (e c q n : Nat) (l : List Rng) (S : List Kn) (hq : q = l.length) (hn : n = S.length) (hql : q ≤ 1000) (hc : CapN 8000 20000 (allPc l S)) (hr : ∀ r, (runsV S r).length ≤ 200000) (U : List Pc) (hU : ofP (allPc l S) = U) (N : Nat) (hN : N = U.length) (w : World) (hl : kRng.Rd w w.heap.size D e l) (hs : RdK w w.heap.size A c S) :
    Calls Tryz.prog 25 #[.slice D q e, .slice A n c] w (RetP w N U) := by
  obtain ⟨Y, hY⟩ : ∃ Y, ofS S = Y := ⟨_, rfl⟩
  obtain ⟨NY, hNY⟩ : ∃ N, Y.length = N := ⟨_, rfl⟩
  obtain ⟨L, hL⟩ : ∃ L, normV l = L := ⟨_, rfl⟩
  obtain ⟨Q, hQ⟩ : ∃ Q, L.length = Q := ⟨_, rfl⟩
  have hQl : Q ≤ 2002 := by have h := makeV_len1 l; rw [hL, hQ] at h; omega
  have hcU : CapN 16001 20000 U := hU ▸ hc.of.mono (by omega) (by omega)
  have C1 := Lib.hid (vs_of_new A c n S hn hr Y hY NY hNY w hs)
  have C2 := fun w h => Lib.hid ((rgs_of D e q l hq hql w h).mono fun (e' : Ending) (w' : World) (h : RetR w (normV l) e' w') => show ∃ A c, e' = .returned (.slice A Q c) ∧ kRng.Rd w' w'.heap.size A c L ∧ Below w.heap.size w w' from by rw [hL] at h; obtain ⟨A, c, h1, h2, h3⟩ := h; exact ⟨A, c, by rw [h1, hQ], h2, h3⟩)
  have C3 := fun A c w h => Lib.hid (own_is A c N U hN hcU (by omega) (by omega) w h)
  have HU := Lib.hid (show allD [] L Y = U by rw [← hL, ← hY, ← hU]; exact allD_all l S)
  have HL := Lib.hid hl
  have HNN := Lib.hid hN
  have HQ := Lib.hid hQ
  have HNY := Lib.hid hNY
  clear hq hn hql hc hr hU hN hl hs hY hNY hL hQ hcU
  go_enter Tryz.func25, Tryz.ntmps25
  go_wp2_with (first
    | ((with_reducible refine C1.out.mono ?_); rintro e w1 ⟨A1, c1, rfl, hrd, hq⟩; have HS := Lib.hid hrd; replace HL := Lib.hid (HL.out.call hq); have HW := Lib.hid hq; clear hrd hq)
    | ((with_reducible refine (C2 _ HL.out).out.mono ?_); rintro e w2 ⟨D2, e2, rfl, hrd, hq⟩; have HR := Lib.hid hrd; replace HS := Lib.hid ((Deep.Rd.call HS.out hq).lives); replace HW := Lib.hid (HW.out.trans (hq.mono HW.out.size)); clear hrd hq))
  clear C1 C2 HL
  have hQe : Q ≤ e2 := by rw [← HQ.out]; exact HR.out.room
  go_loopw [5, 13] (fun vo i wr => ∃ j : Nat, j ≤ Q ∧ Hid (dPc.Own wr w2.heap.size (fun _ => True) vo (allD [] (L.take j) Y)) ∧ i = .int .i64 j ∧ Hid (Below w2.heap.size w2 wr)) (fun _ i _ => Q - (intOf i).toNat)
  case atStart => exact ⟨0, by omega, Deep.Own.nil _ _ _, rfl, Below.refl _ _⟩
  case round =>
    obtain ⟨j, hj, HO, rfl, HW2⟩ := hrel
    by_cases hlt : j < Q
    · obtain ⟨r, hg, -, -⟩ := get_some (l := L) (k := j) (by have := HQ.out; omega)
      obtain ⟨b, o, rfl, hb1, hcell⟩ := rngs_at (HR.out.below HW2.out) (by have := HQ.out; omega)
      obtain ⟨p0, p1, p2⟩ := hcell j r hg
      replace hb1 := Nat.lt_of_lt_of_le hb1 HW2.out.size
      have hT := allD_take hg [] Y
      obtain ⟨dn, hdn⟩ : ∃ dn, allD [] (L.take j) Y = dn := ⟨_, rfl⟩
      obtain ⟨U2, hU2⟩ : ∃ U2, allD [] (L.take (j + 1)) Y = U2 := ⟨_, rfl⟩
      rw [hdn, hU2] at hT
      have hdl : dn.length ≤ j := by
        have h := allD_len Y (L.take j) []
        rw [hdn, List.length_nil, List.length_take] at h
        omega
      rw [hdn] at HO
      obtain ⟨n9, hn9⟩ : ∃ N, N = dn.length := ⟨_, rfl⟩
      obtain ⟨A9, c9, rfl, -⟩ := HO.out.rd hn9 (fun _ _ => trivial)
      obtain ⟨S1, hS1⟩ : ∃ S, str r.lo = S := ⟨_, rfl⟩
      obtain ⟨S2, hS2⟩ : ∃ S, str r.hi = S := ⟨_, rfl⟩
      obtain ⟨z, hz⟩ : ∃ q, r.op = q := ⟨_, rfl⟩
      rw [hS1] at p0
      rw [hS2] at p1
      rw [hz] at p2
      obtain ⟨w6, hw6⟩ : ∃ w6, wr.alloc (.cells #[.string S1, .string S2, .bool z] 42) = w6 := ⟨_, rfl⟩
      have h6 : Below wr.heap.size wr w6 := hw6 ▸ below_new _ _
      obtain ⟨g0, g1, g2⟩ := rng_cells hw6
      have HW6 := Lib.hid (HW2.out.trans (h6.mono HW2.out.size))
      have HO6 := Lib.hid (HO.out.below h6)
      have HX := Lib.hid ((Deep.Rd.keep HS.out (keptS_under HW6.out fun g h => h.2)).mono (T := fun g => True ∧ (Value.slice A9 n9 c9).ownBlock ≠ some g) fun g hg => ⟨trivial, fun e => by have := (HO6.out.lt g e).1; have := hg.2; omega⟩)
      have PP := Lib.hid (kw_put (fun _ => True) A9 n9 c9 dn w2.heap.size hn9 r S1 S2 z ⟨hS1, hS2, hz⟩ A1 c1 NY Y HNY.out.symm (by omega) U2 hT.symm w6 HW6.out.size HO6.out HX.out)
      have HU2 := Lib.hid hU2
      have hj0 : (0 : Int) ≤ (j : Int) := by omega
      have hjn : (j : Int) < (Q : Int) := by omega
      clear hcell hg hT hdn hU2 hdl hn9 hS1 hS2 hz h6 HO HO6 HX
      go_wp2_with ((with_reducible refine PP.out.mono ?_); rintro e9 w9 ⟨v10, rfl, hop, hq, -⟩; have HO10 := Lib.hid hop; have HW10 := Lib.hid (HW6.out.trans hq); clear hop hq)
      go_roundw
      case measure => simp [intOf]; omega
      case rel => exact ⟨j + 1, by omega, by rw [HU2.out]; exact HO10, by go_num, HW10⟩
    · have HTK := Lib.hid (show allD [] (L.take j) Y = U by rw [List.take_of_length_le (by have := HQ.out; omega)]; exact HU.out)
      rw [HTK.out] at HO
      obtain ⟨A7, c7, rfl, hrd⟩ := HO.out.rd HNN.out (fun _ _ => trivial)
      have C4 := C3 A7 c7 wr hrd
      clear hrd HO C3
      go_wp2_with ((with_reducible refine C4.out.mono ?_); rintro e w4 ⟨A4, c4, rfl, hrd, hq⟩; have H4 := Lib.hid hrd; have HQ4 := Lib.hid (HW2.out.trans (hq.mono HW2.out.size)); clear hrd hq)
      go_ret
      exact ⟨A4, c4, rfl, H4.out, HW.out.trans (HQ4.out.mono HW.out.size)⟩
theorem adds_none_right (l : List Vr) : rightS (addsS [] l) = true := addS_fold_right l (ofS_right [])
theorem capN_adds (s : List UInt8) (l : List Vr) : CapN 1 l.length [⟨ofR s, addsS [] l⟩] := by
  have hrun : ∀ r, (runsV (addsS [] l) r).length ≤ l.length := fun r => by
    have h := adds_runs l (ofS []) r
    rw [ofS_nil] at h
    unfold addsS
    rw [ofS_nil]
    have h2 : (runsV [] r).length = 0 := rfl
    omega
  refine ⟨by simp, fun p hp => ?_, fun p hp r => ?_, fun x r => ?_⟩
  · rw [List.mem_singleton] at hp
    subst hp
    refine ⟨?_, ?_, upS_length (adds_none_right l)⟩
    · by_cases h : s.length ≤ 16
      · rw [ofR_short h]; show s.length ≤ 1000; omega
      · rw [ofR_long (by omega)]; exact Nat.zero_le _
    · by_cases h : s.length ≤ 16
      · rw [ofR_short h]; show (s ++ [0]).length ≤ 1000; rw [List.length_append, List.length_singleton]; omega
      · rw [ofR_long (by omega)]; exact Nat.zero_le _
  · rw [List.mem_singleton] at hp
    subst hp
    exact hrun r
  · show (runsV (setP ⟨ofR s, addsS [] l⟩ x ++ []) r).length ≤ _
    rw [List.append_nil]
    cases hh : hasR (ofR s) x with
    | false => rw [setP_no (p := ⟨ofR s, addsS [] l⟩) hh]; exact Nat.zero_le _
    | true => rw [setP_yes (p := ⟨ofR s, addsS [] l⟩) hh]; exact hrun r
set_option maxRecDepth 100000 in
set_option maxHeartbeats 4000000 in
theorem kw_add (A B : Option Addr) (c d n m : Nat) (k : List Pc) (s : List UInt8) (X : ByteArray) (l : List Vr) (hn : n = k.length) (hX : str s = X) (hm : m = l.length) (hml : m ≤ 1000) (hc : CapN 7000 15000 k) (U : List Pc) (hU : joinP k (oneP s l) = U) (N : Nat) (hN : N = U.length) (w : World) (ha : RdPc w A c k) (hb : kVr.Rd w w.heap.size B d l) :
    Calls Tryz.prog 22 #[.slice A n c, .string X, .slice B m d] w (RetP w N U) := by
  obtain ⟨v, hv⟩ : ∃ v, rightB s = v := ⟨_, rfl⟩
  have C0 := fun w => Lib.hid (right_is s X hX v hv w)
  cases v with
  | false =>
    have C1 := Lib.hid (kw_of A c n k hn (hc.mono (by omega) (by omega)) U ((addP_no k s l hv).trans hU) N hN w ha)
    clear hn hX hm hml hc hU hN ha hb hv
    go_enter Tryz.func22, Tryz.ntmps22
    go_wp2_with (first
      | ((with_reducible refine (C0 _).out.mono ?_); rintro e w1 ⟨rfl, rfl⟩)
      | ((with_reducible refine C1.out.mono ?_); rintro e w1 ⟨A1, c1, rfl, hrd, hq⟩; have H1 := Lib.hid hrd; have HQ := Lib.hid hq; clear hrd hq))
    go_ret
    exact ⟨A1, c1, rfl, H1.out, HQ.out⟩
  | true =>
    have hs16 : s.length ≤ 16 := by
      have h := hv
      unfold rightB at h
      rw [Bool.and_eq_true, decide_eq_true_eq, decide_eq_true_eq] at h
      exact h.2
    obtain ⟨Y, hY⟩ : ∃ Y, addsS [] l = Y := ⟨_, rfl⟩
    obtain ⟨NY, hNY⟩ : ∃ N, Y.length = N := ⟨_, rfl⟩
    obtain ⟨r, hr⟩ : ∃ r, ofR s = r := ⟨_, rfl⟩
    obtain ⟨S1, hS1⟩ : ∃ S, str r.lo = S := ⟨_, rfl⟩
    obtain ⟨S2, hS2⟩ : ∃ S, str r.hi = S := ⟨_, rfl⟩
    obtain ⟨z, hz⟩ : ∃ q, r.op = q := ⟨_, rfl⟩
    have hIs : IsR r S1 S2 z := ⟨hS1, hS2, hz⟩
    have hcp : CapN 1 1000 [(⟨r, Y⟩ : Pc)] := by have h := capN_adds s l; rw [hr, hY] at h; exact h.mono (Nat.le_refl _) (by omega)
    have hUj : ofP [k, [(⟨r, Y⟩ : Pc)]].flatten = U := by
      rw [show [k, [(⟨r, Y⟩ : Pc)]].flatten = k ++ [⟨r, Y⟩] by simp, ← hU, ← hr, ← hY]
      exact addP_one k s l hv
    have hcj : CapN 8000 20000 [k, [(⟨r, Y⟩ : Pc)]].flatten := by
      rw [show [k, [(⟨r, Y⟩ : Pc)]].flatten = k ++ [⟨r, Y⟩] by simp]
      exact (hc.append hcp).mono (by omega) (by omega)
    have C1 := fun w => Lib.hid (span_of s r X S1 S2 z hX (by omega) hr hIs w)
    have C2 := fun w h => Lib.hid (vs_add_new none B 0 d 0 m [] l rfl hm (by omega) (fun r => Nat.zero_le _) Y hY NY hNY w ⟨[], Kind.Rd.nil _ _, rfl, fun i k x h => by cases h⟩ h)
    have C3 := fun A c w h => Lib.hid (kw_joins A c 2 [k, [(⟨r, Y⟩ : Pc)]] rfl (by omega) hcj U hUj N hN w h)
    have HIS := Lib.hid (show PcIs ⟨r, Y⟩ S1 S2 z NY from ⟨hIs, hNY.symm⟩)
    have HA := Lib.hid ha
    have HB := Lib.hid hb
    have HN := Lib.hid hn
    clear hn hX hm hml hc hU hN ha hb hv hs16 hY hNY hr hS1 hS2 hz hIs hcp hUj hcj
    go_enter Tryz.func22, Tryz.ntmps22
    go_wp2_with (first
      | ((with_reducible refine (C0 _).out.mono ?_); rintro e w1 ⟨rfl, rfl⟩)
      | ((with_reducible refine (C1 _).out.mono ?_); rintro e w1 ⟨rfl, hq⟩; replace HA := Lib.hid (HA.out.call hq); replace HB := Lib.hid (HB.out.call hq); have HQ := Lib.hid hq; clear hq)
      | ((with_reducible refine (C2 _ HB.out).out.mono ?_); rintro e w2 ⟨A2, c2, rfl, hrd, hq⟩; obtain ⟨w4, hw4⟩ : ∃ w4, w2.alloc (.cells #[.string S1, .string S2, .bool z, .slice A2 NY c2] 44) = w4 := ⟨_, rfl⟩; have h4 : Below w2.heap.size w2 w4 := hw4 ▸ below_new _ _; have HP := Lib.hid (show RdPc w4 (some ⟨w2.heap.size, 0, none⟩) 1 [⟨r, Y⟩] from hw4 ▸ Deep.Rd.all (single_rd HIS.out hrd)); replace HA := Lib.hid ((HA.out.call hq).call h4); obtain ⟨w5, hw5⟩ : ∃ w5, w4.alloc (.cells #[.slice A n c, .slice (some ⟨w2.heap.size, 0, none⟩) 1 1] 22) = w5 := ⟨_, rfl⟩; have h5 : Below w4.heap.size w4 w5 := hw5 ▸ below_new _ _; have HPP := Lib.hid (show RdPP w5 (some ⟨w4.heap.size, 0, none⟩) 2 [k, [⟨r, Y⟩]] from hw5 ▸ rdPP_two HN.out rfl HA.out HP.out); replace HQ := Lib.hid (((HQ.out.trans (hq.mono HQ.out.size)).trans (h4.mono (Nat.le_trans HQ.out.size hq.size))).trans (h5.mono (Nat.le_trans (Nat.le_trans HQ.out.size hq.size) h4.size))); clear hrd hq h4 h5)
      | ((with_reducible refine (C3 _ _ _ HPP.out).out.mono ?_); rintro e w6 ⟨A6, c6, rfl, hrd, hq⟩; have H6 := Lib.hid hrd; replace HQ := Lib.hid (HQ.out.trans (hq.mono HQ.out.size)); clear hrd hq))
    go_ret
    exact ⟨A6, c6, rfl, H6.out, HQ.out⟩
theorem sameP_cons (x y : Pc) (a b : List Pc) : sameP (x :: a) (y :: b) = ((eqR x.rng y.rng && sameS x.set y.set) && sameP a b) := rfl
/-- A piece held against another one. -/
theorem kw_same1 (x y : Pc) (S1 T1 S2 T2 : ByteArray) (r1 r2 : Bool) (A B : Option Addr) (c d n m : Nat) (hx : PcIs x S1 T1 r1 n) (hy : PcIs y S2 T2 r2 m) (v : Bool) (hv : (eqR x.rng y.rng && sameS x.set y.set) = v) (w : World) (ha : RdK w w.heap.size A c x.set) (hb : RdK w w.heap.size B d y.set) :
    Calls Tryz.prog 66 #[.agg #[.string S1, .string T1, .bool r1, .slice A n c], .agg #[.string S2, .string T2, .bool r2, .slice B m d]] w fun e w' => e = .returned (.bool v) ∧ Below w.heap.size w w' := by
  obtain ⟨⟨e1, e2, e3⟩, hn⟩ := hx
  obtain ⟨⟨e4, e5, e6⟩, hm⟩ := hy
  obtain ⟨z, hz⟩ : ∃ z, sameS x.set y.set = z := ⟨_, rfl⟩
  obtain ⟨p, hp⟩ : ∃ p, eqR x.rng y.rng = p := ⟨_, rfl⟩
  have hz2 : decide (x.set = y.set) = z := by rw [Bool.eq_iff_iff, decide_eq_true_eq, ← hz, sameS_iff]
  have EQ := fun w => eq_rngs x.rng y.rng p hp w
  rw [e1, e2, e3, e4, e5, e6] at EQ
  have hb2 := below_two w (.cells #[.string S1, .string T1, .bool r1, .slice A n c] 44) (.cells #[.string S2, .string T2, .bool r2, .slice B m d] 44)
  have C := Lib.hid (kw_alike A B c d n m x.set y.set hn hm z hz2 _ (ha.call hb2) (hb.call hb2))
  have HB := Lib.hid hb2
  rw [hz, hp] at hv
  clear ha hb hn hm hz hz2 hp hb2 e1 e2 e3 e4 e5 e6
  subst hv
  cases p
  · go_enter Tryz.func66, Tryz.ntmps66
    go_wp2_with fail
    go_ret
    exact ⟨rfl, HB.out⟩
  · go_enter Tryz.func66, Tryz.ntmps66
    go_wp2_with ((with_reducible refine C.out.mono ?_); rintro e w1 ⟨rfl, hq⟩; have HQ := Lib.hid hq; clear hq)
    go_ret
    exact ⟨rfl, HB.out.trans (HQ.out.mono HB.out.size)⟩
set_option maxRecDepth 100000 in
set_option maxHeartbeats 2000000 in
theorem kw_equalP (A B : Option Addr) (c d n m : Nat) (a b : List Pc) (hn : n = a.length) (hm : m = b.length) (v : Bool) (hv : sameP a b = v) (w : World) (ha : RdPc w A c a) (hb : RdPc w B d b) :
    Calls Tryz.prog 65 #[.slice A n c, .slice B m d, .func (.func 66) #[] #[]] w fun e w' => e = .returned (.bool v) ∧ Below w.heap.size w w' := by
  have HN := Lib.hid hn
  have HM := Lib.hid hm
  have HA := Lib.hid ha
  have HB := Lib.hid hb
  have hmx := ha.max hn
  have hmy := hb.max hm
  have hcx : n ≤ c := by rw [hn]; exact ha.room
  have hcy : m ≤ d := by rw [hm]; exact hb.room
  subst hv
  by_cases hnm : n = m
  · subst hnm
    clear hn hm ha hb
    go_enter Tryz.func65, Tryz.ntmps65
    go_wp2_with fail
    go_loopw [17] (fun i wr => ∃ k : Nat, k ≤ n ∧ Hid (sameP a b = sameP (a.drop k) (b.drop k)) ∧ i = .int .i64 k ∧ Hid (Below w.heap.size w wr)) (fun i _ => n - (intOf i).toNat)
    case atStart => exact ⟨0, by omega, rfl, rfl, Below.refl _ _⟩
    case round =>
      obtain ⟨k, hk, HL, rfl, HW⟩ := hrel
      by_cases hlt : k < n
      · obtain ⟨x, hg, hd, -⟩ := cnt_get (l := a) (k := k) (by have := HN.out; omega)
        obtain ⟨y, hg', hd', -⟩ := cnt_get (l := b) (k := k) (by have := HM.out; omega)
        obtain ⟨b1, o1, A1, n1, c1, S1, T1, r1, rfl, hb1, hIs1, hn1, hr1, p0, p1, p2, p3⟩ := (HA.out.call HW.out).at_ hg
        obtain ⟨b2, o2, A2, n2, c2, S2, T2, r2, rfl, hb2, hIs2, hn2, hr2, q0, q1, q2, q3⟩ := (HB.out.call HW.out).at_ hg'
        obtain ⟨z, hz⟩ : ∃ z, (eqR x.rng y.rng && sameS x.set y.set) = z := ⟨_, rfl⟩
        have hbb : Below wr.heap.size wr ((wr.alloc (.cells #[.string S1, .string T1, .bool r1, .slice A1 n1 c1] 44)).alloc (.cells #[.string S2, .string T2, .bool r2, .slice A2 n2 c2] 44)) := below_two _ _ _
        have C := Lib.hid (kw_same1 x y S1 T1 S2 T2 r1 r2 A1 A2 c1 c2 n1 n2 ⟨hIs1, hn1⟩ ⟨hIs2, hn2⟩ z hz _ (hr1.call hbb) (hr2.call hbb))
        have HW1 := Lib.hid (HW.out.trans (hbb.mono HW.out.size))
        have HL2 := Lib.hid (HL.out.trans (show sameP (a.drop k) (b.drop k) = (z && sameP (a.drop (k + 1)) (b.drop (k + 1))) by rw [hd, hd', sameP_cons, hz]))
        have hk0 : (0 : Int) ≤ (k : Int) := by omega
        have hkn : (k : Int) < (n : Int) := by omega
        have tr := (bcell (below_new wr (.cells #[.string S1, .string T1, .bool r1, .slice A1 n1 c1] 44))).1
        have q0b := (tr _ _ hb2).trans q0
        have q1b := (tr _ _ hb2).trans q1
        have q2b := (tr _ _ hb2).trans q2
        have q3b := (tr _ _ hb2).trans q3
        clear hg hg' hd hd' hz hIs1 hIs2 hr1 hr2 hn1 hn2 hbb tr
        cases z
        · go_wp2_with ((with_reducible refine C.out.mono ?_); rintro e w2 ⟨rfl, hq⟩; have HW2 := Lib.hid (HW1.out.trans (hq.mono HW1.out.size)); clear hq)
          go_ret
          exact ⟨ret_bool HL2.out.symm, HW2.out⟩
        · go_wp2_with ((with_reducible refine C.out.mono ?_); rintro e w2 ⟨rfl, hq⟩; have HW2 := Lib.hid (HW1.out.trans (hq.mono HW1.out.size)); clear hq)
          go_roundw
          case rel => exact ⟨k + 1, by omega, HL2, by go_num, HW2⟩
          case measure => simp [intOf]; omega
      · have HL2 := Lib.hid (HL.out.trans (show sameP (a.drop k) (b.drop k) = true by rw [List.drop_eq_nil_of_le (by have := HN.out; omega), List.drop_eq_nil_of_le (by have := HM.out; omega)]; rfl))
        go_wp2_with fail
        go_ret
        exact ⟨ret_bool HL2.out.symm, HW.out⟩
  · have HE := Lib.hid (sameP_len (a := a) (b := b) (by omega))
    have hne : ((n : Int) == (m : Int)) = false := beq_eq_false_iff_ne.2 (by omega)
    have hne2 : ((n : Int) != (m : Int)) = true := by rw [bne, hne]; rfl
    clear hn hm ha hb hnm
    go_enter Tryz.func65, Tryz.ntmps65
    go_wp2_with fail
    go_ret
    exact ⟨ret_bool HE.out.symm, Below.refl _ _⟩
set_option maxRecDepth 100000 in
set_option maxHeartbeats 2000000 in
theorem kw_same (A B : Option Addr) (c d n m : Nat) (a b : List Pc) (hn : n = a.length) (hm : m = b.length) (ha : CapN 8000 20000 a) (hb : CapN 8000 20000 b) (v : Bool) (hv : v = true ↔ ofP a = ofP b) (w : World) (hra : RdPc w A c a) (hrb : RdPc w B d b) :
    Calls Tryz.prog 31 #[.slice A n c, .slice B m d] w fun e w' => e = .returned (.bool v) ∧ Below w.heap.size w w' := by
  obtain ⟨n1, hn1⟩ : ∃ n, n = (ofP a).length := ⟨_, rfl⟩
  obtain ⟨m1, hm1⟩ : ∃ n, n = (ofP b).length := ⟨_, rfl⟩
  have hs : sameP (ofP a) (ofP b) = v := by rw [Bool.eq_iff_iff, sameP_iff, hv]
  have C1 := Lib.hid (kw_tidy (fun _ => True) A c n a hn ha (ofP a) rfl n1 hn1 w hra)
  have C2 := fun w h => Lib.hid (kw_tidy (fun _ => True) B d m b hm hb (ofP b) rfl m1 hm1 w h)
  have C3 := fun A B c d w h1 h2 => Lib.hid (kw_equalP A B c d n1 m1 (ofP a) (ofP b) hn1 hm1 v hs w h1 h2)
  have HB := Lib.hid (show dPc.Rd w (fun _ => True) B d b from hrb)
  clear hn hm ha hb hra hrb hn1 hm1 hv hs
  go_enter Tryz.func31, Tryz.ntmps31
  go_wp2_with (first
    | ((with_reducible refine C1.out.mono ?_); rintro e w1 ⟨A1, c1, rfl, hrd, hq⟩; have H1 := Lib.hid (show RdPc w1 A1 c1 (ofP a) from Deep.Rd.all hrd); replace HB := Lib.hid (Deep.Rd.call HB.out hq); have HQ := Lib.hid hq; clear hrd hq)
    | ((with_reducible refine (C2 _ HB.out).out.mono ?_); rintro e w2 ⟨A2, c2, rfl, hrd, hq⟩; have H2 := Lib.hid (show RdPc w2 A2 c2 (ofP b) from Deep.Rd.all hrd); replace H1 := Lib.hid (H1.out.call hq); replace HQ := Lib.hid (HQ.out.trans (hq.mono HQ.out.size)); clear hrd hq)
    | ((with_reducible refine (C3 _ _ _ _ _ H1.out H2.out).out.mono ?_); rintro e w3 ⟨rfl, hq⟩; replace HQ := Lib.hid (HQ.out.trans (hq.mono HQ.out.size)); clear hq))
  go_ret
  exact ⟨rfl, HQ.out⟩
end Go.Proofs.YtaodifpnfejbbaaGreat
