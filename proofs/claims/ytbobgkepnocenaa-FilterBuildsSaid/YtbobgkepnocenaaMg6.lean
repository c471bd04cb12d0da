/-
  Several texts in one: RgsH, Sorted, ShelfSort, RgsI, RgsJ, RgsK, RgsL, RgsSwp, RgsM, Law08H, FltK, FltL.
-/
import Derived.Shelf.SlSortCmp.WholeK
import Derived.Shelf.SlSortCmp.NoneTotal
import Derived.Test.YtbobgkepnocenaaProg
import Derived.Deep.CutRange
import Derived.Test.YtbobgkepnocenaaMg5
/-
  Layer 8 (ranges), the program: is a list right.
-/
namespace Go.Proofs.Ytbobgkepnocenaa
open Go.RowKit

end Go.Proofs.Ytbobgkepnocenaa

/-
  A row of the call's own, sorted by the library (slices.SortFunc at elements of several cells): what is asked of it, and what it holds behind.
-/
namespace Go.Proofs.Ytbobgkepnocenaa
open Go.RowKit Go.Sort

theorem grown_sortK {α : Type} [Inhabited α] {enc : α → List Value} {k : Nat} {w : World} {g m : Nat} {os : Array Obj} (d : Array α) : w.grownBy (sortWorldK enc k w g 0 m d os) (some g) := by
  unfold sortWorldK putRowK
  refine ⟨rfl, rfl, rfl, by simp, fun j hj hne => ?_⟩
  rw [heap_grow_old _ _ (by simpa using hj)]
  have : g ≠ j := fun e => hne (by rw [e])
  simp [putRow, mapBlock, Sort.ahead, Array.getElem?_modify, this]
theorem heap_sortK {α : Type} [Inhabited α] {enc : α → List Value} {k : Nat} {w : World} {g m : Nat} {os : Array Obj} {cur : Array Value} {e : TypeId} {fr : Nat × Nat} (d : Array α) (hb : w.heap[g]? = some (.cells cur e fr)) :
    (sortWorldK enc k w g 0 m d os).heap[g]? = some (.cells (putCells id 0 (flatK enc k d) cur) e fr) := by
  have hg : g < w.heap.size := (Array.getElem?_eq_some_iff.1 hb).1
  unfold sortWorldK putRowK
  rw [heap_grow_old _ _ (by simpa using hg)]
  simp [putRow, mapBlock, Sort.ahead, Array.getElem?_modify, hb, onCells]
theorem take_putCells_id (cur F : Array Value) (h : F.size ≤ cur.size) : (putCells id 0 F cur).toList.take F.size = F.toList := by
  apply List.ext_getElem?
  intro j
  by_cases hj : j < F.size
  · rw [List.getElem?_take_of_lt hj, Array.getElem?_toList, Array.getElem?_toList]
    simp [putCells, hj, show j < cur.size by omega]
  · rw [List.getElem?_take_eq_none (by omega), List.getElem?_eq_none (by simp; omega)]
namespace Kind
variable {P : Program} {α : Type} [Inhabited α] (K : Kind P α)
theorem flat_row (d : Array α) : (flatK K.cells K.size d).toList = K.row d.toList := by
  apply List.ext_getElem (by rw [K.row_len]; simp)
  intro t h1 h2
  have ht : t < d.size * K.size := by simpa using h1
  have hk : 0 < K.size := K.pos
  have hq : t / K.size < d.size := Nat.div_lt_of_lt_mul (by rw [Nat.mul_comm]; exact ht)
  have hr : t % K.size < K.size := Nat.mod_lt _ hk
  have e : t / K.size * K.size + t % K.size = t := by rw [Nat.mul_comm]; exact Nat.div_add_mod t K.size
  have hx : d.toList[t / K.size]? = some d[t / K.size]! := by rw [Array.getElem?_toList, getElem!_pos d _ hq, Array.getElem?_eq_getElem hq]
  have := K.row_get hx hr
  rw [e, List.getElem?_eq_getElem h2, List.getElem?_eq_getElem (by rw [K.len]; exact hr)] at this
  injection this with this
  rw [this]
  simp only [flatK, Array.toList_map, Array.toList_range, List.getElem_map, List.getElem_range]
  rw [getElem!_pos _ _ (by rw [K.len]; exact hr)]
variable {K}
theorem Own.holdsK {w : World} {base g n c : Nat} {l : List α} (h : K.Own w base (.slice (some ⟨g, 0, none⟩) n c) l) : HoldsK K.cells K.size w g 0 l.toArray ∧ (l ≠ [] → g < w.heap.size) := by
  rcases h.2 with ⟨h0, _⟩ | ⟨g', cap, cur, hv, hg, hb, hc, _, hz, ht⟩
  · cases h0
  · injection hv with hA
    injection hA with hA
    injection hA with hA
    subst hA
    refine ⟨fun j hj => ?_, fun _ => lt_of_block hb⟩
    have hj' : j < l.length * K.size := by simpa using hj
    refine ⟨?_, by simp [World.frozen?, hb]⟩
    rw [cell_of_row _ _ _ cur _ (0, 0) hb, ← Array.getElem?_toList, Nat.zero_add]
    have h1 : (cur.toList.take (l.length * K.size))[j]? = (K.row l)[j]? := by rw [ht]
    rw [List.getElem?_take_of_lt hj'] at h1
    have h2 := K.flat_row l.toArray
    rw [List.toList_toArray] at h2
    rw [h1, ← h2, Array.getElem?_toList, Array.getElem?_eq_getElem hj, getElem!_pos (flatK K.cells K.size l.toArray) j hj]
    rfl
theorem Own.sorted {w : World} {base g n c m : Nat} {l : List α} {os : Array Obj} (h : K.Own w base (.slice (some ⟨g, 0, none⟩) n c) l) (d : Array α) (hd : d.size = l.length) (hn : n = l.length) :
    K.Own (sortWorldK K.cells K.size w g 0 m d os) base (.slice (some ⟨g, 0, none⟩) n c) d.toList := by
  subst hn
  rcases h.2 with ⟨h0, _⟩ | ⟨g', cap, cur, hv, hg, hb, hc, hm, hz, ht⟩
  · cases h0
  · injection hv with hA h5 h6
    injection hA with hA
    injection hA with hA
    subst hA h6
    have e : d.toList.length = l.length := by rw [Array.length_toList, hd]
    refine ⟨by rw [K.row_len], .inr ⟨g, c, _, by rw [e], hg, heap_sortK d hb, by rw [e]; exact hc, hm, by simp [putCells, hz], ?_⟩⟩
    rw [e, ← K.flat_row, ← hd, ← size_flatK K.cells K.size d]
    refine take_putCells_id _ _ ?_
    rw [size_flatK, hz, hd]
    exact Nat.mul_le_mul_right _ hc
end Kind
theorem perm_of_permIn {α : Type} [Inhabited α] {l : List α} {d : Array α} (h : PermIn 0 l.toArray.size l.toArray d) : d.toList.Perm l := by
  obtain ⟨h1, _, h3⟩ := h
  rw [← h1, Array.extract_size, h1, Array.extract_size] at h3
  simpa using h3
theorem pairs_of_sortedIn {α : Type} [Inhabited α] {lt : α → α → Bool} {d : Array α} (h : SortedIn lt 0 d.size d) : d.toList.Pairwise fun a b => lt b a = false := by
  rw [List.pairwise_iff_getElem]
  intro i j hi hj hij
  have hi' : i < d.size := by simpa using hi
  have hj' : j < d.size := by simpa using hj
  have := h i j (Nat.zero_le _) hij hj'
  rw [getElem!_pos d i hi', getElem!_pos d j hj'] at this
  simpa using this
end Go.Proofs.Ytbobgkepnocenaa

/-
  The shelf's contracts at this program, in plain words (made by wip/tools/shelf.py).
-/
namespace Go.Proofs
open Go.Shelf
def Try.sortRg_ren : Go.Shelf.Ren := ⟨fun | 6 => 67 | 15 => 75 | 14 => 74 | 28 => 86 | 29 => 87 | 20 => 78 | 21 => 79 | 22 => 80 | 23 => 81 | 24 => 82 | 25 => 83 | 26 => 84 | 27 => 85 | 46 => 89 | 47 => 90 | 48 => 91 | 49 => 92 | 50 => 93 | 57 => 94 | n => n, fun | 22 => 25 | 24 => 45 | 25 => 67 | 3 => 3 | 39 => 88 | 0 => 0 | 53 => 99 | 55 => 101 | 4 => 4 | 46 => 92 | 45 => 91 | 50 => 96 | 5 => 5 | 9 => 9 | 66 => 102 | 70 => 106 | 76 => 108 | 77 => 109 | n => n, fun | n => n⟩
theorem Try.sortRg : Go.Proofs.SlLaysF0.n6 Try.prog Try.sortRg_ren := {
  mixed := by kernel_rfl
  f6 := ⟨Try.f67.name, by decide, Try.func67.trans (congrArg some (by kernel_rfl))⟩
  f14 := ⟨Try.f74.name, by decide, Try.func74.trans (congrArg some (by kernel_rfl))⟩
  f15 := Try.func75.trans (congrArg some (by kernel_rfl))
  f20 := ⟨Try.f78.name, by decide, Try.func78.trans (congrArg some (by kernel_rfl))⟩
  f21 := ⟨Try.f79.name, by decide, Try.func79.trans (congrArg some (by kernel_rfl))⟩
  f22 := ⟨Try.f80.name, by decide, Try.func80.trans (congrArg some (by kernel_rfl))⟩
  f23 := ⟨Try.f81.name, by decide, Try.func81.trans (congrArg some (by kernel_rfl))⟩
  f24 := ⟨Try.f82.name, by decide, Try.func82.trans (congrArg some (by kernel_rfl))⟩
  f25 := ⟨Try.f83.name, by decide, Try.func83.trans (congrArg some (by kernel_rfl))⟩
  f26 := ⟨Try.f84.name, by decide, Try.func84.trans (congrArg some (by kernel_rfl))⟩
  f27 := ⟨Try.f85.name, by decide, Try.func85.trans (congrArg some (by kernel_rfl))⟩
  f28 := Try.func86.trans (congrArg some (by kernel_rfl))
  f29 := Try.func87.trans (congrArg some (by kernel_rfl))
  f46 := ⟨Try.f89.name, by decide, Try.func89.trans (congrArg some (by kernel_rfl))⟩
  f47 := Try.func90.trans (congrArg some (by kernel_rfl))
  f48 := Try.func91.trans (congrArg some (by kernel_rfl))
  f49 := ⟨Try.f92.name, by decide, Try.func92.trans (congrArg some (by kernel_rfl))⟩
  f50 := ⟨Try.f93.name, by decide, Try.func93.trans (congrArg some (by kernel_rfl))⟩
  f57 := ⟨Try.f94.name, by decide, Try.func94.trans (congrArg some (by kernel_rfl))⟩
  t0 := Try.underlying0
  a0 := Try.isAgg0
  z0 := Try.sizeOf0
  v0 := Try.zeroValue0
  t3 := Try.underlying3
  a3 := Try.isAgg3
  z3 := Try.sizeOf3
  v3 := Try.zeroValue3
  t4 := Try.underlying4
  a4 := Try.isAgg4
  z4 := Try.sizeOf4
  v4 := Try.zeroValue4
  t5 := Try.underlying5
  a5 := Try.isAgg5
  z5 := Try.sizeOf5
  v5 := Try.zeroValue5
  t9 := Try.underlying9
  a9 := Try.isAgg9
  z9 := Try.sizeOf9
  v9 := Try.zeroValue9
  t22 := Try.underlying25
  a22 := Try.isAgg25
  z22 := Try.sizeOf25
  v22 := Try.zeroValue25
  t25 := Try.underlying67
  a25 := Try.isAgg67
  z25 := Try.sizeOf67
  v25 := Try.zeroValue67
  t39 := Try.underlying88
  a39 := Try.isAgg88
  z39 := Try.sizeOf88
  v39 := Try.zeroValue88
  t45 := Try.underlying91
  a45 := Try.isAgg91
  z45 := Try.sizeOf91
  v45 := Try.zeroValue91
  t46 := Try.underlying92
  a46 := Try.isAgg92
  z46 := Try.sizeOf92
  v46 := Try.zeroValue92
  t50 := Try.underlying96
  a50 := Try.isAgg96
  z50 := Try.sizeOf96
  v50 := Try.zeroValue96
  t53 := Try.underlying99
  a53 := Try.isAgg99
  z53 := Try.sizeOf99
  v53 := Try.zeroValue99
  t55 := Try.underlying101
  a55 := Try.isAgg101
  z55 := Try.sizeOf101
  v55 := Try.zeroValue101
  t66 := Try.underlying102
  a66 := Try.isAgg102
  z66 := Try.sizeOf102
  v66 := Try.zeroValue102
  t70 := Try.underlying106
  a70 := Try.isAgg106
  z70 := Try.sizeOf106
  v70 := Try.zeroValue106
  t76 := Try.underlying108
  a76 := Try.isAgg108
  z76 := Try.sizeOf108
  v76 := Try.zeroValue108
  t77 := Try.underlying109
  a77 := Try.isAgg109
  z77 := Try.sizeOf109
  v77 := Try.zeroValue109 }
end Go.Proofs

/-
  Layer 8 (ranges), the program: the right ones of some ranges, those that begin ahead first.
-/
namespace Go.Proofs.Ytbobgkepnocenaa
open Go.RowKit Go.Sort

instance : Inhabited Rng := ⟨zeroR⟩
def cmpLo (x y : Rng) : Int := Lib.compareBytes x.lo y.lo
theorem lt_cmpLo (x y : Rng) : ltOf cmpLo x y = ltB x.lo y.lo := by
  obtain ⟨v, hv, h1, _⟩ := cmp_test x.lo y.lo
  unfold ltOf cmpLo
  rw [hv]; exact h1
theorem swo_cmpLo : SWO (ltOf cmpLo) where
  irrefl x := by rw [lt_cmpLo]; exact ltB_irrefl _
  trans x y z h1 h2 := by rw [lt_cmpLo] at *; exact ltB_trans h1 h2
  ntrans x y z h1 h2 := by rw [lt_cmpLo] at *; exact leB_trans h2 h1
theorem rgs_closure (x y : Rng) (W : World) : Calls Try.prog 68 #[.agg (rngCells x).toArray, .agg (rngCells y).toArray] W fun e w' => e = .returned (.int .i64 (cmpLo x y)) ∧ ∃ q os', w' = grow (W.drewN q) os' := by
  have C := fun w => Lib.hid (cmp_is x.lo y.lo _ _ rfl rfl (cmpLo x y) rfl w)
  unfold rngCells
  generalize cmpLo x y = v at C ⊢
  go_enter Try.func68, Try.ntmps68
  go_wp2_with ((with_reducible refine (C _).out.mono ?_); rintro e w' ⟨rfl, rfl⟩)
  go_ret
  exact ⟨rfl, 0, _, by rw [alloc_eq_grow, alloc_eq_grow, grow_grow]; rfl⟩
theorem rgs_sort (v : Value) (f : List Rng) (base : Nat) (w : World) (h : kRng.Own w base v f) (hf : f.length ≤ 1000000) (hb : base ≤ w.heap.size) :
    Calls Try.prog 67 #[v, .func (.func 68) #[] #[]] w fun e w' => e = .returned (.tuple #[]) ∧ ∃ m, m.Perm f ∧ SortedL m ∧ kRng.Own w' base v m ∧ Below base w w' := by
  by_cases h0 : f = []
  · subst h0
    obtain ⟨A, c, rfl, _⟩ := h.form
    have K := AnyF.slices_SortFunc_none (P := Try.prog) (ρ := Try.sortRg_ren) { Try.sortRg with } A c (.func (.func 68) #[] #[]) w
    refine Calls.mono K ?_
    rintro e w' ⟨rfl, rfl⟩
    exact ⟨rfl, [], List.Perm.refl _, List.Pairwise.nil, h, Below.refl _ _⟩
  · have hp : 0 < f.length := List.length_pos_iff.2 h0
    obtain ⟨g, c, rfl, hc, hg, hgl, _, _⟩ := h.some_ rfl hp
    have hH := h.holdsK.1
    have eg : ∀ args w, (callFunc 68 args).run Try.prog w = .ok (.enter 68 args) w := enters_of Try.func68 (by kernel_rfl) rfl
    have K := AnyQ.slices_SortFunc Try.sortRg 3 Try.isAgg45 Try.sizeOf45 rngCells (fun _ => rfl) kRng.one cmpLo swo_cmpLo 68 #[] g 0 c f.toArray w eg (fun _ _ _ _ x y => rgs_closure x y _) hH hgl (by rw [List.size_toArray]; omega)
    rw [List.size_toArray] at K
    refine Calls.mono K ?_
    rintro e w' ⟨rfl, d, n, os, hpm, hst, rfl⟩
    have hd : d.size = f.length := by have := hpm.1; rwa [List.size_toArray] at this
    have hst2 := pairs_of_sortedIn (lt := ltOf cmpLo) (d := d) (by rw [hd]; exact hst)
    refine ⟨rfl, d.toList, perm_of_permIn (by rw [List.size_toArray]; exact hpm), ?_, h.sorted d hd rfl, (Below.refl _ _).grown (grown_sortK d) hb (fun j hj => by injection hj with hj; subst hj; exact hg)⟩
    unfold SortedL
    exact hst2.imp fun {a b} hab => by rw [← lt_cmpLo]; exact hab
theorem filter_next {l : List Rng} {k : Nat} {r : Rng} (h : l[k]? = some r) : (l.take (k + 1)).filter rightR = (l.take k).filter rightR ++ (match rightR r with | true => [r] | false => []) := by
  rw [List.take_add_one, h, List.filter_append]
  cases hr : rightR r <;> simp [hr]
set_option maxHeartbeats 1000000 in
theorem rgs_byBeginning (A : Option Addr) (c n : Nat) (l : List Rng) (hn : n = l.length) (hnl : n ≤ 100000) (w : World) (hr : kRng.Rd w w.heap.size A c l) :
    Calls Try.prog 49 #[.slice A n c] w fun e w' => ∃ m, m.Perm (l.filter rightR) ∧ SortedL m ∧ RetR w m e w' := by
  have HN := Lib.hid hn
  have HR := Lib.hid hr
  have hcx : n ≤ c := by rw [hn]; exact hr.room
  clear hn hr
  go_enter Try.func49, Try.ntmps49
  go_wp2_with fail
  go_loopw [3, 8] (fun v i wr => ∃ k : Nat, k ≤ n ∧ Hid (kRng.Own wr w.heap.size v ((l.take k).filter rightR)) ∧ i = .int .i64 k ∧ Below w.heap.size w wr) (fun _ i _ => n - (intOf i).toNat)
  case atStart => exact ⟨0, by omega, Kind.Own.nil _ _, rfl, Below.refl _ _⟩
  case round =>
    obtain ⟨k, hk, HO, rfl, hb⟩ := hrel
    have hol : ((l.take k).filter rightR).length ≤ k := Nat.le_trans (List.length_filter_le _ _) (by rw [List.length_take]; omega)
    by_cases hlt : k < n
    · obtain ⟨r, hg, hd, -⟩ := get_some (l := l) (k := k) (by have := HN.out; omega)
      obtain ⟨b, o, rfl, hb1, hcell⟩ := rngs_at (HR.out.below hb) (by have := HN.out; omega)
      obtain ⟨c0, c1, c2⟩ := hcell k r hg
      obtain ⟨d, hdv⟩ : ∃ d, rightR r = d := ⟨_, rfl⟩
      have C := fun w => Lib.hid (span_right r _ _ _ d (IsR.mk' r) hdv w)
      have HF := Lib.hid (filter_next hg)
      rw [hdv] at HF
      have hb2 := Nat.lt_of_lt_of_le hb1 hb.size
      have HRW := fun w => Lib.hid (rng_row w r 1 rfl).row
      have HG := Lib.hid (rgAt_new wr (str r.lo) (str r.hi) r.op 45)
      obtain ⟨X, hX⟩ : ∃ X, [r] = X := ⟨_, rfl⟩
      have HX := Lib.hid hX
      have hX1 : X.length = 1 := by rw [← hX]; rfl
      rw [hX] at HRW
      have HLE := Lib.hid (show ((l.take k).filter rightR).length + X.length ≤ 1000000 by rw [hX1]; omega)
      have HX1 := Lib.hid hX1.symm
      clear hcell hg hd hdv hX hX1
      obtain ⟨S, hS⟩ : ∃ S, str r.lo = S := ⟨_, rfl⟩
      obtain ⟨T, hT⟩ : ∃ T, str r.hi = T := ⟨_, rfl⟩
      obtain ⟨q, hq⟩ : ∃ q, r.op = q := ⟨_, rfl⟩
      rw [hS, hT, hq] at C HG HRW
      rw [hS] at c0
      rw [hT] at c1
      rw [hq] at c2
      clear hS hT hq
      have HB1 := Lib.hid (hb.alloc hb.size (.cells #[.string S, .string T, .bool q] 45))
      have HO1 := Lib.hid (HO.out.alloc (.cells #[.string S, .string T, .bool q] 45))
      cases d
      · go_wp2_with ((with_reducible refine (C _).out.mono ?_); rintro e w2 ⟨rfl, hq⟩; have HB2 := Lib.hid (HB1.out.trans (hq.mono HB1.out.size)); have HO2 := Lib.hid (HO1.out.below hq); clear hq)
        go_roundw
        case rel => exact ⟨k + 1, by omega, by have := HO2.out; rw [← List.append_nil (List.filter _ _), ← HF.out] at this; exact this, by go_num, HB2.out⟩
        case measure => simp [intOf]; omega
      · go_wp2_with (first
          | ((with_reducible refine (C _).out.mono ?_); rintro e w2 ⟨rfl, hq⟩; have HB2 := Lib.hid (HB1.out.trans (hq.mono HB1.out.size)); have HO2 := Lib.hid (HO1.out.below hq); obtain ⟨g0, g1, g2, g3⟩ := HG.out.below hq; clear hq)
          | (at_builtin; refine wpList_app_k kRng rfl (.tmp 14) (.tmp 16) rfl w.heap.size _ _ rfl (Kind.Own.alloc HO2.out _) _ (some ⟨w2.heap.size, 0, none⟩) 1 1 X HX1.out rfl (HRW w2).out HLE.out (by decide) (le_alloc (HB2.out.size) _) ?_; intro v3 w3 hown3 hg3 hb3 _; have HO3 := Lib.hid hown3; have HB3 := Lib.hid ((HB2.out.alloc HB2.out.size _).trans hb3); clear hown3 hb3 hg3))
        go_roundw
        case rel => exact ⟨k + 1, by omega, by have := HO3.out; rw [← HX.out, ← HF.out] at this; exact this, by go_num, HB3.out⟩
        case measure => simp [intOf]; omega
    · have hkn : l.take k = l := List.take_of_length_le (by have := HN.out; omega)
      rw [hkn] at HO hol
      have C := Lib.hid (rgs_sort _ _ _ wr HO.out (by omega) hb.size)
      have HOF := HO
      clear HO hkn
      go_wp2_with ((with_reducible refine C.out.mono ?_); rintro e w2 ⟨rfl, m, hm1, hm2, hm3, hm4⟩; have H1 := Lib.hid hm1; have H2 := Lib.hid hm2; have H3 := Lib.hid hm3; have H4 := Lib.hid (hb.trans hm4); clear hm1 hm2 hm3 hm4)
      go_ret
      obtain ⟨A5, c5, he, hrd⟩ := H3.out.form
      exact ⟨m, H1.out, H2.out, A5, c5, by rw [he]; rfl, hrd, H4.out⟩
end Go.Proofs.Ytbobgkepnocenaa

/-
  Layer 8 (ranges), the program: the right list of some ranges' texts.
-/
namespace Go.Proofs.Ytbobgkepnocenaa
open Go.RowKit

theorem own_last {w : World} {base g n c D : Nat} {dn : List Rng} {p : Rng} (h : kRng.Own w base (.slice (some ⟨g, 0, none⟩) n c) (dn ++ [p])) (hn : n = (dn ++ [p]).length) (hD : dn.length = D) (x : List UInt8) (T : ByteArray) (hT : str x = T) (o q : Bool) (hq : o = q) :
    kRng.Own ((w.setCell ⟨g, D * 3 + 1, none⟩ (.string T)).setCell ⟨g, D * 3 + 2, none⟩ (.bool q)) base (.slice (some ⟨g, 0, none⟩) n c) (dn ++ [⟨p.lo, x, o⟩]) := by
  subst hD hT hq
  have g1 : (dn ++ [p])[dn.length]? = some p := by rw [List.getElem?_append_right (Nat.le_refl _), Nat.sub_self]; rfl
  have h1 := h.stored (j := 1) (y := ⟨p.lo, x, p.op⟩) (v := .string (str x)) hn g1 (by decide) rfl
  rw [show (dn ++ [p]).set dn.length ⟨p.lo, x, p.op⟩ = dn ++ [⟨p.lo, x, p.op⟩] from by simp] at h1
  have g2 : (dn ++ [(⟨p.lo, x, p.op⟩ : Rng)])[dn.length]? = some ⟨p.lo, x, p.op⟩ := by rw [List.getElem?_append_right (Nat.le_refl _), Nat.sub_self]; rfl
  have h2 := h1.stored (j := 2) (y := ⟨p.lo, x, o⟩) (v := .bool o) (by rw [hn]; simp) g2 (by decide) rfl
  rw [show (dn ++ [(⟨p.lo, x, p.op⟩ : Rng)]).set dn.length ⟨p.lo, x, o⟩ = dn ++ [⟨p.lo, x, o⟩] from by simp] at h2
  exact h2
/-- The one that was begun last is right, and begins not behind those to come. -/
def LastOk (o : Option Rng) (l : List Rng) : Prop := ∀ p, o = some p → rightR p = true ∧ ∀ t ∈ l, ltB t.lo p.lo = false
theorem LastOk.none (l : List Rng) : LastOk .none l := fun p h => by cases h
theorem LastOk.new {r : Rng} {l : List Rng} (hr : rightR r = true) (hs : SortedL (r :: l)) : LastOk (some r) l := fun p h => by
  injection h with h; subst h
  exact ⟨hr, (List.pairwise_cons.1 hs).1⟩
theorem LastOk.stay {p r : Rng} {l : List Rng} (h : LastOk (some p) (r :: l)) : LastOk (some p) l := fun p' h' => by
  obtain ⟨h1, h2⟩ := h p' h'
  exact ⟨h1, fun t ht => h2 t (List.mem_cons_of_mem _ ht)⟩
theorem LastOk.more {p r : Rng} {l : List Rng} (h : LastOk (some p) (r :: l)) (hr : rightR r = true) : LastOk (some ⟨p.lo, r.hi, r.op⟩) l := fun p' h' => by
  injection h' with h'; subst h'
  obtain ⟨h1, h2⟩ := h p rfl
  exact ⟨more_right h1 hr (h2 r (List.mem_cons_self ..)), fun t ht => h2 t (List.mem_cons_of_mem _ ht)⟩
theorem SortedL.from {l : List Rng} (h : SortedL l) (k : Nat) : SortedL (l.drop k) := List.Pairwise.sublist (List.drop_sublist k l) h
theorem ends_test {p r : Rng} (hp : rightR p = true) (hr : rightR r = true) : ∃ v : Int, endsR p r = v ∧ decide (v < 0) = endLt p r := by
  refine ⟨_, rfl, ?_⟩
  cases h : endLt p r with
  | true => rw [endsR_lt hp hr h]; rfl
  | false => cases h' : endLt r p with
    | true => rw [endsR_gt hp hr h']; rfl
    | false => rw [endsR_eq h h']; rfl
/-- What is handed back: a row of ranges of the call's own. -/
def RetO (w : World) (l : List Rng) (e : Ending) (w' : World) : Prop := ∃ v, e = .returned v ∧ kRng.Own w' w.heap.size v l ∧ Below w.heap.size w w'
set_option maxHeartbeats 4000000 in
theorem rgs_of_own (A : Option Addr) (c n : Nat) (l : List Rng) (hn : n = l.length) (hnl : n ≤ 1000) (w : World) (hr : kRng.Rd w w.heap.size A c l) :
    Calls Try.prog 32 #[.slice A n c] w (RetO w (normV l)) := by
  have B0 := Lib.hid (rgs_byBeginning A c n l hn (by omega) w hr)
  have HN := Lib.hid hn
  clear hn hr
  go_enter Try.func32, Try.ntmps32
  go_wp2_with ((with_reducible refine B0.out.mono ?_); rintro e w1 ⟨m, hm1, hm2, A1, c1, rfl, hrd, hq⟩; have HM := Lib.hid (mergeL_norm hm1 hm2); have HR := Lib.hid hrd; have HB0 := Lib.hid hq; have HSS := Lib.hid hm2; have HRT := Lib.hid (show ∀ r ∈ m, rightR r = true from fun r hr => (List.mem_filter.1 (hm1.mem_iff.1 hr)).2); have hml := Nat.le_trans (Nat.le_of_eq hm1.length_eq) (List.length_filter_le _ _); clear hm1 hm2 hrd hq)
  obtain ⟨N, hN⟩ : ∃ N, m.length = N := ⟨_, rfl⟩
  rw [hN]
  have hNl : N ≤ 1000 := by have := HN.out; omega
  have HNM := Lib.hid hN
  have hcx : N ≤ c1 := by rw [← hN]; exact HR.out.room
  clear hN hml B0
  go_loopw [3, 10] (fun v i wr => ∃ (k : Nat) (dn : List Rng) (o : Option Rng), k ≤ N ∧ Hid (mergeL none m = dn ++ mergeL o (m.drop k)) ∧ Hid (kRng.Own wr w1.heap.size v (dn ++ o.toList)) ∧ Hid (o = none → dn = []) ∧ Hid (LastOk o (m.drop k)) ∧ (dn ++ o.toList).length ≤ k ∧ i = .int .i64 k ∧ Below w1.heap.size w1 wr) (fun _ i _ => N - (intOf i).toNat)
  case atStart => exact ⟨0, [], none, by omega, rfl, Kind.Own.nil _ _, fun _ => rfl, LastOk.none _, by simp, rfl, Below.refl _ _⟩
  case round =>
    obtain ⟨k, dn, o, hk, HL, HO, HE, HP, hol, rfl, hb⟩ := hrel
    by_cases hlt : k < N
    · obtain ⟨r, hg, hd, hrm⟩ := get_some (l := m) (k := k) (by have := HNM.out; omega)
      obtain ⟨b, o1, rfl, hb1, hcell⟩ := rngs_at (HR.out.below hb) (by have := HNM.out; omega)
      obtain ⟨c0, c1, c2⟩ := hcell k r hg
      have hrr := HRT.out r hrm
      have HN1 := Lib.hid (LastOk.new hrr (by rw [← hd]; exact HSS.out.from k))
      have hbl := Nat.lt_of_lt_of_le hb1 hb.size
      have HRW := fun w => Lib.hid (rng_row w r 1 rfl).row
      have HG := Lib.hid (rgAt_new wr (str r.lo) (str r.hi) r.op 45)
      obtain ⟨S, hS⟩ : ∃ S, str r.lo = S := ⟨_, rfl⟩
      obtain ⟨T, hT⟩ : ∃ T, str r.hi = T := ⟨_, rfl⟩
      obtain ⟨q, hq⟩ : ∃ q, r.op = q := ⟨_, rfl⟩
      rw [hS, hT, hq] at HG HRW
      rw [hS] at c0
      rw [hT] at c1
      rw [hq] at c2
      have HB1 := Lib.hid (hb.alloc hb.size (.cells #[.string S, .string T, .bool q] 45))
      have HO1 := Lib.hid (HO.out.alloc (.cells #[.string S, .string T, .bool q] 45))
      obtain ⟨WB, hWB⟩ : ∃ WB, wr.alloc (.cells #[.string S, .string T, .bool q] 45) = WB := ⟨_, rfl⟩
      cases o with
      | none =>
        have HL2 := Lib.hid (HL.out.trans (show dn ++ mergeL none (m.drop k) = dn ++ mergeL (some r) (m.drop (k + 1)) by rw [hd]; rfl))
        obtain rfl := HE.out rfl
        obtain ⟨A0, cp0, rfl, -⟩ := HO.out.read_n (n := 0) rfl
        have HC := Lib.hid (show CellL WB [(⟨wr.heap.size, 0, none⟩, .string S), (⟨wr.heap.size, 1, none⟩, .string T), (⟨wr.heap.size, 2, none⟩, .bool q)] WB from by rw [hWB] at HG; exact ⟨HG.out.1, HG.out.2.1, HG.out.2.2.1, Below.refl _ _⟩)
        rw [hWB] at HO1 HB1
        clear hcell hg hd hrm hrr hS hT hq HG HL HE HO
        have HW := Lib.hid hWB
        go_wp2_with fail
        clear c0 c1 c2
        clear hWB
        refine q_region (CellL WB [(⟨wr.heap.size, 0, none⟩, .string S), (⟨wr.heap.size, 1, none⟩, .string T), (⟨wr.heap.size, 2, none⟩, .bool q)]) (by kernel_rfl) (by kernel_rfl) (cellL_drew HC.out) ?_
        repeat (first
          | go_big_quiet_skip
          | (go_big_quiet_want; (first
            | (refine q_take (v := ?_) ?_ ?_; rotate_left; (focus (intro w hSw; (try simp only [CellL] at hSw); go_split_ands; go_simp; (try with_reducible rfl); done)))); (try simp only [Act.put, List.setIfInBounds_toArray, List.set_cons_zero, List.set_cons_succ]); go_big_quiet_on))
        refine wpQuiet_nil ?_
        intro w2 hw2
        have HB2 := Lib.hid (HB1.out.trans ((cellL_size hw2).mono HB1.out.size))
        have HO2 := Lib.hid (HO1.out.below (cellL_size hw2))
        simp only [CellL] at hw2
        obtain ⟨g0, g1, g2, -⟩ := hw2
        go_wp2_with (at_builtin; refine wpList_app_k kRng rfl (.tmp 27) (.tmp 29) rfl w1.heap.size _ _ rfl (Kind.Own.alloc HO2.out _) _ (some ⟨w2.heap.size, 0, none⟩) 1 1 [r] rfl rfl (HRW w2).out (by simp) (by decide) (le_alloc (HB2.out.size) _) ?_; intro v3 w3 hown3 hg3 hb3 _; have HO3 := Lib.hid hown3; have HB3 := Lib.hid ((HB2.out.alloc HB2.out.size _).trans hb3); clear hown3 hb3 hg3)
        go_roundw
        case rel => exact ⟨k + 1, [], some r, by omega, HL2, HO3.out, (fun h => by cases h), HN1.out, by simp, by go_num, HB3.out⟩
        case measure => simp [intOf]; omega
      | some p =>
        obtain ⟨D, hD⟩ : ∃ D, dn.length = D := ⟨_, rfl⟩
        have hLn : D + 1 = (dn ++ [p]).length := by rw [List.length_append, hD]; rfl
        have hD9 : D ≤ 1000 := by have h := hol; rw [show (some p).toList = [p] from rfl, ← hLn] at h; omega
        obtain ⟨g, cp, rfl, hcp, hgb, -, -, -⟩ := HO.out.some_ hLn (by omega)
        have hga : (dn ++ [p])[D]? = some p := by rw [← hD, List.getElem?_append_right (Nat.le_refl _), Nat.sub_self]; rfl
        have HP1 := Lib.hid (show LastOk (some p) (r :: m.drop (k + 1)) from by rw [← hd]; exact HP.out)
        have hpr := (HP.out p rfl).1
        obtain ⟨x, hx⟩ : ∃ x, gapR p r = x := ⟨_, rfl⟩
        have CA := fun w => (rg_apart p r _ _ S T _ q x (IsR.mk' p) ⟨hS, hT, hq⟩ hx w)
        have CA := Lib.hid (fun L => cellL_of (a := WB) (l := L) CA)
        obtain ⟨ev, hev, het⟩ := ends_test hpr hrr
        have CE := fun w => (span_ends p r _ _ S T _ q (IsR.mk' p) ⟨hS, hT, hq⟩ ev hev w)
        have CE := Lib.hid (fun L => cellL_of (a := WB) (l := L) CE)
        have HLP := Lib.hid (HL.out.trans (by rw [hd]))
        have HX1 := Lib.hid (fun h : x = true => mergeL_gap (l := m.drop (k + 1)) (hx.trans h))
        obtain ⟨y, hy⟩ : ∃ y, endLt p r = y := ⟨_, rfl⟩
        rw [hy] at het
        have HX2 := Lib.hid (fun h : x = false => mergeL_last (l := m.drop (k + 1)) (hx.trans h))
        have HY := Lib.hid hy
        have HTT := Lib.hid hT
        have HQQ := Lib.hid hq
        rw [hWB] at HO1 HB1 HG
        have HGA := Lib.hid hga
        have HLN := Lib.hid hLn
        have HDD := Lib.hid hD
        have HRR := Lib.hid hrr
        obtain ⟨U, hU⟩ : ∃ U, str p.lo = U := ⟨_, rfl⟩
        obtain ⟨V, hV⟩ : ∃ V, str p.hi = V := ⟨_, rfl⟩
        obtain ⟨pm, hpm⟩ : ∃ pm, p.op = pm := ⟨_, rfl⟩
        obtain ⟨-, hgl, hfz, hcs⟩ := HO1.out.at_g hLn (by omega)
        have e0 := hcs D p hga 0 _ rfl
        have e1 := hcs D p hga 1 _ rfl
        have e2 := hcs D p hga 2 _ rfl
        change WB.cell? ⟨g, D * 3 + 0, none⟩ = some (.string (str p.lo)) at e0
        change WB.cell? ⟨g, D * 3 + 1, none⟩ = some (.string (str p.hi)) at e1
        change WB.cell? ⟨g, D * 3 + 2, none⟩ = some (.bool p.op) at e2
        rw [Nat.add_zero] at e0
        rw [hU, hV, hpm] at CA CE
        rw [hU] at e0
        rw [hV] at e1
        rw [hpm] at e2
        have HC := Lib.hid (show CellL WB [(⟨wr.heap.size, 0, none⟩, .string S), (⟨wr.heap.size, 1, none⟩, .string T), (⟨wr.heap.size, 2, none⟩, .bool q), (⟨g, D * 3, none⟩, .string U), (⟨g, D * 3 + 1, none⟩, .string V), (⟨g, D * 3 + 2, none⟩, .bool pm)] WB from ⟨HG.out.1, HG.out.2.1, HG.out.2.2.1, e0, e1, e2, Below.refl _ _⟩)
        have hj0 : (0 : Int) ≤ (D : Int) := by omega
        have hjn : (D : Int) < (D : Int) + 1 := by omega
        have hjd : decide ((D : Int) < 0) = false := decide_eq_false (by omega)
        have hjw : IntKind.i64.wrap ((D : Int) + 1 - 1) = (D : Int) := by rw [Int.add_sub_cancel]; exact IntWalk.i64_in _ (by omega)
        have hjw2 : IntKind.i64.wrap (D : Int) = (D : Int) := IntWalk.i64_in _ (by omega)
        clear hcell hg hd hrm hrr hpr hS hT hq HG HL HE HO HP hLn hga hD hx hy hev hU hV hpm hgl hfz hcs e0 e1 e2
        have HET := Lib.hid het
        clear het
        go_wp2_with fail
        clear c0 c1 c2 hWB
        cases x
        case true =>
          have HL2 := Lib.hid (HLP.out.trans (show dn ++ mergeL (some p) (r :: m.drop (k + 1)) = (dn ++ [p]) ++ mergeL (some r) (m.drop (k + 1)) by rw [HX1.out rfl, List.append_assoc]; rfl))
          clear HX1 HX2 HET HY CE
          refine q_region (CellL WB [(⟨wr.heap.size, 0, none⟩, .string S), (⟨wr.heap.size, 1, none⟩, .string T), (⟨wr.heap.size, 2, none⟩, .bool q), (⟨g, D * 3, none⟩, .string U), (⟨g, D * 3 + 1, none⟩, .string V), (⟨g, D * 3 + 2, none⟩, .bool pm)]) (by kernel_rfl) (by kernel_rfl) (cellL_drew HC.out) ?_
          repeat (first
            | go_big_quiet_skip
            | (go_big_quiet_want; (first
              | (refine q_take (v := ?_) ?_ ?_; rotate_left; (focus (intro w hSw; (try simp only [CellL] at hSw); go_split_ands; go_simp; (try with_reducible rfl); done)))
              | (refine q_call (CA.out _) ?_ ?_; (focus (intro w hSw; (try simp only [CellL] at hSw); go_split_ands; go_simp; done)))); (try simp only [Act.put, List.setIfInBounds_toArray, List.set_cons_zero, List.set_cons_succ]); go_big_quiet_on))
          refine wpQuiet_nil ?_
          intro w2 hw2
          have HB2 := Lib.hid (HB1.out.trans ((cellL_size hw2).mono HB1.out.size))
          have HO2 := Lib.hid (HO1.out.below (cellL_size hw2))
          simp only [CellL] at hw2
          obtain ⟨g0, g1, g2, -⟩ := hw2
          have HLE := Lib.hid (show (dn ++ [p]).length + [r].length ≤ 1000000 by rw [← HLN.out, List.length_singleton]; omega)
          go_wp2_with (at_builtin; refine wpList_app_k kRng rfl (.tmp 27) (.tmp 29) rfl w1.heap.size _ _ rfl (Kind.Own.alloc HO2.out _) _ (some ⟨w2.heap.size, 0, none⟩) 1 1 [r] rfl rfl (HRW w2).out HLE.out (by decide) (le_alloc (HB2.out.size) _) ?_; intro v3 w3 hown3 hg3 hb3 _; have HO3 := Lib.hid hown3; have HB3 := Lib.hid ((HB2.out.alloc HB2.out.size _).trans hb3); clear hown3 hb3 hg3)
          go_roundw
          case rel => exact ⟨k + 1, dn ++ [p], some r, by omega, HL2, HO3.out, (fun h => by cases h), HN1.out, by have h1 := HLN.out; rw [List.length_append, ← h1]; have h2 := hol; rw [show (some p).toList = [p] from rfl, ← h1] at h2; show D + 1 + 1 ≤ k + 1; omega, by go_num, HB3.out⟩
          case measure => simp [intOf]; omega
        case false =>
          have HLL := Lib.hid (HLP.out.trans (by rw [HX2.out rfl]))
          clear HX1 HX2
          refine q_region (CellL WB [(⟨wr.heap.size, 0, none⟩, .string S), (⟨wr.heap.size, 1, none⟩, .string T), (⟨wr.heap.size, 2, none⟩, .bool q), (⟨g, D * 3, none⟩, .string U), (⟨g, D * 3 + 1, none⟩, .string V), (⟨g, D * 3 + 2, none⟩, .bool pm)]) (by kernel_rfl) (by kernel_rfl) (cellL_drew HC.out) ?_
          repeat (first
            | go_big_quiet_skip
            | (go_big_quiet_want; (first
              | (refine q_take (v := ?_) ?_ ?_; rotate_left; (focus (intro w hSw; (try simp only [CellL] at hSw); go_split_ands; go_simp; (try with_reducible rfl); done)))
              | (refine q_call (CA.out _) ?_ ?_; (focus (intro w hSw; (try simp only [CellL] at hSw); go_split_ands; go_simp; done)))); (try simp only [Act.put, List.setIfInBounds_toArray, List.set_cons_zero, List.set_cons_succ]); go_big_quiet_on))
          refine wpQuiet_nil ?_
          intro w2 hw2
          have HW2 := Lib.hid hw2
          clear hw2
          go_wp2_with fail
          have het := HET.out
          refine q_region (CellL WB [(⟨wr.heap.size, 0, none⟩, .string S), (⟨wr.heap.size, 1, none⟩, .string T), (⟨wr.heap.size, 2, none⟩, .bool q), (⟨g, D * 3, none⟩, .string U), (⟨g, D * 3 + 1, none⟩, .string V), (⟨g, D * 3 + 2, none⟩, .bool pm)]) (by kernel_rfl) (by kernel_rfl) (cellL_drew HW2.out) ?_
          repeat (first
            | go_big_quiet_skip
            | (go_big_quiet_want; (first
              | (refine q_take (v := ?_) ?_ ?_; rotate_left; (focus (intro w hSw; (try simp only [CellL] at hSw); go_split_ands; go_simp; (try with_reducible rfl); done)))
              | (refine q_call (CE.out _) ?_ ?_; (focus (intro w hSw; (try simp only [CellL] at hSw); go_split_ands; go_simp; done)))); (try simp only [Act.put, List.setIfInBounds_toArray, List.set_cons_zero, List.set_cons_succ]); go_big_quiet_on))
          refine wpQuiet_nil ?_
          intro w3 hw3
          have HB3 := Lib.hid (HB1.out.trans ((cellL_size hw3).mono HB1.out.size))
          have HO3 := Lib.hid (HO1.out.below (cellL_size hw3))
          simp only [CellL] at hw3
          obtain ⟨g0, g1, g2, e0, e1, e2, -⟩ := hw3
          cases y
          · have HL2 := Lib.hid (HLL.out.trans (by rw [show lastR p r = p from by unfold lastR; rw [HY.out]]))
            go_wp2_with fail
            go_roundw
            case rel => exact ⟨k + 1, dn, some p, by omega, HL2, HO3.out, (fun h => by cases h), HP1.out.stay, by omega, by go_num, HB3.out⟩
            case measure => simp [intOf]; omega
          · have HL2 := Lib.hid (HLL.out.trans (by rw [show lastR p r = ⟨p.lo, r.hi, r.op⟩ from by unfold lastR; rw [HY.out]]))
            obtain ⟨hg1, hgl, hfz, -⟩ := HO3.out.at_g HLN.out (by omega)
            have HOF := Lib.hid (own_last HO3.out HLN.out HDD.out r.hi T HTT.out r.op q HQQ.out)
            have HBF := Lib.hid ((HB3.out.setCell (p := ⟨g, D * 3 + 1, none⟩) hg1 (.string T)).setCell (p := ⟨g, D * 3 + 2, none⟩) hg1 (.bool q))
            go_wp2_with fail
            go_region
            go_wp2_with fail
            go_roundw
            case rel => exact ⟨k + 1, dn, some ⟨p.lo, r.hi, r.op⟩, by omega, HL2, HOF.out, (fun h => by cases h), HP1.out.more HRR.out, by have h2 := hol; simp at h2 ⊢; omega, by go_num, HBF.out.drew⟩
            case measure => simp [intOf]; omega
    · have HL2 := Lib.hid (HL.out.trans (show dn ++ mergeL o (m.drop k) = dn ++ o.toList by rw [List.drop_eq_nil_of_le (by have := HNM.out; omega)]; cases o <;> rfl))
      go_wp2_with fail
      go_ret
      have e := HM.out.symm.trans HL2.out
      refine ⟨_, rfl, ?_, HB0.out.trans (hb.mono HB0.out.size)⟩
      rw [e]
      exact HO.out.mono HB0.out.size
theorem rgs_of (A : Option Addr) (c n : Nat) (l : List Rng) (hn : n = l.length) (hnl : n ≤ 1000) (w : World) (hr : kRng.Rd w w.heap.size A c l) :
    Calls Try.prog 32 #[.slice A n c] w (RetR w (normV l)) := (rgs_of_own A c n l hn hnl w hr).mono fun _ _ ⟨v, he, ho, hb⟩ => by
  obtain ⟨A5, c5, rfl, hrd⟩ := ho.form
  exact ⟨A5, c5, he, hrd, hb⟩
theorem makeV_len1 (l : List Rng) : (normV l).length ≤ 2 * l.length + 2 := by
  have h1 := mkR_len (inV 1 l []) (edgesL (l ++ [])) none
  have h2 := edgesL_len (l ++ [])
  rw [List.append_nil] at h1 h2
  unfold normV makeV
  rw [List.append_nil]
  omega
end Go.Proofs.Ytbobgkepnocenaa

/-
  Layer 8 (ranges), the program: a list that is not swept yet.
-/
namespace Go.Proofs.Ytbobgkepnocenaa
open Go.RowKit

theorem RgAt.grown {w w' : World} {row : Option Nat} {g : Nat} {S T : ByteArray} {o : Bool} (h : RgAt w g S T o) (hg : w.grownBy w' row) (hne : some g ≠ row) : RgAt w' g S T o :=
  ⟨hg.cell h.1 hne, hg.cell h.2.1 hne, hg.cell h.2.2.1 hne, fun k => (hg.frozen_far ⟨g, k, none⟩ h.lt hne).trans (h.2.2.2 k)⟩
/-- While a list's edges are gathered: s in the second block of the call, what is handed back in the first one, the list's row as it was. -/
structure BegAt (w w1 : World) (g1 : Nat) (W : World) (v : Value) (L : List (List UInt8)) : Prop where
  s0 : W.cell? ⟨w.heap.size + 1, 0, none⟩ = some (.bool false)
  s1 : W.cell? ⟨w.heap.size + 1, 1, none⟩ = some v
  sf : ∀ j, W.frozen? ⟨w.heap.size + 1, j, none⟩ = false
  r0 : W.cell? ⟨w.heap.size, 0, none⟩ = some (.bool false)
  r1 : W.cell? ⟨w.heap.size, 1, none⟩ = some (.slice none 0 0)
  rf : ∀ j, W.frozen? ⟨w.heap.size, j, none⟩ = false
  own : kStr.Own W w1.heap.size v L
  same : ∀ j, W.cell? ⟨g1, j, none⟩ = w1.cell? ⟨g1, j, none⟩
  below : Below w.heap.size w W
  size : w1.heap.size ≤ W.heap.size
theorem BegAt.alloc {w w1 W : World} {g1 : Nat} {v : Value} {L : List (List UInt8)} (h : BegAt w w1 g1 W v L) (h2 : w.heap.size + 2 ≤ w1.heap.size) (h3 : g1 < w1.heap.size) (x : Obj) : BegAt w w1 g1 (W.alloc x) v L := by
  have hz := h.size
  obtain ⟨kc, kf⟩ := bcell (below_new W x)
  exact ⟨(kc _ _ (by omega)).trans h.s0, (kc _ _ (by omega)).trans h.s1, fun j => (kf _ _ (by omega)).trans (h.sf j), (kc _ _ (by omega)).trans h.r0, (kc _ _ (by omega)).trans h.r1, fun j => (kf _ _ (by omega)).trans (h.rf j), h.own.alloc x, fun j => (kc _ _ (by omega)).trans (h.same j), h.below.alloc h.below.size x, le_alloc hz x⟩
theorem BegAt.app {w w1 W W' : World} {g1 : Nat} {v v' : Value} {L L' : List (List UInt8)} (h : BegAt w w1 g1 W v L) (h2 : w.heap.size + 2 ≤ w1.heap.size) (h3 : g1 < w1.heap.size) (h4 : g1 ≠ w.heap.size + 1) (ho : kStr.Own W' w1.heap.size v' L') (hb : Below w1.heap.size W W') :
    BegAt w w1 g1 (W'.setCell ⟨w.heap.size + 1, 1, none⟩ v') v' L' := by
  obtain ⟨kc, kf⟩ := bcell hb
  have fr : ∀ p, (W'.setCell ⟨w.heap.size + 1, 1, none⟩ v').frozen? p = W'.frozen? p := fun p => by rw [World.frozen?_setCell]
  refine ⟨set_other ((kc _ _ (by omega)).trans h.s0) (addr_off (by decide)) _, set_same ((kc _ _ (by omega)).trans h.s1) _, fun j => (fr _).trans ((kf _ _ (by omega)).trans (h.sf j)), set_other ((kc _ _ (by omega)).trans h.r0) (addr_block (by omega)) _, set_other ((kc _ _ (by omega)).trans h.r1) (addr_block (by omega)) _,
    fun j => (fr _).trans ((kf _ _ (by omega)).trans (h.rf j)), ho.other (grownBy_set _ _ _ _) (by omega), fun j => (World.cell?_setCell_other _ _ _ _ (addr_block (Ne.symm h4))).trans ((kc _ _ h3).trans (h.same j)), ?_, ?_⟩
  · exact (h.below.trans (hb.mono (by omega))).setCell (p := ⟨w.heap.size + 1, 1, none⟩) (Nat.le_succ _) _
  · have h5 := hb.size
    have h6 := h.size
    have : (W'.setCell ⟨w.heap.size + 1, 1, none⟩ v').heap.size = W'.heap.size := by simp
    omega
theorem edgesR_next {m : List Rng} {k : Nat} {r : Rng} (h : m[k]? = some r) : edgesR (m.take (k + 1)) = edgesR (m.take k) ++ (match r.op with | true => [r.lo] | false => [r.lo, r.hi]) := by
  have e : edgesR [r] = (match r.op with | true => [r.lo] | false => [r.lo, r.hi]) := by cases ho : r.op <;> simp [edgesR, ho]
  rw [List.take_add_one, h, edgesR_append]
  exact congrArg _ e
theorem row_new1 (w : World) (x : Obj) (s : List UInt8) (S : ByteArray) (hS : str s = S) : RowAt ((w.alloc x).alloc (.cells #[.string S] 9)) (w.heap.size + 1 + 1) (some ⟨w.heap.size + 1, 0, none⟩) (kStr.row [s]) := by
  subst hS
  have := (Kind.rd_new (k := kStr) (w := w.alloc x) (cs := #[.string (str s)]) (l := [s]) (t := 9) (n := 1) rfl rfl (by simp)).row
  rwa [size1] at this
theorem row_newS (w : World) (p : Addr) (v : Value) (s : List UInt8) (S : ByteArray) (hS : str s = S) : RowAt ((w.setCell p v).alloc (.cells #[.string S] 9)) (w.heap.size + 1) (some ⟨w.heap.size, 0, none⟩) (kStr.row [s]) := by
  subst hS
  have := (Kind.rd_new (k := kStr) (w := w.setCell p v) (cs := #[.string (str s)]) (l := [s]) (t := 9) (n := 1) rfl rfl (by simp)).row
  rwa [show (w.setCell p v).heap.size = w.heap.size from by simp] at this
set_option maxHeartbeats 4000000 in
theorem rgs_begin (A : Option Addr) (c n : Nat) (l : List Rng) (hn : n = l.length) (hnl : n ≤ 1000) (w : World) (hr : kRng.Rd w w.heap.size A c l) :
    Calls Try.prog 64 #[.slice A n c] w fun e w' => ∃ A' c', e = .returned (.agg #[.bool false, .slice A' (edgesR (normV l)).length c']) ∧ kStr.Rd w' w'.heap.size A' c' (edgesR (normV l)) ∧ Below w.heap.size w w' := by
  have hml := makeV_len1 l
  have C := fun W (h : Below w.heap.size w W) => Lib.hid (rgs_of_own A c n l hn hnl W (hr.call h))
  have HB0 := Lib.hid (((Below.refl w.heap.size w).alloc (Nat.le_refl _) (.cells #[.bool false, .slice none 0 0] 77)).alloc (by simp) (.cells #[.bool false, .slice none 0 0] 77))
  have HN := Lib.hid hn
  clear hn hr
  go_enter Try.func64, Try.ntmps64
  go_wp2_with ((with_reducible refine (C _ HB0.out).out.mono ?_); rintro e w1 ⟨v1, rfl, ho, hq⟩; have HO := Lib.hid ho; have HQ := Lib.hid hq; obtain ⟨A1, c1, rfl, hrd⟩ := ho.form; have HR := Lib.hid hrd; clear ho hq hrd)
  obtain ⟨N, hN⟩ : ∃ N, (normV l).length = N := ⟨_, rfl⟩
  obtain ⟨M, hM⟩ : ∃ M, normV l = M := ⟨_, rfl⟩
  rw [hN] at HO hml ⊢
  rw [hM] at HO HR hN
  have HMM := Lib.hid hM
  have hN9 : N ≤ 2002 := by have := HN.out; omega
  have HNM := Lib.hid hN
  have hcx : N ≤ c1 := by rw [← hN]; exact HR.out.room
  have hz2 : w.heap.size + 2 ≤ w1.heap.size := by have := HQ.out.size; simp at this; omega
  have H0 : ∃ g1, g1 < w1.heap.size ∧ g1 ≠ w.heap.size + 1 ∧ (0 < N → A1 = some ⟨g1, 0, none⟩ ∧ ∀ k r, M[k]? = some r → w1.cell? ⟨g1, k * 3, none⟩ = some (.string (str r.lo)) ∧ w1.cell? ⟨g1, k * 3 + 1, none⟩ = some (.string (str r.hi)) ∧ w1.cell? ⟨g1, k * 3 + 2, none⟩ = some (.bool r.op)) := by
    by_cases hp : 0 < N
    · obtain ⟨g, cp, hv, -, h1, h2, -, h4⟩ := HO.out.some_ hN.symm hp
      injection hv with hA
      refine ⟨g, h2, ?_, fun _ => ⟨hA, fun k r hr => ⟨h4 k r hr 0 _ rfl, h4 k r hr 1 _ rfl, h4 k r hr 2 _ rfl⟩⟩⟩
      simp at h1; omega
    · exact ⟨w.heap.size, by omega, by omega, fun h => absurd h hp⟩
  obtain ⟨g1, hg1, hg2, H0⟩ := H0
  have H0 := Lib.hid H0
  have HS : Hid (BegAt w w1 g1 w1 (.slice none 0 0) []) := by
    obtain ⟨kc, kf⟩ := bcell HQ.out
    have q0 := fun j => kc w.heap.size j (by simp; omega)
    have q1 := fun j => kc (w.heap.size + 1) j (by simp)
    have f0 := fun j => kf w.heap.size j (by simp; omega)
    have f1 := fun j => kf (w.heap.size + 1) j (by simp)
    have hh0 : ((w.alloc (.cells #[.bool false, .slice none 0 0] 77)).alloc (.cells #[.bool false, .slice none 0 0] 77)).heap[w.heap.size]? = some (.cells #[.bool false, .slice none 0 0] 77 (0, 0)) := heap_old _ (heap_new w _ _ rfl)
    have hh1 : ((w.alloc (.cells #[.bool false, .slice none 0 0] 77)).alloc (.cells #[.bool false, .slice none 0 0] 77)).heap[w.heap.size + 1]? = some (.cells #[.bool false, .slice none 0 0] 77 (0, 0)) := by
      have := heap_new (w.alloc (.cells #[.bool false, .slice none 0 0] 77)) (.cells #[.bool false, .slice none 0 0] 77) _ rfl
      rwa [size1] at this
    refine ⟨(q1 0).trans ?_, (q1 1).trans ?_, fun j => (f1 j).trans ?_, (q0 0).trans ?_, (q0 1).trans ?_, fun j => (f0 j).trans ?_, Kind.Own.nil _ _, fun _ => rfl, HB0.out.trans (HQ.out.mono (by simp; omega)), Nat.le_refl _⟩
    · rw [cell_of_row _ _ _ _ _ _ hh1]; rfl
    · rw [cell_of_row _ _ _ _ _ _ hh1]; rfl
    · unfold World.frozen?; rw [hh1]; simp
    · rw [cell_of_row _ _ _ _ _ _ hh0]; rfl
    · rw [cell_of_row _ _ _ _ _ _ hh0]; rfl
    · unfold World.frozen?; rw [hh0]; simp
  clear hN hml hM C HB0 HQ HO HR
  go_loopw [9] (fun i wr => ∃ (k : Nat) (v : Value), k ≤ N ∧ Hid (BegAt w w1 g1 wr v (edgesR (M.take k))) ∧ i = .int .i64 k) (fun i _ => N - (intOf i).toNat)
  case atStart => exact ⟨0, _, by omega, HS, rfl⟩
  case round =>
    obtain ⟨k, v, hk, HB, rfl⟩ := hrel
    by_cases hlt : k < N
    · obtain ⟨r, hg, hd, -⟩ := get_some (l := M) (k := k) (by have := HNM.out; omega)
      obtain ⟨rfl, hcell⟩ := H0.out (by omega)
      obtain ⟨c0, c1, c2⟩ := hcell k r hg
      rw [← HB.out.same] at c0 c1 c2
      have HX := Lib.hid (edgesR_next hg)
      have HLK := Lib.hid (show (edgesR (M.take k)).length ≤ 10000 by have := edgesR_len (M.take k); rw [List.length_take] at this; omega)
      obtain ⟨S, hS⟩ : ∃ S, str r.lo = S := ⟨_, rfl⟩
      obtain ⟨T, hT⟩ : ∃ T, str r.hi = T := ⟨_, rfl⟩
      obtain ⟨q, hq⟩ : ∃ q, r.op = q := ⟨_, rfl⟩
      have HG := Lib.hid (rgAt_new wr S T q 45)
      have HB1 := Lib.hid (HB.out.alloc hz2 hg1 (.cells #[.string S, .string T, .bool q] 45))
      have HLT := Lib.hid (show some wr.heap.size ≠ v.ownBlock from fun hv => Nat.lt_irrefl _ (HB.out.own.lt _ hv.symm).2)
      have HR1 := Lib.hid (row_new1 wr (.cells #[.string S, .string T, .bool q] 45) r.lo S hS)
      have HR2 := fun w0 p0 v0 => Lib.hid (row_newS w0 p0 v0 r.hi T hT)
      obtain ⟨N1, hN1⟩ : ∃ N1, (edgesR (M.take k) ++ [r.lo]).length = N1 := ⟨_, rfl⟩
      obtain ⟨N2, hN2⟩ : ∃ N2, (edgesR (M.take k) ++ [r.lo] ++ [r.hi]).length = N2 := ⟨_, rfl⟩
      have HN1 := Lib.hid hN1.symm
      have HN2 := Lib.hid hN2.symm
      clear hN1 hN2
      rw [hq] at HX
      rw [hS] at c0
      rw [hT] at c1
      rw [hq] at c2
      have HLE1 := Lib.hid (show (edgesR (M.take k)).length + [r.lo].length ≤ 1000000 by have := HLK.out; rw [List.length_singleton]; omega)
      have HLE2 := Lib.hid (show (edgesR (M.take k) ++ [r.lo]).length + [r.hi].length ≤ 1000000 by have := HLK.out; rw [List.length_append, List.length_singleton, List.length_singleton]; omega)
      have hl3 : w.heap.size + 1 < w1.heap.size := by omega
      have hgr : wr.heap.size ≠ w.heap.size + 1 := by have := HB.out.size; omega
      have HSZ := Lib.hid HB1.out.size
      obtain ⟨s0, s1, sf, -, -, -, -, -, -, -⟩ := HB1.out
      obtain ⟨g0, g1', g2, g3⟩ := HG.out
      clear hcell hg hd hS hT hq HB
      have HLL := Lib.hid hl3
      have HGR := Lib.hid hgr
      clear hl3 hgr
      cases q
      · go_wp2_with (first
          | (at_builtin; refine wpList_app_k kStr rfl (.tmp 14) (.tmp 17) rfl w1.heap.size _ _ rfl (Kind.Own.alloc HB1.out.own _) _ (some ⟨wr.heap.size + 1, 0, none⟩) 1 1 [r.lo] rfl rfl HR1.out HLE1.out (by decide) (le_alloc HSZ.out _) ?_; intro v3 w3 hown3 hg3 hb3 _; obtain ⟨A3, c3, rfl, -⟩ := hown3.read_n HN1.out; have HQ3 := Lib.hid (HB1.out.alloc hz2 hg1 (.cells #[.string S] 9)); have HB2 := Lib.hid (HQ3.out.app hz2 hg1 hg2 hown3 hb3); have HG2 := Lib.hid (((HG.out.keep (.cells #[.string S] 9)).grown hg3 HLT.out).other (g' := w.heap.size + 1) (k := 1) (Ne.symm HGR.out) (.slice A3 N1 c3)); have HSZ2 := Lib.hid HB2.out.size; replace s1 := ((bcell hb3).1 _ _ HLL.out).trans HQ3.out.s1; have sf3 := fun j => ((bcell hb3).2 _ j HLL.out).trans (HQ3.out.sf j); obtain ⟨g0, g1', g2, g3⟩ := HG2.out; clear hown3 hg3 hb3)
          | (at_builtin; refine wpList_app_k kStr rfl (.tmp 24) (.tmp 27) rfl w1.heap.size _ _ rfl (Kind.Own.alloc HB2.out.own _) _ (some ⟨w3.heap.size, 0, none⟩) 1 1 [r.hi] rfl rfl (HR2 w3 _ _).out HLE2.out (by decide) (le_alloc HSZ2.out _) ?_; intro v4 w4 hown4 hg4 hb4 _; obtain ⟨A4, c4, rfl, -⟩ := hown4.read_n HN2.out; have HQ4 := Lib.hid (HB2.out.alloc hz2 hg1 (.cells #[.string T] 9)); have HB3 := Lib.hid (HQ4.out.app hz2 hg1 hg2 hown4 hb4); have s2 := ((bcell hb4).1 _ _ HLL.out).trans HQ4.out.s1; have sf4 := fun j => ((bcell hb4).2 _ j HLL.out).trans (HQ4.out.sf j); clear hown4 hg4 hb4))
        go_roundw
        case rel => exact ⟨k + 1, _, by omega, by rw [HX.out]; have := HB3.out; rw [List.append_assoc] at this; exact this, by go_num⟩
        case measure => simp [intOf]; omega
      · go_wp2_with (first
          | (at_builtin; refine wpList_app_k kStr rfl (.tmp 14) (.tmp 17) rfl w1.heap.size _ _ rfl (Kind.Own.alloc HB1.out.own _) _ (some ⟨wr.heap.size + 1, 0, none⟩) 1 1 [r.lo] rfl rfl HR1.out HLE1.out (by decide) (le_alloc HSZ.out _) ?_; intro v3 w3 hown3 hg3 hb3 _; obtain ⟨A3, c3, rfl, -⟩ := hown3.read_n HN1.out; have HQ3 := Lib.hid (HB1.out.alloc hz2 hg1 (.cells #[.string S] 9)); have HB2 := Lib.hid (HQ3.out.app hz2 hg1 hg2 hown3 hb3); have HG2 := Lib.hid (((HG.out.keep (.cells #[.string S] 9)).grown hg3 HLT.out).other (g' := w.heap.size + 1) (k := 1) (Ne.symm HGR.out) (.slice A3 N1 c3)); have HSZ2 := Lib.hid HB2.out.size; replace s1 := ((bcell hb3).1 _ _ HLL.out).trans HQ3.out.s1; have sf3 := fun j => ((bcell hb3).2 _ j HLL.out).trans (HQ3.out.sf j); obtain ⟨g0, g1', g2, g3⟩ := HG2.out; clear hown3 hg3 hb3))
        go_roundw
        case rel => exact ⟨k + 1, _, by omega, by rw [HX.out]; exact HB2.out, by go_num⟩
        case measure => simp [intOf]; omega
    · have hkn : M.take k = M := List.take_of_length_le (by have := HNM.out; omega)
      rw [hkn] at HB
      obtain ⟨s0, s1, sf, r0, r1, rf, -, -, -, -⟩ := HB.out
      obtain ⟨A5, c5, rfl, hrd⟩ := HB.out.own.form
      have HRD := Lib.hid hrd
      clear hkn hrd
      go_wp2_with fail
      have HBF := Lib.hid ((HB.out.below.setCell (p := ⟨w.heap.size, 0, none⟩) (Nat.le_refl _) (.bool false)).setCell (p := ⟨w.heap.size, 1, none⟩) (Nat.le_refl _) (.slice A5 (edgesR M).length c5))
      have HOF := Lib.hid ((HB.out.own.other (grownBy_set wr w.heap.size 0 (.bool false)) (by omega)).other (grownBy_set _ w.heap.size 1 (.slice A5 (edgesR M).length c5)) (by omega)).rd
      have hc1 : ((wr.setCell ⟨w.heap.size, 0, none⟩ (.bool false)).setCell ⟨w.heap.size, 1, none⟩ (.slice A5 (edgesR M).length c5)).cell? ⟨w.heap.size, 1, none⟩ = some (.slice A5 (edgesR M).length c5) := set_same (set_other r1 (addr_off (by decide)) _) _
      have hc0 : ((wr.setCell ⟨w.heap.size, 0, none⟩ (.bool false)).setCell ⟨w.heap.size, 1, none⟩ (.slice A5 (edgesR M).length c5)).cell? ⟨w.heap.size, 0, none⟩ = some (.bool false) := set_other (set_same r0 _) (addr_off (by decide)) _
      exact bodyPost_ret (v := .agg #[.bool false, .slice A5 (edgesR M).length c5]) (by simp [results, Try.results64, go_sem, hc0, hc1]) rfl ⟨A5, c5, by rw [HMM.out], by rw [HMM.out]; exact HOF.out, HBF.out⟩
end Go.Proofs.Ytbobgkepnocenaa

/-
  Layer 8 (ranges), the program: a swept list from a text on; the next edge of two.
-/
namespace Go.Proofs.Ytbobgkepnocenaa
open Go.RowKit

/-- The edges' row behind a text. -/
def passS (x : List UInt8) (A : Option Addr) (n c : Nat) : List (List UInt8) → Value
  | [] => .slice A n c
  | y :: _ => match decide (y = x) with | true => .slice (cutA A 1 c) (n - 1) (c - 1) | false => .slice A n c
theorem passS_same {x : List UInt8} {A : Option Addr} {n c : Nat} {l : List (List UInt8)} : passS x A n c (x :: l) = .slice (cutA A 1 c) (n - 1) (c - 1) := by rw [passS, decide_eq_true rfl]
theorem passS_other {x y : List UInt8} {A : Option Addr} {n c : Nat} {l : List (List UInt8)} (h : y ≠ x) : passS x A n c (y :: l) = .slice A n c := by rw [passS, decide_eq_false h]
/-- A row of texts that reads, as a value. -/
def SliceS (w : World) (v : Value) (l : List (List UInt8)) : Prop := ∃ A c, v = .slice A l.length c ∧ kStr.Rd w w.heap.size A c l
theorem SliceS.call {w w' : World} {v : Value} {l : List (List UInt8)} (h : SliceS w v l) (hb : Below w.heap.size w w') : SliceS w' v l := by
  obtain ⟨A, c, rfl, hr⟩ := h
  exact ⟨A, c, rfl, hr.call hb⟩
theorem passS_reads {x : List UInt8} {A : Option Addr} {c : Nat} {l : List (List UInt8)} {w : World} (hr : kStr.Rd w w.heap.size A c l) : SliceS w (passS x A l.length c l) (dropE x l) := by
  cases l with
  | nil => exact ⟨A, c, rfl, hr⟩
  | cons y l =>
    by_cases hy : y = x
    · subst hy
      rw [passS_same, dropE_same]
      refine ⟨_, _, rfl, ?_, by have := hr.room; simp only [List.length_cons] at this; omega, by have := hr.cap; omega⟩
      have h1 := RowAt.cut hr.row (k := 1) (c := c) (by rw [strs_len]; simp) (by rw [strs_len]; exact hr.room)
      rwa [← strs_drop, List.drop_one, List.tail_cons] at h1
    · rw [passS_other hy, dropE_other hy]
      exact ⟨_, _, rfl, hr⟩
set_option maxHeartbeats 1000000 in
theorem rgs_pass (A : Option Addr) (c n : Nat) (l : List (List UInt8)) (x : List UInt8) (v : Bool) (U : ByteArray) (hU : str x = U) (hn : n = l.length) (v' : Bool) (hv : passB x v l = v') (s' : Value) (hs : passS x A n c l = s') (w : World) (hr : kStr.Rd w w.heap.size A c l) :
    Calls Try.prog 66 #[.agg #[.bool v, .slice A n c], .string U] w fun e w' => e = .returned (.agg #[.bool v', s']) ∧ Below w.heap.size w w' := by
  have HB := Lib.hid (((Below.refl w.heap.size w).alloc (Nat.le_refl _) (.cells #[.bool v', s'] 77)).alloc (by simp) (.cells #[.bool v', s'] 77))
  cases l with
  | nil =>
    obtain rfl : n = 0 := hn
    obtain rfl : v' = v := hv.symm
    obtain rfl : s' = .slice A 0 c := hs.symm
    clear hr hv hs
    go_enter Try.func66, Try.ntmps66
    go_wp2_with fail
    exact bodyPost_ret (v := .agg #[.bool v', .slice A 0 c]) (by simp [results, Try.results66, go_sem]) rfl ⟨rfl, HB.out⟩
  | cons y l =>
    obtain ⟨b, o, rfl, hb1, hcell⟩ := texts_at hr (by simp)
    have c0 := hcell 0 y rfl
    rw [Nat.add_zero] at c0
    have hn0 : 0 < n := by rw [hn]; simp
    have hnc : n ≤ c := by rw [hn]; exact hr.room
    have hnd : decide ((0 : Int) < (n : Int)) = true := decide_eq_true (by omega)
    by_cases hy : y = x
    · have hE : ((str y).toList == U.toList) = true := by rw [hy, hU]; simp
      have K : ∀ w : World, (Instr.slice 61 (.slice (some ⟨b, o, none⟩) n c) (some (.int .i64 1)) none none).run Try.prog w = .ok (.slice (cutA (some ⟨b, o, none⟩) 1 c) (n - 1) (c - 1)) w := fun w => run_cut (T := 61) (E := 9) Try.underlying61 str_sizeOf w (some ⟨b, o, none⟩) n c 1 (by omega)
      obtain rfl : v' = !v := by rw [← hv, hy, passB_same]
      obtain ⟨q, hq⟩ : ∃ q, cutA (some ⟨b, o, none⟩) 1 c = q := ⟨_, rfl⟩
      obtain ⟨n1, hn1⟩ : ∃ n1, n - 1 = n1 := ⟨_, rfl⟩
      obtain ⟨c1, hc1⟩ : ∃ c1, c - 1 = c1 := ⟨_, rfl⟩
      rw [hq, hn1, hc1] at K
      obtain rfl : s' = .slice q n1 c1 := by rw [← hs, ← hq, ← hn1, ← hc1, hy, passS_same]
      obtain ⟨S, hS⟩ : ∃ S, str y = S := ⟨_, rfl⟩
      rw [hS] at c0 hE
      clear hcell hv hs hn hq hn1 hc1 hS hy hU hr
      go_enter Try.func66, Try.ntmps66
      go_wp2_with fail
      go_region
      go_wp2_with fail
      exact bodyPost_ret (v := .agg #[.bool (!v), .slice q n1 c1]) (by simp [results, Try.results66, go_sem]) rfl ⟨rfl, HB.out.drew⟩
    · have hE : ((str y).toList == U.toList) = false := txt_ne rfl hU hy
      obtain rfl : v' = v := by rw [← hv, passB_other hy]
      obtain rfl : s' = .slice (some ⟨b, o, none⟩) n c := by rw [← hs, passS_other hy]
      obtain ⟨S, hS⟩ : ∃ S, str y = S := ⟨_, rfl⟩
      rw [hS] at c0 hE
      clear hcell hv hs hn hS hy hU hr
      go_enter Try.func66, Try.ntmps66
      go_wp2_with fail
      exact bodyPost_ret (v := .agg #[.bool v', .slice (some ⟨b, o, none⟩) n c]) (by simp [results, Try.results66, go_sem]) rfl ⟨rfl, HB.out⟩
/-- The next edge, as it is handed back. -/
def nearU (a b : List (List UInt8)) : ByteArray := match nearE a b with | some e => str e | none => ⟨#[]⟩
set_option maxHeartbeats 1000000 in
theorem rgs_nearest (A B : Option Addr) (c d n m : Nat) (a b : List (List UInt8)) (x y : Bool) (hn : n = a.length) (hm : m = b.length) (U : ByteArray) (hU : nearU a b = U) (v : Bool) (hv : (nearE a b).isSome = v) (w : World) (ha : kStr.Rd w w.heap.size A c a) (hb : kStr.Rd w w.heap.size B d b) :
    Calls Try.prog 65 #[.agg #[.bool x, .slice A n c], .agg #[.bool y, .slice B m d]] w fun e w' => e = .returned (.tuple #[.string U, .bool v]) ∧ Below w.heap.size w w' := by
  have HB := Lib.hid (((Below.refl w.heap.size w).alloc (Nat.le_refl _) (.cells #[.bool x, .slice A n c] 77)).alloc (by simp) (.cells #[.bool y, .slice B m d] 77))
  have hna : n ≤ c := by rw [hn]; exact ha.room
  have hmb : m ≤ d := by rw [hm]; exact hb.room
  cases a with
  | nil =>
    obtain rfl : n = 0 := hn
    cases b with
    | nil =>
      obtain rfl : m = 0 := hm
      obtain rfl : v = false := hv.symm
      obtain rfl : U = ⟨#[]⟩ := hU.symm
      clear ha hb hv hU
      go_enter Try.func65, Try.ntmps65
      go_wp2_with fail
      go_ret2
      exact ⟨rfl, HB.out⟩
    | cons t b =>
      obtain ⟨b1, o1, rfl, hb1, hcell⟩ := texts_at hb (by simp)
      have c0 := hcell 0 t rfl
      rw [Nat.add_zero] at c0
      have hm0 : 0 < m := by rw [hm]; simp
      have hmd : ((m : Int) == 0) = false := beq_eq_false_iff_ne.2 (by omega)
      obtain rfl : v = true := hv.symm
      obtain rfl : U = str t := hU.symm
      obtain ⟨S, hS⟩ : ∃ S, str t = S := ⟨_, rfl⟩
      rw [hS] at c0 ⊢
      clear ha hb hv hcell hm hS
      go_enter Try.func65, Try.ntmps65
      go_wp2_with fail
      go_ret2
      exact ⟨rfl, HB.out⟩
  | cons s a =>
    obtain ⟨b2, o2, rfl, hb2, hcell2⟩ := texts_at ha (by simp)
    have e0 := hcell2 0 s rfl
    rw [Nat.add_zero] at e0
    have hn0 : 0 < n := by rw [hn]; simp
    have hnd : ((n : Int) == 0) = false := beq_eq_false_iff_ne.2 (by omega)
    cases b with
    | nil =>
      obtain rfl : m = 0 := hm
      obtain rfl : v = true := hv.symm
      obtain rfl : U = str s := hU.symm
      obtain ⟨S, hS⟩ : ∃ S, str s = S := ⟨_, rfl⟩
      rw [hS] at e0 ⊢
      clear ha hb hv hcell2 hn hS
      go_enter Try.func65, Try.ntmps65
      go_wp2_with fail
      go_quiet (fail)
      go_wp2_with fail
      go_ret2
      exact ⟨rfl, below_drewN HB.out _⟩
    | cons t b =>
      obtain ⟨b1, o1, rfl, hb1, hcell⟩ := texts_at hb (by simp)
      have c0 := hcell 0 t rfl
      rw [Nat.add_zero] at c0
      have hm0 : 0 < m := by rw [hm]; simp
      have hmd : ((m : Int) == 0) = false := beq_eq_false_iff_ne.2 (by omega)
      obtain rfl : v = true := by
        rw [← hv]
        cases hl : ltB s t with
        | true => rw [nearE_lt hl]; rfl
        | false => rw [nearE_ge hl]; rfl
      obtain ⟨z, hz, hz1, -⟩ := cmp_test s t
      have C := fun w => Lib.hid (cmp_is s t _ _ rfl rfl z hz w)
      have HU1 := Lib.hid (fun h : ltB s t = true => show U = str s by rw [← hU]; unfold nearU; rw [nearE_lt h])
      have HU2 := Lib.hid (fun h : ltB s t = false => show U = str t by rw [← hU]; unfold nearU; rw [nearE_ge h])
      obtain ⟨l, hl⟩ : ∃ l, ltB s t = l := ⟨_, rfl⟩
      rw [hl] at hz1 HU1 HU2
      obtain ⟨S, hS⟩ : ∃ S, str s = S := ⟨_, rfl⟩
      obtain ⟨T, hT⟩ : ∃ T, str t = T := ⟨_, rfl⟩
      rw [hS] at e0 C HU1
      rw [hT] at c0 C HU2
      clear ha hb hv hU hcell hcell2 hn hm hz hl hS hT
      cases l
      · obtain rfl := HU2.out rfl
        clear HU1 HU2
        go_enter Try.func65, Try.ntmps65
        go_wp2_with fail
        go_quiet ((go_at_call 57; exact Calls.quiet_of_same ((C _).out.mono fun _ _ ⟨h1, h2⟩ => ⟨h1, h2.symm⟩)))
        go_wp2_with fail
        go_ret2
        exact ⟨rfl, below_drewN HB.out _⟩
      · obtain rfl := HU1.out rfl
        clear HU1 HU2
        go_enter Try.func65, Try.ntmps65
        go_wp2_with fail
        go_quiet ((go_at_call 57; exact Calls.quiet_of_same ((C _).out.mono fun _ _ ⟨h1, h2⟩ => ⟨h1, h2.symm⟩)))
        go_wp2_with fail
        go_ret2
        exact ⟨rfl, below_drewN HB.out _⟩
end Go.Proofs.Ytbobgkepnocenaa

/-
  Plain facts on two lists swept together (layer 8): what holds from edge to edge. No program in this text.
-/
namespace Go.Proofs.Ytbobgkepnocenaa

/-- What holds at an edge, ahead of it: what is left of both lists' edges tells what both have from there on. -/
def SwOk (a b : List Rng) (n : Nat) (cur : Option (List UInt8)) (x : Bool) (ea : List (List UInt8)) (y : Bool) (eb : List (List UInt8)) : Prop :=
  ∀ e, cur = some e → FromE e ea ∧ FromE e eb ∧ (∀ s, ltB s e = false → togV x ea s = hasL a s) ∧ (∀ s, ltB s e = false → togV y eb s = hasL b s) ∧ (dropE e ea).length + (dropE e eb).length ≤ n
/-- How many edges are left, at most. -/
def wtE (n : Nat) : Option (List UInt8) → Nat
  | none => 0
  | some _ => n + 1
theorem SwOk.start (a b : List Rng) (n : Nat) (hn : (edgesR (normV a)).length + (edgesR (normV b)).length ≤ n) : SwOk a b n (some []) false (edgesR (normV a)) false (edgesR (normV b)) := fun e he => by
  injection he with he
  subst he
  have ra : rightL (normV a) = true := makeV_right _ _ _
  have rb : rightL (normV b) = true := makeV_right _ _ _
  refine ⟨⟨edgesR_riseB ra, fun x _ => ltB_nil x⟩, ⟨edgesR_riseB rb, fun x _ => ltB_nil x⟩, fun s _ => by rw [togV_edges ra, normV_has], fun s _ => by rw [togV_edges rb, normV_has], ?_⟩
  have := dropE_len [] (edgesR (normV a))
  have := dropE_len [] (edgesR (normV b))
  omega
theorem SwOk.val {a b : List Rng} {n : Nat} {e : List UInt8} {x y : Bool} {ea eb : List (List UInt8)} (h : SwOk a b n (some e) x ea y eb) : passB e x ea = hasL a e ∧ passB e y eb = hasL b e := by
  obtain ⟨h1, h2, h3, h4, _⟩ := h e rfl
  exact ⟨by rw [← h1.at, h3 e (ltB_irrefl e)], by rw [← h2.at, h4 e (ltB_irrefl e)]⟩
theorem SwOk.next {a b : List Rng} {n : Nat} {e : List UInt8} {x y : Bool} {ea eb : List (List UInt8)} (h : SwOk a b n (some e) x ea y eb) :
    SwOk a b (n - 1) (nearE (dropE e ea) (dropE e eb)) (passB e x ea) (dropE e ea) (passB e y eb) (dropE e eb) ∧ wtE (n - 1) (nearE (dropE e ea) (dropE e eb)) ≤ n ∧ restE n ea eb (some e) = e :: restE (n - 1) (dropE e ea) (dropE e eb) (nearE (dropE e ea) (dropE e eb)) := by
  obtain ⟨h1, h2, h3, h4, h5⟩ := h e rfl
  refine ⟨fun e' he' => ?_, ?_, ?_⟩
  · obtain ⟨k1, k2, k3, k4, _⟩ := nearE_some h1.drop h2.drop he'
    refine ⟨k2, k3, fun s hs => ?_, fun s hs => ?_, by omega⟩
    · have : ltB s e = false := leB_trans (ltB_asymm k1) hs
      rw [h1.pass this, h3 s this]
    · have : ltB s e = false := leB_trans (ltB_asymm k1) hs
      rw [h2.pass this, h4 s this]
  · cases hn : nearE (dropE e ea) (dropE e eb) with
    | none => exact Nat.zero_le _
    | some e' =>
      obtain ⟨_, _, _, k4, _⟩ := nearE_some h1.drop h2.drop hn
      show n - 1 + 1 ≤ n
      omega
  · show e :: mrgE n (dropE e ea) (dropE e eb) = _
    congr 1
    cases n with
    | zero =>
      have e1 : dropE e ea = [] := List.length_eq_zero_iff.1 (by omega)
      have e2 : dropE e eb = [] := List.length_eq_zero_iff.1 (by omega)
      rw [e1, e2]; rfl
    | succ n => exact restE_next n _ _
end Go.Proofs.Ytbobgkepnocenaa

/-
  Layer 8 (ranges), the program: two lists swept together.
-/
namespace Go.Proofs.Ytbobgkepnocenaa
open Go.RowKit

/-- The text at which it is asked, as it is carried. -/
def curU : Option (List UInt8) → ByteArray
  | none => ⟨#[]⟩
  | some e => str e
theorem nearU_cur (a b : List (List UInt8)) : nearU a b = curU (nearE a b) := by
  unfold nearU curU; cases nearE a b <;> rfl
/-- A list that is swept, in its block. -/
structure SdAt (w : World) (g : Nat) (v : Bool) (s : Value) : Prop where
  c0 : w.cell? ⟨g, 0, none⟩ = some (.bool v)
  c1 : w.cell? ⟨g, 1, none⟩ = some s
  fr : ∀ k, w.frozen? ⟨g, k, none⟩ = false
theorem SdAt.lt {w : World} {g : Nat} {v : Bool} {s : Value} (h : SdAt w g v s) : g < w.heap.size := World.block_lt_of_cell? w _ h.c0
theorem SdAt.below {w w' : World} {g : Nat} {v : Bool} {s : Value} (h : SdAt w g v s) (hb : Below w.heap.size w w') : SdAt w' g v s := by
  obtain ⟨hc, hf⟩ := bcell hb
  have hl := h.lt
  exact ⟨(hc _ _ hl).trans h.c0, (hc _ _ hl).trans h.c1, fun k => (hf _ _ hl).trans (h.fr k)⟩
theorem SdAt.drew {w : World} {g : Nat} {v : Bool} {s : Value} (h : SdAt w g v s) : SdAt w.drew g v s := ⟨h.c0, h.c1, h.fr⟩
theorem SdAt.kept {w w' : World} {row : Option Nat} {g : Nat} {v : Bool} {s : Value} (h : SdAt w g v s) (hg : w.grownBy w' row) (hne : some g ≠ row) : SdAt w' g v s :=
  ⟨hg.cell h.c0 hne, hg.cell h.c1 hne, fun k => (hg.frozen_far ⟨g, k, none⟩ h.lt hne).trans (h.fr k)⟩
theorem SdAt.other {w : World} {g g' k : Nat} {v : Bool} {s u : Value} (h : SdAt w g v s) (hne : g' ≠ g) : SdAt (w.setCell ⟨g', k, none⟩ u) g v s :=
  ⟨set_other h.c0 (addr_block hne) u, set_other h.c1 (addr_block hne) u, fun j => by rw [World.frozen?_setCell]; exact h.fr j⟩
theorem SdAt.set {w : World} {g : Nat} {v v' : Bool} {s s' : Value} (h : SdAt w g v s) : SdAt ((w.setCell ⟨g, 0, none⟩ (.bool v')).setCell ⟨g, 1, none⟩ s') g v' s' :=
  ⟨set_other (set_same h.c0 _) (addr_off (by decide)) _, set_same (set_other h.c1 (addr_off (by decide)) _) _, fun j => by rw [World.frozen?_setCell, World.frozen?_setCell]; exact h.fr j⟩
theorem SdAt.low {w w' : World} {x : Obj} {g B : Nat} {v : Bool} {s : Value} (h : SdAt w g v s) (hb : Below B (w.alloc x) w') (hg : g < B) : SdAt w' g v s := by
  have h2 := h.below (below_new w x)
  obtain ⟨hc, hf⟩ := bcell hb
  exact ⟨(hc _ _ hg).trans h2.c0, (hc _ _ hg).trans h2.c1, fun k => (hf _ _ hg).trans (h2.fr k)⟩
theorem sdAt_new (w : World) (v : Bool) (s : Value) (t : TypeId) : SdAt (w.alloc (.cells #[.bool v, s] t)) w.heap.size v s := by
  have h := heap_new w (.cells #[.bool v, s] t) _ rfl
  refine ⟨?_, ?_, fun k => ?_⟩
  · rw [cell_of_row _ _ _ _ _ _ h]; rfl
  · rw [cell_of_row _ _ _ _ _ _ h]; rfl
  · unfold World.frozen?; rw [h]; simp
theorem sdAt_new1 (w : World) (x : Obj) (v : Bool) (s : Value) (t : TypeId) : SdAt ((w.alloc x).alloc (.cells #[.bool v, s] t)) (w.heap.size + 1) v s := by
  have := sdAt_new (w.alloc x) v s t
  rwa [size1] at this
theorem below_of_drew {w w' : World} (h : Below w.drew.heap.size w.drew w') : Below w.heap.size w w' := ⟨h.os, h.tape, h.output, h.size, h.block⟩
theorem rgs_begin_is (A : Option Addr) (c n : Nat) (l : List Rng) (hn : n = l.length) (hnl : n ≤ 1000) (w0 : World) (hr : kRng.Rd w0 w0.heap.size A c l) (E : List (List UInt8)) (hE : edgesR (normV l) = E) (N : Nat) (hN : E.length = N) (w : World) (hb : Below w0.heap.size w0 w) :
    Calls Try.prog 64 #[.slice A n c] w fun e w' => ∃ A' c', e = .returned (.agg #[.bool false, .slice A' N c']) ∧ kStr.Rd w' w'.heap.size A' c' E ∧ Below w.heap.size w w' := by
  subst hE hN
  exact rgs_begin A c n l hn hnl w (hr.call hb)
theorem rgs_pass_is (A : Option Addr) (c n : Nat) (l : List (List UInt8)) (x : List UInt8) (v : Bool) (w0 : World) (hn : l.length = n) (hr : kStr.Rd w0 w0.heap.size A c l) (v' : Bool) (hv : passB x v l = v') (l' : List (List UInt8)) (hl : dropE x l = l') :
    ∃ A' n' c', l'.length = n' ∧ kStr.Rd w0 w0.heap.size A' c' l' ∧ ∀ w, Below w0.heap.size w0 w → Hid (Calls Try.prog 66 #[.agg #[.bool v, .slice A n c], .string (str x)] w fun e w' => e = .returned (.agg #[.bool v', .slice A' n' c']) ∧ Below w.heap.size w w') := by
  subst hn hl
  obtain ⟨A', c', h1, h2⟩ := passS_reads (x := x) hr
  exact ⟨A', _, c', rfl, h2, fun w hb => rgs_pass A c l.length l x v _ rfl rfl v' hv _ h1 w (hr.call hb)⟩
set_option maxRecDepth 100000 in
set_option maxHeartbeats 8000000 in
theorem rgs_sweep (g : FuncId) (kf : Bool → Bool → Bool) (K : ∀ x y w, Calls Try.prog g #[.bool x, .bool y] w fun e w' => e = .returned (.bool (kf x y)) ∧ w = w') (eg : ∀ args w, (callFunc g args).run Try.prog w = .ok (.enter g args) w)
    (op : Int) (A B : Option Addr) (c d n m : Nat) (a b : List Rng) (hk : ∀ s, kf (hasL a s) (hasL b s) = inV op a b s) (hn : n = a.length) (hm : m = b.length) (hnl : n ≤ 1000) (hml : m ≤ 1000) (w : World) (ha : kRng.Rd w w.heap.size A c a) (hb : kRng.Rd w w.heap.size B d b) :
    Calls Try.prog 45 #[.slice A n c, .slice B m d, .func (.func g) #[] #[]] w (RetR w (makeV op a b)) := by
  obtain ⟨ea, hea⟩ : ∃ ea, edgesR (normV a) = ea := ⟨_, rfl⟩
  obtain ⟨eb, heb⟩ : ∃ eb, edgesR (normV b) = eb := ⟨_, rfl⟩
  obtain ⟨N, hN⟩ : ∃ N, ea.length = N := ⟨_, rfl⟩
  obtain ⟨M, hM⟩ : ∃ M, eb.length = M := ⟨_, rfl⟩
  have hN9 : N ≤ 4004 := by rw [← hN, ← hea]; have := edgesR_len (normV a); have := makeV_len1 a; omega
  have hM9 : M ≤ 4004 := by rw [← hM, ← heb]; have := edgesR_len (normV b); have := makeV_len1 b; omega
  have C1 := fun W h => Lib.hid (rgs_begin_is A c n a hn hnl w ha ea hea N hN W h)
  have C2 := fun W h => Lib.hid (rgs_begin_is B d m b hm hml w hb eb heb M hM W h)
  have HT := Lib.hid (sweep_make op a b (fun s => kf (hasL a s) (hasL b s)) hk (N + M) (by rw [hea, heb, hN, hM]; exact Nat.le_refl _))
  have HS := Lib.hid (SwOk.start a b (N + M) (by rw [hea, heb, hN, hM]; exact Nat.le_refl _))
  have HN := Lib.hid hN
  have HM := Lib.hid hM
  rw [hea, heb] at HT HS
  obtain ⟨T, hT⟩ : ∃ T, makeV op a b = T := ⟨_, rfl⟩
  have HTT := Lib.hid hT
  rw [hT] at HT
  have hb0 := Lib.hid (Below.refl w.heap.size w)
  clear hn hm ha hb hea heb hN hM hnl hml hT hk
  go_enter Try.func45, Try.ntmps45
  go_wp2_with (first
    | ((with_reducible refine (C1 _ hb0.out).out.mono ?_); rintro e w1 ⟨A1, c1, rfl, hrd, hq⟩; have H1 := Lib.hid hrd; replace hb0 := Lib.hid hq; clear hrd hq)
    | ((with_reducible refine (C2 _ hb0.out).out.mono ?_); rintro e w2 ⟨A2, c2, rfl, hrd, hq⟩; have H2 := Lib.hid hrd; have H1 := Lib.hid (H1.out.call hq); have hb1 := Lib.hid (hb0.out.trans (hq.mono hb0.out.size)); clear hrd hq))
  clear C1 C2 hb0
  obtain ⟨f, hf⟩ : ∃ f : List UInt8 → Bool, (fun s => kf (hasL a s) (hasL b s)) = f := ⟨_, rfl⟩
  rw [hf] at HT
  have HF := Lib.hid (fun s => (congrFun hf s).symm)
  clear hf
  go_loopg [9, 10, 11, 12] (N + M + 1) (fun gg s9 s10 s11 s12 wr => ∃ (n' : Nat) (cur : Option (List UInt8)) (x y : Bool) (fa fb : List (List UInt8)) (A7 A8 : Option Addr) (n7 c7 n8 c8 : Nat) (dn : List Rng) (o : Option (List UInt8)),
    Hid (mkR f (restE (N + M) ea eb (some [])) none = dn ++ mkR f (restE n' fa fb cur) o) ∧ Hid (kRng.Own wr (w2.heap.size + 2) s9 (dn ++ pendR o)) ∧ s10 = .bool o.isSome ∧ s11 = .string (curU cur) ∧ s12 = .bool cur.isSome ∧ Hid (SwOk a b n' cur x fa y fb) ∧
    Hid (SdAt wr w2.heap.size x (.slice A7 n7 c7)) ∧ Hid (SdAt wr (w2.heap.size + 1) y (.slice A8 n8 c8)) ∧ Hid (fa.length = n7 ∧ kStr.Rd w2 w2.heap.size A7 c7 fa) ∧ Hid (fb.length = n8 ∧ kStr.Rd w2 w2.heap.size A8 c8 fb) ∧ Hid (Below w2.heap.size w2 wr) ∧ (dn ++ pendR o).length + wtE n' cur ≤ N + M + 1 ∧ wtE n' cur ≤ gg)
  case atStart => exact ⟨N + M, some [], false, false, ea, eb, A1, A2, N, c1, M, c2, [], none, rfl, Kind.Own.nil _ _, rfl, rfl, rfl, HS.out, (sdAt_new w2 _ _ _).below (below_new _ _), sdAt_new1 w2 _ _ _ _, ⟨HN.out, H1.out⟩, ⟨HM.out, H2.out⟩, (below_new w2 _).alloc (by simp) _, by simp [pendR, wtE], Nat.le_refl _⟩
  case round =>
    obtain ⟨n', cur, x, y, fa, fb, A7, A8, n7, c7, n8, c8, dn, o, HL, HO, rfl, rfl, rfl, HOK, H7, H8, HR7, HR8, HBW, hlen, hgg⟩ := hrel
    obtain ⟨n9, hn9⟩ : ∃ n9, (dn ++ pendR o).length = n9 := ⟨_, rfl⟩
    obtain ⟨A9, c9, rfl, -⟩ := HO.out.read_n hn9.symm
    have HN9 := Lib.hid hn9
    rw [hn9] at hlen
    clear hn9
    cases cur with
    | none =>
      have e1 := Lib.hid (HT.out.symm.trans (HL.out.trans (show dn ++ mkR f (restE n' fa fb none) o = dn ++ pendR o by cases o <;> rfl)))
      go_wp2_with fail
      go_ret
      refine ⟨A9, c9, ?_, ?_, hb1.out.trans (HBW.out.mono hb1.out.size)⟩
      · rw [HTT.out, e1.out, HN9.out]; rfl
      · rw [HTT.out, e1.out]; exact HO.out.rd
    | some e =>
      obtain ⟨hok, hwt, hre⟩ := HOK.out.next
      obtain ⟨hv1, hv2⟩ := HOK.out.val
      obtain ⟨x', hx'⟩ : ∃ x', passB e x fa = x' := ⟨_, rfl⟩
      obtain ⟨y', hy'⟩ : ∃ y', passB e y fb = y' := ⟨_, rfl⟩
      obtain ⟨ga, hga⟩ : ∃ ga, dropE e fa = ga := ⟨_, rfl⟩
      obtain ⟨gb, hgb⟩ : ∃ gb, dropE e fb = gb := ⟨_, rfl⟩
      obtain ⟨A3, n3, c3, hn3, hr3, P1⟩ := rgs_pass_is A7 c7 n7 fa e x w2 HR7.out.1 HR7.out.2 x' hx' ga hga
      obtain ⟨A4, n4, c4, hn4, hr4, P2⟩ := rgs_pass_is A8 c8 n8 fb e y w2 HR8.out.1 HR8.out.2 y' hy' gb hgb
      rw [hx', hy', hga, hgb] at hok
      rw [hga, hgb] at hwt hre
      rw [hx'] at hv1
      rw [hy'] at hv2
      have HR3 := Lib.hid (And.intro hn3 hr3)
      have HR4 := Lib.hid (And.intro hn4 hr4)
      have HOK2 := Lib.hid hok
      have HV := Lib.hid (show f e = kf x' y' by rw [HF.out, hv1, hv2])
      have HL2 := Lib.hid (HL.out.trans (by rw [hre]))
      have HWT := Lib.hid hwt
      have hgg2 := show n' + 1 ≤ _ from hgg
      have hln2 : n9 + (n' + 1) ≤ N + M + 1 := hlen
      clear hn3 hr3 hn4 hr4 hok hv1 hv2 hre hwt hx' hy' hga hgb HR7 HR8 HOK HL hlen
      obtain ⟨U, hU⟩ : ∃ U, str e = U := ⟨_, rfl⟩
      have hcu : curU (some e) = U := hU
      rw [hU] at P1 P2
      rw [hcu]
      go_upto_region 7 with fail
      go_cut [] from 18 to 58 (fun wx => Hid (kRng.Own wx (w2.heap.size + 2) (.slice A9 n9 c9) (dn ++ pendR o)) ∧ Hid (SdAt wx w2.heap.size x' (.slice A3 n3 c3)) ∧ Hid (SdAt wx (w2.heap.size + 1) y' (.slice A4 n4 c4)) ∧ Hid (Below w2.heap.size w2 wx))
      case first =>
        obtain ⟨a0, a1, a3⟩ := H7.out
        obtain ⟨b0, b1, b3⟩ := H8.out
        have P1 := fun w h => (P1 w h)
        clear HT HS HTT HF HV HL2 HOK2 HWT HR3 HR4 HN HM H1 H2 HN9
        go_region_with (first
          | ((with_reducible refine (P1 _ (by first | exact HBW.out | exact HBW.out.drew)).out.mono ?_); rintro e w3 ⟨rfl, hq⟩; (try replace hq := below_of_drew hq); clear a0 a1 a3 b0 b1 b3; replace H7 := Lib.hid (H7.out.below hq); replace H8 := Lib.hid (H8.out.below hq); replace HO := Lib.hid (HO.out.below hq); replace HBW := Lib.hid (HBW.out.trans (hq.mono HBW.out.size)); obtain ⟨a0, a1, a3⟩ := H7.out; obtain ⟨b0, b1, b3⟩ := H8.out; clear hq)
          | ((with_reducible refine (P2 _ (by first | exact HBW.out | exact HBW.out.drew)).out.mono ?_); rintro e w4 ⟨rfl, hq⟩; (try replace hq := below_of_drew hq); clear a0 a1 a3 b0 b1 b3; replace H7 := Lib.hid (H7.out.below hq); replace H8 := Lib.hid (H8.out.below hq); replace HO := Lib.hid (HO.out.below hq); replace HBW := Lib.hid (HBW.out.trans (hq.mono HBW.out.size)); obtain ⟨a0, a1, a3⟩ := H7.out; obtain ⟨b0, b1, b3⟩ := H8.out; clear hq))
        all_goals
          go_wp2_with fail
          go_meet
          exact ⟨Lib.hid ((((HO.out.other (grownBy_set _ _ _ _) (by omega)).other (grownBy_set _ _ _ _) (by omega)).other (grownBy_set _ _ _ _) (by omega)).other (grownBy_set _ _ _ _) (by omega)), Lib.hid ((H7.out.set.other (by omega)).other (by omega)), Lib.hid ((H8.out.other (by omega)).other (by omega)).set,
            Lib.hid ((((HBW.out.setCell (p := ⟨w2.heap.size, 0, none⟩) (Nat.le_refl _) _).setCell (p := ⟨w2.heap.size, 1, none⟩) (Nat.le_refl _) _).setCell (p := ⟨w2.heap.size + 1, 0, none⟩) (Nat.le_succ _) _).setCell (p := ⟨w2.heap.size + 1, 1, none⟩) (Nat.le_succ _) _)⟩
      case rest =>
        clear HO H7 H8 HBW P1 P2
        obtain ⟨HO, H7, H8, HBW⟩ := hcut
        obtain ⟨a0, a1, a3⟩ := H7.out
        obtain ⟨b0, b1, b3⟩ := H8.out
        obtain ⟨v, hv⟩ : ∃ v, kf x' y' = v := ⟨_, rfl⟩
        have KC := fun w => Lib.hid (K x' y' w)
        rw [hv] at KC HV
        obtain ⟨U2, hU2⟩ : ∃ U2, nearU ga gb = U2 := ⟨_, rfl⟩
        obtain ⟨v2, hv2⟩ : ∃ v2, (nearE ga gb).isSome = v2 := ⟨_, rfl⟩
        have NE := fun w (h : Below w2.heap.size w2 w) => Lib.hid (rgs_nearest A3 A4 c3 c4 n3 n4 ga gb x' y' HR3.out.1.symm HR4.out.1.symm U2 hU2 v2 hv2 w (HR3.out.2.call h) (HR4.out.2.call h))
        have HU2 := Lib.hid ((nearU_cur ga gb).symm.trans hU2)
        have HV2 := Lib.hid hv2
        have HUU := Lib.hid hU
        clear hv hU2 hv2 hU hcu
        have HE1 := Lib.hid (show f e = false → o = none → dn ++ mkR f (e :: restE (n' - 1) ga gb (nearE ga gb)) o = dn ++ mkR f (restE (n' - 1) ga gb (nearE ga gb)) o from fun h h' => by rw [h', mkR_out h])
        have HE2 := Lib.hid (show ∀ lo, f e = true → o = some lo → dn ++ mkR f (e :: restE (n' - 1) ga gb (nearE ga gb)) o = dn ++ mkR f (restE (n' - 1) ga gb (nearE ga gb)) o from fun lo h h' => by rw [h', mkR_stay h])
        have HE3 := Lib.hid (show f e = true → o = none → dn ++ mkR f (e :: restE (n' - 1) ga gb (nearE ga gb)) o = dn ++ mkR f (restE (n' - 1) ga gb (nearE ga gb)) (some e) from fun h h' => by rw [h', mkR_on h])
        have HE4 := Lib.hid (show ∀ lo, f e = false → o = some lo → dn ++ mkR f (e :: restE (n' - 1) ga gb (nearE ga gb)) o = (dn ++ [⟨lo, e, false⟩]) ++ mkR f (restE (n' - 1) ga gb (nearE ga gb)) none from fun lo h h' => by rw [h', mkR_off h]; simp)
        cases o with
        | none =>
          cases v
          · have HL3 := Lib.hid (HL2.out.trans (HE1.out HV.out rfl))
            clear HE1 HE2 HE3 HE4 HV HL2
            go_wp2_with (first
              | ((with_reducible refine (KC _).out.mono ?_); rintro e5 w5 ⟨rfl, rfl⟩)
              | ((with_reducible refine (NE _ HBW.out).out.mono ?_); rintro e6 w6 ⟨rfl, hq⟩; have HO6 := Lib.hid (HO.out.below hq); have H76 := Lib.hid (H7.out.below hq); have H86 := Lib.hid (H8.out.below hq); have HB6 := Lib.hid (HBW.out.trans (hq.mono HBW.out.size)); clear hq))
            go_roundg (wtE (n' - 1) (nearE ga gb))
            case measure => have := HWT.out; omega
            case rel => exact ⟨n' - 1, nearE ga gb, x', y', ga, gb, A3, A4, n3, c3, n4, c4, dn, none, HL3, HO6, rfl, by rw [HU2.out], by rw [HV2.out], HOK2, H76, H86, HR3, HR4, HB6, by rw [HN9.out]; have := HWT.out; omega, Nat.le_refl _⟩
          · have HL3 := Lib.hid (HL2.out.trans (HE3.out HV.out rfl))
            have HRW := fun w : World => Lib.hid (show RowAt (w.alloc (.cells #[.string U, .string ⟨#[]⟩, .bool true] 45)) (w.heap.size + 1) (some ⟨w.heap.size, 0, none⟩) (kRng.row [⟨e, [], true⟩]) from by have := (rng_row w ⟨e, [], true⟩ 1 rfl).row; rw [HUU.out] at this; exact this)
            have HLE := Lib.hid (show (dn ++ pendR none).length + [(⟨e, [], true⟩ : Rng)].length ≤ 1000000 by rw [HN9.out, List.length_singleton]; omega)
            clear HE1 HE2 HE3 HE4 HV HL2
            go_wp2_with (first
              | ((with_reducible refine (KC _).out.mono ?_); rintro e5 w5 ⟨rfl, rfl⟩)
              | (at_builtin; refine wpList_app_k kRng rfl (.tmp 42) (.tmp 45) rfl (w2.heap.size + 2) _ _ rfl (Kind.Own.alloc HO.out _) _ (some ⟨wc.heap.size, 0, none⟩) 1 1 [⟨e, [], true⟩] rfl rfl (HRW wc).out HLE.out (by decide) (le_alloc (H8.out.lt) _) ?_; intro v3 w3 hown3 hg3 hb3 _; have HO3 := Lib.hid hown3; have HB3 := Lib.hid ((HBW.out.alloc HBW.out.size _).trans (hb3.mono (by omega))); have H73 := Lib.hid (SdAt.low H7.out (w' := w3) hb3 (by omega)); have H83 := Lib.hid (SdAt.low H8.out (w' := w3) hb3 (by omega)); clear a0 a1 a3 b0 b1 b3; obtain ⟨a0, a1, a3⟩ := H73.out; obtain ⟨b0, b1, b3⟩ := H83.out; clear hown3 hg3 hb3)
              | ((with_reducible refine (NE _ HB3.out).out.mono ?_); rintro e6 w6 ⟨rfl, hq⟩; have HO6 := Lib.hid (HO3.out.below hq); have H76 := Lib.hid (H73.out.below hq); have H86 := Lib.hid (H83.out.below hq); have HB6 := Lib.hid (HB3.out.trans (hq.mono HB3.out.size)); clear hq))
            go_roundg (wtE (n' - 1) (nearE ga gb))
            case measure => have := HWT.out; omega
            case rel => exact ⟨n' - 1, nearE ga gb, x', y', ga, gb, A3, A4, n3, c3, n4, c4, dn, some e, HL3, by have h := HO6.out; rw [pendR, List.append_nil] at h; exact h, rfl, by rw [HU2.out], by rw [HV2.out], HOK2, H76, H86, HR3, HR4, HB6, by have h1 := HN9.out; have := HWT.out; simp [pendR] at h1 ⊢; omega, Nat.le_refl _⟩
        | some lo =>
          cases v
          · have HL3 := Lib.hid (HL2.out.trans (HE4.out lo HV.out rfl))
            obtain ⟨D, hD⟩ : ∃ D, dn.length = D := ⟨_, rfl⟩
            obtain rfl : n9 = D + 1 := by rw [← HN9.out, List.length_append, hD]; rfl
            have hga : (dn ++ pendR (some lo))[D]? = some ⟨lo, [], true⟩ := by rw [← hD, List.getElem?_append_right (Nat.le_refl _), Nat.sub_self]; rfl
            obtain ⟨g5, cp5, hv5, hcp, hgb, -, -, -⟩ := HO.out.some_ HN9.out.symm (by omega)
            injection hv5 with hA9 _ hc9
            subst hA9 hc9
            obtain ⟨hg1, hg2, hfz, hcs⟩ := HO.out.at_g HN9.out.symm (by omega)
            have e1 := hcs D _ hga 1 _ rfl
            have e2 := hcs D _ hga 2 _ rfl
            change wc.cell? ⟨g5, D * 3 + 1, none⟩ = _ at e1
            change wc.cell? ⟨g5, D * 3 + 2, none⟩ = _ at e2
            have hD8 : D ≤ 10000 := by omega
            have HOF := Lib.hid (own_last HO.out HN9.out.symm hD e U HUU.out false false rfl)
            have HBF := Lib.hid ((HBW.out.setCell (p := ⟨g5, D * 3 + 1, none⟩) (by show w2.heap.size ≤ g5; omega) (.string U)).setCell (p := ⟨g5, D * 3 + 2, none⟩) (by show w2.heap.size ≤ g5; omega) (.bool false))
            have H7F := Lib.hid ((H7.out.other (g' := g5) (k := D * 3 + 1) (u := .string U) (by omega)).other (g' := g5) (k := D * 3 + 2) (u := .bool false) (by omega))
            have H8F := Lib.hid ((H8.out.other (g' := g5) (k := D * 3 + 1) (u := .string U) (by omega)).other (g' := g5) (k := D * 3 + 2) (u := .bool false) (by omega))
            have HDD := Lib.hid hD
            clear HE1 HE2 HE3 HE4 HV HL2 hcs hga hD
            obtain ⟨f0, f1, -⟩ := H7F.out
            obtain ⟨f2, f3, -⟩ := H8F.out
            go_wp2_with (first
              | ((with_reducible refine (KC _).out.mono ?_); rintro e5 w5 ⟨rfl, rfl⟩)
              | ((with_reducible refine (NE _ HBF.out).out.mono ?_); rintro e6 w6 ⟨rfl, hq⟩; have HO6 := Lib.hid (HOF.out.below hq); have H76 := Lib.hid (H7F.out.below hq); have H86 := Lib.hid (H8F.out.below hq); have HB6 := Lib.hid (HBF.out.trans (hq.mono HBF.out.size)); clear hq))
            go_roundg (wtE (n' - 1) (nearE ga gb))
            case measure => have := HWT.out; omega
            case rel => exact ⟨n' - 1, nearE ga gb, x', y', ga, gb, A3, A4, n3, c3, n4, c4, dn ++ [⟨lo, e, false⟩], none, HL3, by rw [pendR, List.append_nil]; exact HO6.out, rfl, by rw [HU2.out], by rw [HV2.out], HOK2, H76, H86, HR3, HR4, HB6, by have h1 := HDD.out; have := HWT.out; simp [pendR]; omega, Nat.le_refl _⟩
          · have HL3 := Lib.hid (HL2.out.trans (HE2.out lo HV.out rfl))
            clear HE1 HE2 HE3 HE4 HV HL2
            go_wp2_with (first
              | ((with_reducible refine (KC _).out.mono ?_); rintro e5 w5 ⟨rfl, rfl⟩)
              | ((with_reducible refine (NE _ HBW.out).out.mono ?_); rintro e6 w6 ⟨rfl, hq⟩; have HO6 := Lib.hid (HO.out.below hq); have H76 := Lib.hid (H7.out.below hq); have H86 := Lib.hid (H8.out.below hq); have HB6 := Lib.hid (HBW.out.trans (hq.mono HBW.out.size)); clear hq))
            go_roundg (wtE (n' - 1) (nearE ga gb))
            case measure => have := HWT.out; omega
            case rel => exact ⟨n' - 1, nearE ga gb, x', y', ga, gb, A3, A4, n3, c3, n4, c4, dn, some lo, HL3, HO6, rfl, by rw [HU2.out], by rw [HV2.out], HOK2, H76, H86, HR3, HR4, HB6, by rw [HN9.out]; have := HWT.out; omega, Nat.le_refl _⟩
end Go.Proofs.Ytbobgkepnocenaa

/-
  The laws of layer 8: what the program's functions do, as they ask it.
-/
namespace Go.Proofs.Ytbobgkepnocenaa
open Go.RowKit

theorem clo_union (x y : Bool) (w : World) : Calls Try.prog 47 #[.bool x, .bool y] w fun e w' => e = .returned (.bool (x || y)) ∧ w = w' := by
  cases x <;> cases y
  all_goals
    go_enter Try.func47, Try.ntmps47
    go_wp2_with fail
    go_ret
    exact ⟨rfl, rfl⟩
theorem clo_meet (x y : Bool) (w : World) : Calls Try.prog 46 #[.bool x, .bool y] w fun e w' => e = .returned (.bool (x && y)) ∧ w = w' := by
  cases x <;> cases y
  all_goals
    go_enter Try.func46, Try.ntmps46
    go_wp2_with fail
    go_ret
    exact ⟨rfl, rfl⟩
theorem clo_not (x y : Bool) (w : World) : Calls Try.prog 48 #[.bool x, .bool y] w fun e w' => e = .returned (.bool (!x)) ∧ w = w' := by
  go_enter Try.func48, Try.ntmps48
  go_wp2_with fail
  go_ret
  exact ⟨rfl, rfl⟩
theorem k_of : OneC 32 1 := fun A c n a hn hs w ha => rgs_of A c n a hn (by have := hs.1; omega) w ha
theorem k_union : SetC 27 1 := fun A B c d n m a b hn hm ha' hb' w ha hb => by
  have K := Lib.hid (rgs_sweep 47 (fun x y => x || y) clo_union (enters_of Try.func47 (by kernel_rfl) rfl) 1 A B c d n m a b (fun _ => rfl) hn hm (by have := ha'.1; omega) (by have := hb'.1; omega) w ha hb)
  clear hn hm ha' hb' ha hb
  go_enter Try.func27, Try.ntmps27
  go_wp2_with ((with_reducible refine K.out.mono ?_); rintro e w1 ⟨A1, c1, rfl, hrd, hq⟩; have HR := Lib.hid hrd; clear hrd)
  go_ret
  exact ⟨A1, c1, rfl, HR.out, hq⟩
theorem k_meet : SetC 26 2 := fun A B c d n m a b hn hm ha' hb' w ha hb => by
  have K := Lib.hid (rgs_sweep 46 (fun x y => x && y) clo_meet (enters_of Try.func46 (by kernel_rfl) rfl) 2 A B c d n m a b (fun _ => rfl) hn hm (by have := ha'.1; omega) (by have := hb'.1; omega) w ha hb)
  clear hn hm ha' hb' ha hb
  go_enter Try.func26, Try.ntmps26
  go_wp2_with ((with_reducible refine K.out.mono ?_); rintro e w1 ⟨A1, c1, rfl, hrd, hq⟩; have HR := Lib.hid hrd; clear hrd)
  go_ret
  exact ⟨A1, c1, rfl, HR.out, hq⟩
theorem k_not : OneC 28 4 := fun A c n a hn ha' w ha => by
  have K := Lib.hid (rgs_sweep 48 (fun x _ => !x) clo_not (enters_of Try.func48 (by kernel_rfl) rfl) 4 A none c 0 n 0 a [] (fun s => by unfold inV; rw [gV4, hasL_nil, Bool.not_false, Bool.and_true]) hn rfl (by have := ha'.1; omega) (by omega) w ha (Kind.Rd.nil _ _))
  clear hn ha' ha
  go_enter Try.func28, Try.ntmps28
  go_wp2_with ((with_reducible refine K.out.mono ?_); rintro e w1 ⟨A1, c1, rfl, hrd, hq⟩; have HR := Lib.hid hrd; clear hrd)
  go_ret
  exact ⟨A1, c1, rfl, HR.out, hq⟩
theorem same_L (a b : List Rng) : sameL (normV a) (normV b) = sameV a b := by
  unfold sameV
  rw [Bool.eq_iff_iff, sameL_iff, decide_eq_true_eq]
end Go.Proofs.Ytbobgkepnocenaa

/-
  Layer 9 (filter), the program: what two lists of ranges make, of all of some; what a list of nodes comes to, where each comes to a list of ranges.
-/
namespace Go.Proofs.Ytbobgkepnocenaa
open Go.RowKit

theorem ret_slice {A : Option Addr} {n m c : Nat} (h : n = m) : Ending.returned (.slice A n c) = .returned (.slice A m c) := by rw [h]
/-- A slice of ranges, and what it reads as. -/
structure RgL where
  A : Option Addr
  n : Nat
  c : Nat
  l : List Rng
noncomputable def kLs : Kind Try.prog RgL where
  ty := 47
  el := 25
  size := 1
  bytes := 24
  zero := .slice none 0 0
  cells := fun s => [.slice s.A s.n s.c]
  len := fun _ => rfl
  one := fun s u hu => by simp at hu; subst hu; rfl
  pos := by decide
  under := Try.underlying47
  info := by kernel_rfl
  zsize := rfl
theorem rngs_sizeOf (w : World) : (sizeOf 25).run Try.prog w = .ok 1 w := by kernel_rfl
theorem lists_at {w : World} {B : Nat} {A : Option Addr} {c : Nat} {l : List RgL} (h : kLs.Rd w B A c l) (hp : 0 < l.length) :
    ∃ b o, A = some ⟨b, o, none⟩ ∧ b < B ∧ ∀ k x, l[k]? = some x → w.cell? ⟨b, o + k, none⟩ = some (.slice x.A x.n x.c) := by
  obtain ⟨b, o, h1, h2, h3⟩ := h.at_ hp
  exact ⟨b, o, h1, h2, fun k x hx => by have := h3 k x hx 0 _ rfl; rwa [show kLs.size = 1 from rfl, Nat.mul_one, Nat.add_zero] at this⟩
/-- It reads, and turns at no other texts than these. -/
def RgL.Ok (E : List (List UInt8)) (w : World) (x : RgL) : Prop := x.n = x.l.length ∧ OkL E x.l ∧ kRng.Rd w w.heap.size x.A x.c x.l
theorem RgL.Ok.call {E : List (List UInt8)} {w w' : World} {x : RgL} (h : x.Ok E w) (hb : Below w.heap.size w w') : x.Ok E w' := ⟨h.1, h.2.1, h.2.2.call hb⟩
/-- A row of such slices. -/
def RdR (w : World) (E : List (List UInt8)) (A : Option Addr) (c : Nat) (O : List RgL) : Prop := kLs.Rd w w.heap.size A c O ∧ ∀ x ∈ O, x.Ok E w
theorem RdR.call {w w' : World} {E : List (List UInt8)} {A : Option Addr} {c : Nat} {O : List RgL} (h : RdR w E A c O) (hb : Below w.heap.size w w') : RdR w' E A c O := ⟨h.1.call hb, fun x hx => (h.2 x hx).call hb⟩
theorem RdR.take {w : World} {E : List (List UInt8)} {A : Option Addr} {c : Nat} {O : List RgL} (h : RdR w E A c O) {j : Nat} (hj : j ≤ O.length) : RdR w E A j (O.take j) := ⟨h.1.take hj, fun x hx => h.2 x (List.mem_of_mem_take hx)⟩
theorem RdR.cut {w : World} {E : List (List UInt8)} {A : Option Addr} {c : Nat} {O : List RgL} (h : RdR w E A c O) {j : Nat} (hj : j ≤ O.length) : RdR w E (cutA A j c) (c - j) (O.drop j) := ⟨h.1.cut1 rfl hj, fun x hx => h.2 x (List.mem_of_mem_drop hx)⟩
/-- What a function makes of two such lists. -/
theorem set_ok {g : FuncId} {op : Int} (K : SetC g op) {l : List Nd} (hl : l.length ≤ 64) (A B : Option Addr) (c d n m : Nat) (a b : List Rng) (hn : n = a.length) (hm : m = b.length) (ha : OkL (edgeN l) a) (hb : OkL (edgeN l) b) (w : World) (hra : kRng.Rd w w.heap.size A c a) (hrb : kRng.Rd w w.heap.size B d b) (u : List Rng) (hu : makeV op a b = u) (N : Nat) (hN : u.length = N) :
    Calls Try.prog g #[.slice A n c, .slice B m d] w (fun e w' => ∃ A' c', e = .returned (.slice A' N c') ∧ kRng.Rd w' w'.heap.size A' c' u ∧ Below w.heap.size w w') := by
  subst hu hN
  exact K A B c d n m a b hn hm ((okL_small ha hl).mono (by omega)) ((okL_small hb hl).mono (by omega)) w hra hrb
theorem make_okL (op : Int) {E : List (List UInt8)} {a b : List Rng} (ha : OkL E a) (hb : OkL E b) : OkL E (makeV op a b) :=
  ⟨makeV_right _ _ _, fun s c h => by rw [makeV_has, makeV_has, ha.2 s c h, hb.2 s c h]⟩
set_option maxRecDepth 100000 in
set_option maxHeartbeats 4000000 in
theorem flt_together (g : FuncId) (op : Int) (K : SetC g op) (eg : ∀ args w, (callFunc g args).run Try.prog w = .ok (.enter g args) w) (l : List Nd) (hl : l.length ≤ 64)
    (A : Option Addr) (c m : Nat) (O : List RgL) (hm : m = O.length) (h0 : 0 < m) (h9 : m ≤ 100) (w : World) (hr : RdR w (edgeN l) A c O) :
    Calls Try.prog 31 #[.slice A m c, .func (.func g) #[] #[]] w (RetR w (togL op (O.map (·.l)))) := by
  obtain ⟨a, O1, rfl⟩ : ∃ a O1, O = a :: O1 := by
    cases O with
    | nil => simp at hm; omega
    | cons a O1 => exact ⟨a, O1, rfl⟩
  obtain ⟨b, o, hA, hb1, hcell⟩ := lists_at hr.1 (by simp)
  have c0 := hcell 0 a rfl
  rw [Nat.add_zero] at c0
  have hmc : m ≤ c := by rw [hm]; exact hr.1.room
  have HR1 := Lib.hid (show RdR w (edgeN l) (cutA A 1 c) (c - 1) O1 from hr.cut (j := 1) (by simp))
  have HA := Lib.hid (hr.2 a (List.mem_cons_self ..))
  have K2 : ∀ W : World, (Instr.slice 47 (.slice A m c) (some (.int .i64 1)) none none).run Try.prog W = .ok (.slice (cutA A 1 c) (m - 1) (c - 1)) W := fun W => run_cut (T := 47) (E := 25) Try.underlying47 rngs_sizeOf W A m c 1 (by omega)
  obtain ⟨A3, hA3⟩ : ∃ A3, cutA A 1 c = A3 := ⟨_, rfl⟩
  obtain ⟨c3, hc3⟩ : ∃ c3, c - 1 = c3 := ⟨_, rfl⟩
  obtain ⟨m3, hm3⟩ : ∃ m3, m - 1 = m3 := ⟨_, rfl⟩
  rw [hA3, hc3] at HR1
  rw [hA3, hc3, hm3] at K2
  subst hA
  have HM := Lib.hid (show m3 = O1.length by rw [← hm3, hm]; simp)
  have hm39 : m3 ≤ 100 := by omega
  have hmc3 : m3 ≤ c3 := by omega
  obtain ⟨aA, an, ac, al⟩ := a
  have HT := Lib.hid (show togL op ((⟨aA, an, ac, al⟩ :: O1 : List RgL).map (·.l)) = (O1.map (·.l)).foldl (makeV op) al from rfl)
  obtain ⟨U, hU⟩ : ∃ U, togL op ((⟨aA, an, ac, al⟩ :: O1 : List RgL).map (·.l)) = U := ⟨_, rfl⟩
  rw [hU] at HT
  rw [hU]
  have KK := fun A B c d n m a b hn hm ha hb w hra hrb u hu N hN => Lib.hid (set_ok K hl A B c d n m a b hn hm ha hb w hra hrb u hu N hN)
  have HL := Lib.hid hl
  clear hr hcell hA3 hc3 hm3 hm hU hl K
  change w.cell? ⟨b, o, none⟩ = some (.slice aA an ac) at c0
  go_enter Try.func31, Try.ntmps31
  go_wp2_with fail
  go_loopw [5, 14] (fun s i wr => ∃ (k n5 c5 : Nat) (A5 : Option Addr) (cur : List Rng), k ≤ m3 ∧ Hid (n5 = cur.length ∧ OkL (edgeN l) cur ∧ kRng.Rd wr wr.heap.size A5 c5 cur) ∧ Hid (U = ((O1.drop k).map (·.l)).foldl (makeV op) cur) ∧ s = .slice A5 n5 c5 ∧ i = .int .i64 k ∧ Below w.heap.size w wr) (fun _ i _ => m3 - (intOf i).toNat)
  case atStart => exact ⟨0, an, ac, aA, al, by omega, HA.out, HT.out, rfl, rfl, Below.refl _ _⟩
  case round =>
    obtain ⟨k, n5, c5, A5, cur, hk, HC, HF, rfl, rfl, hb⟩ := hrel
    by_cases hlt : k < m3
    · obtain ⟨r, hg, hd, hrm⟩ := get_some (l := O1) (k := k) (by have := HM.out; omega)
      obtain ⟨b1, o1, rfl, hb1, hcell⟩ := lists_at (HR1.out.call hb).1 (by have := HM.out; omega)
      obtain ⟨hr1, hr2, hr3⟩ := (HR1.out.call hb).2 r hrm
      have d0 := hcell k r hg
      obtain ⟨u, hu⟩ : ∃ u, makeV op cur r.l = u := ⟨_, rfl⟩
      obtain ⟨N, hN⟩ : ∃ N, u.length = N := ⟨_, rfl⟩
      have C := KK A5 r.A c5 r.c n5 r.n cur r.l HC.out.1 hr1 HC.out.2.1 hr2 wr HC.out.2.2 hr3 u hu N hN
      have HF2 := Lib.hid (HF.out.trans (show ((O1.drop k).map (·.l)).foldl (makeV op) cur = ((O1.drop (k + 1)).map (·.l)).foldl (makeV op) u by rw [hd, List.map_cons, List.foldl_cons, hu]))
      have HO := Lib.hid (show OkL (edgeN l) u from hu ▸ make_okL op HC.out.2.1 hr2)
      have HN := Lib.hid hN.symm
      obtain ⟨rA, hrA⟩ : ∃ x, r.A = x := ⟨_, rfl⟩
      obtain ⟨rn, hrn⟩ : ∃ x, r.n = x := ⟨_, rfl⟩
      obtain ⟨rc, hrc⟩ : ∃ x, r.c = x := ⟨_, rfl⟩
      rw [hrA, hrn, hrc] at C d0
      clear hcell hg hd hrm hr1 hr2 hr3 hu hN hrA hrn hrc KK HF HC
      go_wp2_with ((with_reducible refine C.out.mono ?_); rintro e w2 ⟨A6, c6, rfl, hrd, hq⟩; have HC2 := Lib.hid (And.intro HN.out (And.intro HO.out hrd)); have HB2 := Lib.hid (hb.trans (hq.mono hb.size)); clear hrd hq)
      go_roundw
      case rel => exact ⟨k + 1, N, c6, A6, u, by omega, HC2.out, HF2.out, rfl, by go_num, HB2.out⟩
      case measure => simp [intOf]; omega
    · have HF2 := Lib.hid (HF.out.trans (show ((O1.drop k).map (·.l)).foldl (makeV op) cur = cur by rw [List.drop_eq_nil_of_le (by have := HM.out; omega)]; rfl))
      clear HF KK
      go_wp2_with fail
      go_ret
      obtain ⟨h1, -, h3⟩ := HC.out
      exact ⟨A5, c5, ret_slice (by rw [HF2.out]; exact h1), by rw [HF2.out]; exact h3, hb⟩
set_option maxRecDepth 100000 in
set_option maxHeartbeats 4000000 in
theorem fold_lists (g : FuncId) (eg : ∀ args w, (callFunc g args).run Try.prog w = .ok (.enter g args) w)
    (A : Option Addr) (c n : Nat) (l : List Nd) (hn : n = l.length) (hn9 : n ≤ 64) (w : World) (hr : kNd.Rd w w.heap.size A c l)
    (K : ∀ nd, nd ∈ l → nodeV nd = true → ∀ (O Q : Int) (S T : ByteArray), nd.op = O → nd.kids = Q → str nd.lo = S → str nd.hi = T → ∀ (ks : List RgL) (A : Option Addr) (c m : Nat), m = ks.length → ks.length = kidsN nd → ∀ x, listN nd (ks.map (·.l)) = x → ∀ W, Below w.heap.size w W → RdR W (edgeN l) A c ks →
      Calls Try.prog g #[.agg #[.int .i64 O, .int .i64 Q, .string S, .string T], .slice A m c] W (RetR W x))
    (hd : depV l 0 = some 1) (v : List Rng) (hv : foldG listN l [] = [v]) :
    Calls Try.prog 29 #[.slice A n c, .func (.func g) #[] #[]] w (RetR w v) := by
  have HN := Lib.hid hn
  have HR := Lib.hid hr
  have HV := Lib.hid hv
  have HD := Lib.hid hd
  have HK := Lib.hid K
  have hcx : n ≤ c := by rw [hn]; exact hr.room
  clear hn hr hv hd K
  go_enter Try.func29, Try.ntmps29
  go_wp2_with fail
  go_loopw [5, 13] (fun s i wr => ∃ (k m c2 : Nat) (O : List RgL) (A2 : Option Addr), k ≤ n ∧ m ≤ k ∧ m ≤ c2 ∧ Hid (m = O.length) ∧ Hid (depV (l.drop k) m = some 1) ∧ Hid (foldG listN l [] = foldG listN (l.drop k) (O.map (·.l))) ∧ Hid (RdR wr (edgeN l) A2 c2 O) ∧ s = .slice A2 m c2 ∧ i = .int .i64 k ∧ Below w.heap.size w wr) (fun _ i _ => n - (intOf i).toNat)
  case atStart => exact ⟨0, 0, 0, [], none, by omega, by omega, by omega, rfl, HD.out, rfl, ⟨Kind.Rd.nil _ _, fun x hx => by cases hx⟩, rfl, rfl, Below.refl _ _⟩
  case round =>
    obtain ⟨k, m, c2, O, A2, hk, hmk, hmc, HM, HE, HF, HO, rfl, rfl, hb⟩ := hrel
    by_cases hlt : k < n
    · obtain ⟨r, hg, hdr, hrm⟩ := get_some (l := l) (k := k) (by have := HN.out; omega)
      obtain ⟨b, o, rfl, hb1, hcell⟩ := nds_at (HR.out.below hb) (by have := HN.out; omega)
      obtain ⟨c0, c1, d2, c3⟩ := hcell k r hg
      have he := HE.out
      rw [hdr] at he
      obtain ⟨hx, hqm, he2⟩ := dep_step he
      obtain ⟨g0, g32⟩ := nodeV_kids hx
      have hb2 := Nat.lt_of_lt_of_le hb1 hb.size
      obtain ⟨q, hq⟩ : ∃ q, kidsN r = q := ⟨_, rfl⟩
      rw [hq] at hqm he2
      have hkq : r.kids = (q : Int) := by rw [← hq]; unfold kidsN; omega
      obtain ⟨j, hj⟩ : ∃ j, m - q = j := ⟨_, rfl⟩
      rw [hj] at he2
      have hjm : j ≤ m := by omega
      have hjO : j ≤ O.length := by rw [← HM.out]; exact hjm
      obtain ⟨x, hxv⟩ : ∃ x, listN r ((O.drop j).map (·.l)) = x := ⟨_, rfl⟩
      obtain ⟨N, hN⟩ : ∃ N, x.length = N := ⟨_, rfl⟩
      have HK2 := fun (W : World) (hW : Below w.heap.size w W) (hO : RdR W (edgeN l) A2 c2 O) => Lib.hid ((HK.out r hrm hx _ _ _ _ rfl rfl rfl rfl (O.drop j) (cutA A2 j c2) (c2 - j) (m - j) (by rw [List.length_drop, ← HM.out]) (by rw [List.length_drop, ← HM.out, hq]; omega) x hxv W hW (hO.cut hjO)).mono fun e W' h => show ∃ A5 c5, e = .returned (.slice A5 N c5) ∧ kRng.Rd W' W'.heap.size A5 c5 x ∧ Below W.heap.size W W' from by rw [← hN]; exact h)
      have HF2 := Lib.hid (HF.out.trans (show foldG listN (l.drop k) (O.map (·.l)) = foldG listN (l.drop (k + 1)) ((O.take j).map (·.l) ++ [x]) by rw [hdr, foldG_cons listN r _ (O.map (·.l)) (m := j) (by rw [List.length_map, ← HM.out, hq]; exact hj), ← List.map_drop, hxv, List.map_take]))
      have HE2 := Lib.hid he2
      have HT := fun (W : World) (hO : RdR W (edgeN l) A2 c2 O) => Lib.hid (hO.take hjO)
      have HOK := Lib.hid (show OkL (edgeN l) x from hxv ▸ open_ok hrm hx (by rw [List.length_map, List.length_drop, ← HM.out, hq]; omega) (fun k hk => by obtain ⟨q, hq, rfl⟩ := List.mem_map.1 hk; exact (HO.out.2 q (List.mem_of_mem_drop hq)).2.1))
      have HNN := Lib.hid hN
      have HTL := Lib.hid (show j = (O.take j).length by rw [List.length_take]; omega)
      have K1 := fun W : World => run_take3 (T := 47) (E := 25) Try.underlying47 rngs_sizeOf W A2 m c2 j (by omega)
      have K2 := fun W : World => run_cut (T := 47) (E := 25) Try.underlying47 rngs_sizeOf W A2 m c2 j (by omega)
      obtain ⟨A3, hA3⟩ : ∃ A3, cutA A2 j c2 = A3 := ⟨_, rfl⟩
      obtain ⟨c3', hc3⟩ : ∃ c3', c2 - j = c3' := ⟨_, rfl⟩
      obtain ⟨m3, hm3⟩ : ∃ m3, m - j = m3 := ⟨_, rfl⟩
      rw [hA3, hc3, hm3] at K2 HK2
      have hw : IntKind.i64.wrap ((m : Int) - (q : Int)) = (j : Int) := by rw [show (m : Int) - (q : Int) = (j : Int) by omega]; exact IntWalk.i64_in _ (by omega)
      have hj9 : j ≤ 64 := by omega
      obtain ⟨O', hO'⟩ : ∃ O', r.op = O' := ⟨_, rfl⟩
      obtain ⟨S, hS⟩ : ∃ S, str r.lo = S := ⟨_, rfl⟩
      obtain ⟨T, hT⟩ : ∃ T, str r.hi = T := ⟨_, rfl⟩
      rw [hO', hkq, hS, hT] at HK2
      rw [hO'] at c0
      rw [hkq] at c1
      rw [hS] at d2
      rw [hT] at c3
      have HB1 := Lib.hid (hb.alloc hb.size (.cells #[.int .i64 O', .int .i64 (q : Int), .string S, .string T] 33))
      have HO1 := Lib.hid (HO.out.call (below_new wr (.cells #[.int .i64 O', .int .i64 (q : Int), .string S, .string T] 33)))
      have HK3 := fun q' => HK2 ((wr.alloc (.cells #[.int .i64 O', .int .i64 (q : Int), .string S, .string T] 33)).drewN q') (below_drewN HB1.out q') (HO1.out.call (below_drewN (Below.refl _ _) q'))
      have HB2 := fun q' => Lib.hid (below_drewN HB1.out q')
      have HO2 := fun q' => Lib.hid (HO1.out.call (below_drewN (Below.refl _ _) q'))
      have HRW := fun (W : World) (A5 : Option Addr) (c5 : Nat) => Lib.hid (show RowAt (W.alloc (.cells #[.slice A5 N c5] 25)) (W.heap.size + 1) (some ⟨W.heap.size, 0, none⟩) (kLs.row [⟨A5, N, c5, x⟩]) from (Kind.rd_new (k := kLs) (l := [⟨A5, N, c5, x⟩]) (n := 1) rfl rfl (by simp)).row)
      clear hcell hg hdr he he2 hx hqm hq hkq hj hjO hxv hA3 hc3 hm3 hO' hS hT HE HF HK2 HO HO1
      go_wp2_with fail
      go_quiet (fail)
      go_wp2_with (first
        | ((with_reducible refine (HK3 _).out.mono ?_); rintro e w3 ⟨A5, c5, rfl, hrx, hq⟩; have HX3 := Lib.hid (show RgL.Ok (edgeN l) w3 ⟨A5, N, c5, x⟩ from ⟨HNN.out.symm, HOK.out, hrx⟩); have HB3 := Lib.hid ((HB2 _).out.trans (hq.mono (HB2 _).out.size)); have HO3 := Lib.hid ((HO2 _).out.call hq); clear hq hrx)
        | (at_builtin; refine wpList_app_full kLs rfl (.tmp 29) (.tmp 34) rfl _ A2 j (O.take j) HTL.out rfl (HT _ (HO3.out.call (below_new w3 _))).out.1 _ w3.heap.size ⟨A5, N, c5, x⟩ rfl (HRW w3 A5 c5).out (by omega) (by decide) ?_; intro v4 w4 hown hb4; obtain ⟨A4, c4, rfl, hrd⟩ := hown.read_n (n := j + 1) (by rw [List.length_append, ← HTL.out]; rfl); have hbb := (below_new w3 (.cells #[.slice A5 N c5] 25)).trans (hb4.mono (by simp)); have HO4 := Lib.hid (show RdR w4 (edgeN l) A4 c4 (O.take j ++ [⟨A5, N, c5, x⟩]) from ⟨hrd, fun y hy => by
            rcases List.mem_append.1 hy with hy | hy
            · exact ((HO3.out.2 y (List.mem_of_mem_take hy)).call hbb)
            · rw [List.mem_singleton] at hy; subst hy; exact HX3.out.call hbb⟩); have HB4 := Lib.hid ((HB3.out.alloc HB3.out.size _).trans (hb4.mono (HB3.out.alloc HB3.out.size _).size)); have hroom := hrd.room; clear hown hb4 hrd hbb))
      have hroom2 : j + 1 ≤ c4 := by rw [List.length_append, ← HTL.out] at hroom; exact hroom
      go_roundw
      case rel => exact ⟨k + 1, j + 1, c4, O.take j ++ [⟨A5, N, c5, x⟩], A4, by omega, by omega, hroom2, by rw [List.length_append, ← HTL.out]; rfl, HE2.out, by rw [List.map_append]; exact HF2.out, HO4, rfl, by go_num, HB4.out⟩
      case measure => simp [intOf]; omega
    · have he := HE.out
      rw [List.drop_eq_nil_of_le (by have := HN.out; omega)] at he
      obtain rfl : m = 1 := by injection he
      have hf := HV.out.symm.trans HF.out
      rw [List.drop_eq_nil_of_le (by have := HN.out; omega)] at hf
      obtain ⟨y, rfl⟩ : ∃ y, O = [y] := by
        match O, HM.out with
        | [y], _ => exact ⟨y, rfl⟩
      obtain rfl : v = y.l := by injection hf
      obtain ⟨b, o, rfl, hb1, hcell⟩ := lists_at HO.out.1 (by simp)
      have c0 := hcell 0 y rfl
      rw [Nat.add_zero] at c0
      obtain ⟨hy1, -, hy3⟩ := HO.out.2 y (List.mem_singleton.2 rfl)
      have HY := Lib.hid (And.intro hy1 hy3)
      obtain ⟨yA, hyA⟩ : ∃ x, y.A = x := ⟨_, rfl⟩
      obtain ⟨yn, hyn⟩ : ∃ x, y.n = x := ⟨_, rfl⟩
      obtain ⟨yc, hyc⟩ : ∃ x, y.c = x := ⟨_, rfl⟩
      rw [hyA, hyn, hyc] at c0
      rw [hyA, hyn, hyc] at HY
      clear he hf hcell HF HE hy1 hy3 hyA hyn hyc
      go_wp2_with fail
      go_ret
      exact ⟨yA, yc, ret_slice HY.out.1, HY.out.2, hb⟩
end Go.Proofs.Ytbobgkepnocenaa

/-
  Layer 9 (filter), the program: which list of ranges a filter has.
-/
namespace Go.Proofs.Ytbobgkepnocenaa
open Go.RowKit

theorem RetR.more {w1 w w' : World} {l : List Rng} {e : Ending} (hb : Below w1.heap.size w1 w) (h : RetR w l e w') : RetR w1 l e w' := by
  obtain ⟨A, c, h1, h2, h3⟩ := h
  exact ⟨A, c, h1, h2, hb.trans (h3.mono hb.size)⟩
set_option maxHeartbeats 4000000 in
theorem ranges_node (l : List Nd) (hll : l.length ≤ 64) (n : Nd) (hnv : nodeV n = true) (hl : n.lo.length ≤ 1000000) (O Q : Int) (S T : ByteArray) (hO : n.op = O) (hS : str n.lo = S) (hT : str n.hi = T)
    (ks : List RgL) (A : Option Addr) (c m : Nat) (hm : m = ks.length) (hk : ks.length = kidsN n) (x : List Rng) (hx : listN n (ks.map (·.l)) = x) (w : World) (hr : RdR w (edgeN l) A c ks) :
    Calls Try.prog 30 #[.agg #[.int .i64 O, .int .i64 Q, .string S, .string T], .slice A m c] w (RetR w x) := by
  have HB := Lib.hid ((Below.refl w.heap.size w).alloc (Nat.le_refl _) (.cells #[.int .i64 O, .int .i64 Q, .string S, .string T] 33))
  have HR := Lib.hid (hr.call HB.out)
  have hcx : m ≤ c := by rw [hm]; exact hr.1.room
  have hm9 : m ≤ 32 := by
    rw [hm, hk]
    have := (nodeV_kids hnv).2
    unfold kidsN
    omega
  unfold listN at hx
  rw [hO] at hx
  by_cases h6 : O = 6
  · rw [if_pos h6] at hx
    have h1 := nodeV_not hnv (by rw [hO]; exact h6)
    rw [h1] at hk
    obtain ⟨y, rfl⟩ : ∃ y, ks = [y] := by
      match ks, hk with
      | [y], _ => exact ⟨y, rfl⟩
    obtain rfl : x = notV y.l := hx.symm
    obtain rfl : m = 1 := hm
    obtain ⟨b, o, rfl, hb1, hcell⟩ := lists_at hr.1 (by simp)
    have c0 := hcell 0 y rfl
    rw [Nat.add_zero] at c0
    obtain ⟨g1, g2, g3⟩ := HR.out.2 y (List.mem_singleton.2 rfl)
    have C := Lib.hid (k_not y.A y.c y.n y.l g1 ((okL_small g2 hll).mono (by omega)) _ g3)
    have HX := Lib.hid (show makeV 4 y.l [] = notV y.l from rfl)
    obtain ⟨yA, hyA⟩ : ∃ x, y.A = x := ⟨_, rfl⟩
    obtain ⟨yn, hyn⟩ : ∃ x, y.n = x := ⟨_, rfl⟩
    obtain ⟨yc, hyc⟩ : ∃ x, y.c = x := ⟨_, rfl⟩
    rw [hyA, hyn, hyc] at C c0
    subst h6
    clear hO hS hT hx hk hr hcell h1 hnv hll hl g1 g2 g3 HR hyA hyn hyc
    go_enter Try.func30, Try.ntmps30
    go_wp2_with ((with_reducible refine C.out.mono ?_); rintro e w1 ⟨A1, c1, rfl, hrd, hq⟩; have HF := Lib.hid (RetR.more HB.out ⟨A1, c1, rfl, hrd, hq⟩); clear hrd hq)
    go_ret
    exact HX.out ▸ HF.out
  · rw [if_neg h6] at hx
    have n6 : (O == 6) = false := beq_eq_false_iff_ne.2 h6
    by_cases h7 : O = 7
    · rw [if_pos h7] at hx
      have h0 := nodeV_some hnv (.inl (by rw [hO]; exact h7))
      have C := Lib.hid (flt_together 26 2 k_meet (enters_of Try.func26 (by kernel_rfl) rfl) l hll A c m ks hm (by omega) (by omega) _ HR.out)
      rw [hx] at C
      subst h7
      clear hO hS hT hm hk hr hnv hll hl HR hx h0
      go_enter Try.func30, Try.ntmps30
      go_wp2_with ((with_reducible refine C.out.mono ?_); rintro e w1 ⟨A1, c1, rfl, hrd, hq⟩; have HF := Lib.hid (RetR.more HB.out ⟨A1, c1, rfl, hrd, hq⟩); clear hrd hq)
      go_ret
      exact HF.out
    · rw [if_neg h7] at hx
      have n7 : (O == 7) = false := beq_eq_false_iff_ne.2 h7
      by_cases h8 : O = 8
      · rw [if_pos h8] at hx
        have h0 := nodeV_some hnv (.inr (by rw [hO]; exact h8))
        have C := Lib.hid (flt_together 27 1 k_union (enters_of Try.func27 (by kernel_rfl) rfl) l hll A c m ks hm (by omega) (by omega) _ HR.out)
        rw [hx] at C
        subst h8
        clear hO hS hT hm hk hr hnv hll hl HR hx h0
        go_enter Try.func30, Try.ntmps30
        go_wp2_with ((with_reducible refine C.out.mono ?_); rintro e w1 ⟨A1, c1, rfl, hrd, hq⟩; have HF := Lib.hid (RetR.more HB.out ⟨A1, c1, rfl, hrd, hq⟩); clear hrd hq)
        go_ret
        exact HF.out
      · rw [if_neg h8] at hx
        have n8 : (O == 8) = false := beq_eq_false_iff_ne.2 h8
        obtain ⟨r, hr2⟩ : ∃ r, ownR n = r := ⟨_, rfl⟩
        rw [hr2] at hx
        obtain ⟨U1, hU1⟩ : ∃ U, str r.lo = U := ⟨_, rfl⟩
        obtain ⟨V1, hV1⟩ : ∃ V, str r.hi = V := ⟨_, rfl⟩
        obtain ⟨p1, hp2⟩ : ∃ p, r.op = p := ⟨_, rfl⟩
        have CO := fun w => Lib.hid (flt_own n O Q S T hO hS hT hl r hr2 U1 V1 p1 ⟨hU1, hV1, hp2⟩ w)
        have CF := fun W : World => Lib.hid (rgs_of (some ⟨W.heap.size, 0, none⟩) 1 1 [r] rfl (by omega) (W.alloc (.cells #[.string U1, .string V1, .bool p1] 45)) (by
          have := rng_row W r 1 rfl
          rw [hU1, hV1, hp2] at this
          rw [size1]
          exact this))
        rw [hx] at CF
        clear hO hS hT hm hk hr hnv hll hl hx hr2 hU1 hV1 hp2 HR
        go_enter Try.func30, Try.ntmps30
        go_wp2_with (first
          | ((with_reducible refine (CO _).out.mono ?_); rintro e w1 ⟨rfl, hq⟩; have HB2 := Lib.hid (HB.out.trans (hq.mono HB.out.size)); clear hq)
          | ((with_reducible refine (CF w1).out.mono ?_); rintro e w2 ⟨A1, c1, rfl, hrd, hq⟩; have HF := Lib.hid (RetR.more (HB2.out.alloc HB2.out.size _) ⟨A1, c1, rfl, hrd, hq⟩); clear hrd hq))
        go_ret
        exact HF.out
set_option maxHeartbeats 1000000 in
theorem k_nranges : NRangesC 9 := fun A c n a hn hs w hr => by
  have hll : ∀ r ∈ a, r.lo.length ≤ 1000000 := fun r hr => by have := (hs.2 r hr).1; omega
  obtain ⟨x, hx⟩ : ∃ x, rightN a = x := ⟨_, rfl⟩
  have C1 := Lib.hid (flt_right A c n a hn hll x hx w hr)
  cases x
  · have e : rangesN a = [] := by unfold rangesN; rw [hx]
    rw [e]
    clear hn hs hr hll hx e
    go_enter Try.func9, Try.ntmps9
    go_wp2_with ((with_reducible refine C1.out.mono ?_); rintro e w2 ⟨rfl, hq⟩; have HB2 := Lib.hid hq; clear hq)
    go_ret
    exact ⟨none, 0, rfl, Kind.Rd.nil _ _, HB2.out⟩
  · have C2 := fun (W2 : World) (h : Below w.heap.size w W2) => Lib.hid (fold_lists 30 (enters_of Try.func30 (by kernel_rfl) rfl) A c n a hn (by rw [hn]; exact hs.1) W2 (hr.call h)
      (fun nd hm hvn O Q S T hO hQ hS hT ks A3 c3 m3 hm3 hk3 x3 hx3 W3 hW3 hr3 => ranges_node a hs.1 nd hvn (hll nd hm) O Q S T hO hS hT ks A3 c3 m3 hm3 hk3 x3 hx3 W3 hr3)
      ((rightN_iff.1 hx).2.2) (rangesN a) (fold_ranges hx))
    obtain ⟨U, hU⟩ : ∃ U, rangesN a = U := ⟨_, rfl⟩
    rw [hU] at C2 ⊢
    clear hn hs hr hll hx hU
    go_enter Try.func9, Try.ntmps9
    go_wp2_with (first
      | ((with_reducible refine C1.out.mono ?_); rintro e w2 ⟨rfl, hq⟩; have HB2 := Lib.hid hq; clear hq)
      | ((with_reducible refine (C2 _ HB2.out).out.mono ?_); rintro e w3 ⟨A1, c1, rfl, hrd, hq⟩; have HF := Lib.hid (RetR.more HB2.out ⟨A1, c1, rfl, hrd, hq⟩); clear hrd hq))
    go_ret
    exact HF.out
end Go.Proofs.Ytbobgkepnocenaa
