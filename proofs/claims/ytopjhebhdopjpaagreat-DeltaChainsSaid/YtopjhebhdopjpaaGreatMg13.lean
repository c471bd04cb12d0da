/-
  Several texts in one: Law13B, Law13C, Law13D, Law13E, Sorted, ShelfSortRn, CntG, CntH, CntI, CntJ, CntK, Full.
-/
import Derived.Deep.DeepCutAuto
import Derived.Shelf.SlSortCmp.WholeK
import Derived.Shelf.SlSortCmp.NoneTotal
import Derived.Test.YtopjhebhdopjpaaGreatProg
import Derived.Deep.CutRange
import Derived.ArgAppend
import Derived.Test.YtopjhebhdopjpaaGreatMg12
namespace Go.Proofs.YtopjhebhdopjpaaGreat
open Go.RowKit

end Go.Proofs.YtopjhebhdopjpaaGreat

namespace Go.Proofs.YtopjhebhdopjpaaGreat
open Go.RowKit

end Go.Proofs.YtopjhebhdopjpaaGreat

namespace Go.Proofs.YtopjhebhdopjpaaGreat
open Go.RowKit

end Go.Proofs.YtopjhebhdopjpaaGreat

namespace Go.Proofs.YtopjhebhdopjpaaGreat
open Go.RowKit

end Go.Proofs.YtopjhebhdopjpaaGreat

namespace Go.Proofs.YtopjhebhdopjpaaGreat
open Go.RowKit Go.Sort

theorem grown_sortK {α : Type} [Inhabited α] {enc : α → List Value} {k : Nat} {w : World} {g m : Nat} {os : Array Obj} (d : Array α) : w.grownBy (sortWorldK enc k w g 0 m d os) (some g) := by
  unfold sortWorldK putRowK
  refine ⟨rfl, rfl, rfl, by simp, fun j hj hne => ?_⟩
  rw [heap_grow_old _ _ (by simpa using hj)]
  have : g ≠ j := fun e => hne (by rw [e])
  simp [putRow, mapBlock, Sort.ahead, Array.getElem?_modify, this]
theorem heap_sortK {α : Type} [Inhabited α] {enc : α → List Value} {k : Nat} {w : World} {g m : Nat} {os : Array Obj} {cur : Array Value} {e : TypeId} {fr : Nat × Nat} (d : Array α) (hb : w.heap[g]? = some (.cells cur e fr)) :
    (sortWorldK enc k w g 0 m d os).heap[g]? = some (.cells (putCells id 0 (flatK enc k d) cur) e fr) := by
  have hg : g < w.heap.size := (Array.getElem?_eq_some_iff.1 hb).1
  unfold sortWorldK putRowK
  rw [heap_grow_old _ _ (by simpa using hg)]
  simp [putRow, mapBlock, Sort.ahead, Array.getElem?_modify, hb, onCells]
theorem take_putCells_id (cur F : Array Value) (h : F.size ≤ cur.size) : (putCells id 0 F cur).toList.take F.size = F.toList := by
  apply List.ext_getElem?
  intro j
  by_cases hj : j < F.size
  · rw [List.getElem?_take_of_lt hj, Array.getElem?_toList, Array.getElem?_toList]
    simp [putCells, hj, show j < cur.size by omega]
  · rw [List.getElem?_take_eq_none (by omega), List.getElem?_eq_none (by simp; omega)]
namespace Kind
variable {P : Program} {α : Type} [Inhabited α] (K : Kind P α)
theorem flat_row (d : Array α) : (flatK K.cells K.size d).toList = K.row d.toList := by
  apply List.ext_getElem (by rw [K.row_len]; simp)
  intro t h1 h2
  have ht : t < d.size * K.size := by simpa using h1
  have hk : 0 < K.size := K.pos
  have hq : t / K.size < d.size := Nat.div_lt_of_lt_mul (by rw [Nat.mul_comm]; exact ht)
  have hr : t % K.size < K.size := Nat.mod_lt _ hk
  have e : t / K.size * K.size + t % K.size = t := by rw [Nat.mul_comm]; exact Nat.div_add_mod t K.size
  have hx : d.toList[t / K.size]? = some d[t / K.size]! := by rw [Array.getElem?_toList, getElem!_pos d _ hq, Array.getElem?_eq_getElem hq]
  have := K.row_get hx hr
  rw [e, List.getElem?_eq_getElem h2, List.getElem?_eq_getElem (by rw [K.len]; exact hr)] at this
  injection this with this
  rw [this]
  simp only [flatK, Array.toList_map, Array.toList_range, List.getElem_map, List.getElem_range]
  rw [getElem!_pos _ _ (by rw [K.len]; exact hr)]
variable {K}
theorem Own.holdsK {w : World} {base g n c : Nat} {l : List α} (h : K.Own w base (.slice (some ⟨g, 0, none⟩) n c) l) : HoldsK K.cells K.size w g 0 l.toArray ∧ (l ≠ [] → g < w.heap.size) := by
  rcases h.2 with ⟨h0, _⟩ | ⟨g', cap, cur, hv, hg, hb, hc, _, hz, ht⟩
  · cases h0
  · injection hv with hA
    injection hA with hA
    injection hA with hA
    subst hA
    refine ⟨fun j hj => ?_, fun _ => lt_of_block hb⟩
    have hj' : j < l.length * K.size := by simpa using hj
    refine ⟨?_, by simp [World.frozen?, hb]⟩
    rw [cell_of_row _ _ _ cur _ (0, 0) hb, ← Array.getElem?_toList, Nat.zero_add]
    have h1 : (cur.toList.take (l.length * K.size))[j]? = (K.row l)[j]? := by rw [ht]
    rw [List.getElem?_take_of_lt hj'] at h1
    have h2 := K.flat_row l.toArray
    rw [List.toList_toArray] at h2
    rw [h1, ← h2, Array.getElem?_toList, Array.getElem?_eq_getElem hj, getElem!_pos (flatK K.cells K.size l.toArray) j hj]
    rfl
theorem Own.sorted {w : World} {base g n c m : Nat} {l : List α} {os : Array Obj} (h : K.Own w base (.slice (some ⟨g, 0, none⟩) n c) l) (d : Array α) (hd : d.size = l.length) (hn : n = l.length) :
    K.Own (sortWorldK K.cells K.size w g 0 m d os) base (.slice (some ⟨g, 0, none⟩) n c) d.toList := by
  subst hn
  rcases h.2 with ⟨h0, _⟩ | ⟨g', cap, cur, hv, hg, hb, hc, hm, hz, ht⟩
  · cases h0
  · injection hv with hA h5 h6
    injection hA with hA
    injection hA with hA
    subst hA h6
    have e : d.toList.length = l.length := by rw [Array.length_toList, hd]
    refine ⟨by rw [K.row_len], .inr ⟨g, c, _, by rw [e], hg, heap_sortK d hb, by rw [e]; exact hc, hm, by simp [putCells, hz], ?_⟩⟩
    rw [e, ← K.flat_row, ← hd, ← size_flatK K.cells K.size d]
    refine take_putCells_id _ _ ?_
    rw [size_flatK, hz, hd]
    exact Nat.mul_le_mul_right _ hc
end Kind
theorem perm_of_permIn {α : Type} [Inhabited α] {l : List α} {d : Array α} (h : PermIn 0 l.toArray.size l.toArray d) : d.toList.Perm l := by
  obtain ⟨h1, _, h3⟩ := h
  rw [← h1, Array.extract_size, h1, Array.extract_size] at h3
  simpa using h3
theorem pairs_of_sortedIn {α : Type} [Inhabited α] {lt : α → α → Bool} {d : Array α} (h : SortedIn lt 0 d.size d) : d.toList.Pairwise fun a b => lt b a = false := by
  rw [List.pairwise_iff_getElem]
  intro i j hi hj hij
  have hi' : i < d.size := by simpa using hi
  have hj' : j < d.size := by simpa using hj
  have := h i j (Nat.zero_le _) hij hj'
  rw [getElem!_pos d i hi', getElem!_pos d j hj'] at this
  simpa using this
end Go.Proofs.YtopjhebhdopjpaaGreat

namespace Go.Proofs
open Go.Shelf
def Tryz.sortRn_ren : Go.Shelf.Ren := ⟨fun | 6 => 160 | 15 => 117 | 14 => 167 | 28 => 144 | 29 => 145 | 20 => 169 | 21 => 170 | 22 => 171 | 23 => 172 | 24 => 173 | 25 => 174 | 26 => 175 | 27 => 176 | 46 => 177 | 47 => 156 | 48 => 157 | 49 => 178 | 50 => 179 | 57 => 180 | n => n, fun | 22 => 62 | 24 => 105 | 25 => 193 | 3 => 3 | 39 => 145 | 0 => 0 | 53 => 172 | 55 => 174 | 4 => 4 | 46 => 165 | 45 => 164 | 50 => 169 | 5 => 5 | 9 => 9 | 66 => 186 | 70 => 190 | 76 => 196 | 77 => 197 | n => n, fun | n => n⟩
theorem Tryz.sortRn : Go.Proofs.SlLaysF0.n6 Tryz.prog Tryz.sortRn_ren := {
  mixed := by kernel_rfl
  f6 := ⟨Tryz.f160.name, by decide, Tryz.func160.trans (congrArg some (by kernel_rfl))⟩
  f14 := ⟨Tryz.f167.name, by decide, Tryz.func167.trans (congrArg some (by kernel_rfl))⟩
  f15 := Tryz.func117.trans (congrArg some (by kernel_rfl))
  f20 := ⟨Tryz.f169.name, by decide, Tryz.func169.trans (congrArg some (by kernel_rfl))⟩
  f21 := ⟨Tryz.f170.name, by decide, Tryz.func170.trans (congrArg some (by kernel_rfl))⟩
  f22 := ⟨Tryz.f171.name, by decide, Tryz.func171.trans (congrArg some (by kernel_rfl))⟩
  f23 := ⟨Tryz.f172.name, by decide, Tryz.func172.trans (congrArg some (by kernel_rfl))⟩
  f24 := ⟨Tryz.f173.name, by decide, Tryz.func173.trans (congrArg some (by kernel_rfl))⟩
  f25 := ⟨Tryz.f174.name, by decide, Tryz.func174.trans (congrArg some (by kernel_rfl))⟩
  f26 := ⟨Tryz.f175.name, by decide, Tryz.func175.trans (congrArg some (by kernel_rfl))⟩
  f27 := ⟨Tryz.f176.name, by decide, Tryz.func176.trans (congrArg some (by kernel_rfl))⟩
  f28 := Tryz.func144.trans (congrArg some (by kernel_rfl))
  f29 := Tryz.func145.trans (congrArg some (by kernel_rfl))
  f46 := ⟨Tryz.f177.name, by decide, Tryz.func177.trans (congrArg some (by kernel_rfl))⟩
  f47 := Tryz.func156.trans (congrArg some (by kernel_rfl))
  f48 := Tryz.func157.trans (congrArg some (by kernel_rfl))
  f49 := ⟨Tryz.f178.name, by decide, Tryz.func178.trans (congrArg some (by kernel_rfl))⟩
  f50 := ⟨Tryz.f179.name, by decide, Tryz.func179.trans (congrArg some (by kernel_rfl))⟩
  f57 := ⟨Tryz.f180.name, by decide, Tryz.func180.trans (congrArg some (by kernel_rfl))⟩
  t0 := Tryz.underlying0
  a0 := Tryz.isAgg0
  z0 := Tryz.sizeOf0
  v0 := Tryz.zeroValue0
  t3 := Tryz.underlying3
  a3 := Tryz.isAgg3
  z3 := Tryz.sizeOf3
  v3 := Tryz.zeroValue3
  t4 := Tryz.underlying4
  a4 := Tryz.isAgg4
  z4 := Tryz.sizeOf4
  v4 := Tryz.zeroValue4
  t5 := Tryz.underlying5
  a5 := Tryz.isAgg5
  z5 := Tryz.sizeOf5
  v5 := Tryz.zeroValue5
  t9 := Tryz.underlying9
  a9 := Tryz.isAgg9
  z9 := Tryz.sizeOf9
  v9 := Tryz.zeroValue9
  t22 := Tryz.underlying62
  a22 := Tryz.isAgg62
  z22 := Tryz.sizeOf62
  v22 := Tryz.zeroValue62
  t25 := Tryz.underlying193
  a25 := Tryz.isAgg193
  z25 := Tryz.sizeOf193
  v25 := Tryz.zeroValue193
  t39 := Tryz.underlying145
  a39 := Tryz.isAgg145
  z39 := Tryz.sizeOf145
  v39 := Tryz.zeroValue145
  t45 := Tryz.underlying164
  a45 := Tryz.isAgg164
  z45 := Tryz.sizeOf164
  v45 := Tryz.zeroValue164
  t46 := Tryz.underlying165
  a46 := Tryz.isAgg165
  z46 := Tryz.sizeOf165
  v46 := Tryz.zeroValue165
  t50 := Tryz.underlying169
  a50 := Tryz.isAgg169
  z50 := Tryz.sizeOf169
  v50 := Tryz.zeroValue169
  t53 := Tryz.underlying172
  a53 := Tryz.isAgg172
  z53 := Tryz.sizeOf172
  v53 := Tryz.zeroValue172
  t55 := Tryz.underlying174
  a55 := Tryz.isAgg174
  z55 := Tryz.sizeOf174
  v55 := Tryz.zeroValue174
  t66 := Tryz.underlying186
  a66 := Tryz.isAgg186
  z66 := Tryz.sizeOf186
  v66 := Tryz.zeroValue186
  t70 := Tryz.underlying190
  a70 := Tryz.isAgg190
  z70 := Tryz.sizeOf190
  v70 := Tryz.zeroValue190
  t76 := Tryz.underlying196
  a76 := Tryz.isAgg196
  z76 := Tryz.sizeOf196
  v76 := Tryz.zeroValue196
  t77 := Tryz.underlying197
  a77 := Tryz.isAgg197
  z77 := Tryz.sizeOf197
  v77 := Tryz.zeroValue197 }
end Go.Proofs

namespace Go.Proofs.YtopjhebhdopjpaaGreat
open Go.RowKit Go.Sort

instance : Inhabited Rn := ⟨⟨0, 0⟩⟩
def cmpI (x y : Int) : Int := match decide (x < y) with | true => -1 | false => match decide (y < x) with | true => 1 | false => 0
theorem cmpI_lt {x y : Int} (h : x < y) : cmpI x y = -1 := by unfold cmpI; rw [decide_eq_true h]
theorem cmpI_gt {x y : Int} (h : y < x) : cmpI x y = 1 := by unfold cmpI; rw [decide_eq_false (by omega), decide_eq_true h]
theorem cmpI_eq {x y : Int} (h : x = y) : cmpI x y = 0 := by unfold cmpI; rw [decide_eq_false (by omega), decide_eq_false (by omega)]
def cmpFr (x y : Rn) : Int := cmpI x.fr y.fr
theorem lt_cmpFr (x y : Rn) : ltOf cmpFr x y = decide (x.fr < y.fr) := by
  unfold ltOf cmpFr
  rcases Int.lt_trichotomy x.fr y.fr with h | h | h
  · rw [cmpI_lt h, decide_eq_true h]; rfl
  · rw [cmpI_eq h, decide_eq_false (show ¬ x.fr < y.fr by omega)]; rfl
  · rw [cmpI_gt h, decide_eq_false (show ¬ x.fr < y.fr by omega)]; rfl
theorem swo_cmpFr : SWO (ltOf cmpFr) where
  irrefl x := by rw [lt_cmpFr]; exact decide_eq_false (by omega)
  trans x y z h1 h2 := by rw [lt_cmpFr, decide_eq_true_eq] at *; omega
  ntrans x y z h1 h2 := by rw [lt_cmpFr, decide_eq_false_iff_not] at *; omega
theorem cn_isnan (x : Int) (w : World) : Calls Tryz.prog 168 #[.int .i64 x] w fun e w' => e = .returned (.bool false) ∧ w = w' := by
  go_enter Tryz.func168, Tryz.ntmps168
  go_wp2_with fail
  go_ret
  exact ⟨rfl, rfl⟩
theorem cn_compare (x y v : Int) (hv : cmpI x y = v) (w : World) : Calls Tryz.prog 162 #[.int .i64 x, .int .i64 y] w fun e w' => e = .returned (.int .i64 v) ∧ w = w' := by
  have N := fun x w => Lib.hid (cn_isnan x w)
  rcases Int.lt_trichotomy x y with h | h | h
  · obtain rfl : v = -1 := by rw [← hv, cmpI_lt h]
    have h1 : decide (x < y) = true := decide_eq_true h
    clear hv
    go_enter Tryz.func162, Tryz.ntmps162
    go_wp2_with ((with_reducible refine (N _ _).out.mono ?_); rintro e w' ⟨rfl, rfl⟩)
    go_ret
    exact ⟨rfl, rfl⟩
  · obtain rfl : v = 0 := by rw [← hv, cmpI_eq h]
    have h1 : decide (x < y) = false := decide_eq_false (by omega)
    have h2 : decide (x > y) = false := decide_eq_false (by omega)
    clear hv
    go_enter Tryz.func162, Tryz.ntmps162
    go_wp2_with ((with_reducible refine (N _ _).out.mono ?_); rintro e w' ⟨rfl, rfl⟩)
    go_ret
    exact ⟨rfl, rfl⟩
  · obtain rfl : v = 1 := by rw [← hv, cmpI_gt h]
    have h1 : decide (x < y) = false := decide_eq_false (by omega)
    have h2 : decide (x > y) = true := decide_eq_true h
    clear hv
    go_enter Tryz.func162, Tryz.ntmps162
    go_wp2_with ((with_reducible refine (N _ _).out.mono ?_); rintro e w' ⟨rfl, rfl⟩)
    go_ret
    exact ⟨rfl, rfl⟩
theorem cn_closure (x y : Rn) (W : World) : Calls Tryz.prog 161 #[.agg (rnCells x).toArray, .agg (rnCells y).toArray] W fun e w' => e = .returned (.int .i64 (cmpFr x y)) ∧ ∃ q os', w' = grow (W.drewN q) os' := by
  have C := fun w => Lib.hid (cn_compare x.fr y.fr (cmpFr x y) rfl w)
  unfold rnCells
  generalize cmpFr x y = v at C ⊢
  go_enter Tryz.func161, Tryz.ntmps161
  go_wp2_with ((with_reducible refine (C _).out.mono ?_); rintro e w' ⟨rfl, rfl⟩)
  go_ret
  exact ⟨rfl, 0, _, by rw [alloc_eq_grow, alloc_eq_grow, grow_grow]; rfl⟩
theorem cn_sort (v : Value) (f : List Rn) (base : Nat) (w : World) (h : kRn.Own w base v f) (hf : f.length ≤ 1000000) (hb : base ≤ w.heap.size) :
    Calls Tryz.prog 160 #[v, .func (.func 161) #[] #[]] w fun e w' => e = .returned (.tuple #[]) ∧ ∃ m, m.Perm f ∧ SortedC m ∧ kRn.Own w' base v m ∧ Below base w w' := by
  by_cases h0 : f = []
  · subst h0
    obtain ⟨A, c, rfl, _⟩ := h.form
    have K := AnyF.slices_SortFunc_none (P := Tryz.prog) (ρ := Tryz.sortRn_ren) { Tryz.sortRn with } A c (.func (.func 161) #[] #[]) w
    refine Calls.mono K ?_
    rintro e w' ⟨rfl, rfl⟩
    exact ⟨rfl, [], List.Perm.refl _, List.Pairwise.nil, h, Below.refl _ _⟩
  · have hp : 0 < f.length := List.length_pos_iff.2 h0
    obtain ⟨g, c, rfl, hc, hg, hgl, _, _⟩ := h.some_ rfl hp
    have hH := h.holdsK.1
    have eg : ∀ args w, (callFunc 161 args).run Tryz.prog w = .ok (.enter 161 args) w := enters_of Tryz.func161 (by kernel_rfl) rfl
    have K := AnyQ.slices_SortFunc Tryz.sortRn 2 Tryz.isAgg105 Tryz.sizeOf105 rnCells (fun _ => rfl) kRn.one cmpFr swo_cmpFr 161 #[] g 0 c f.toArray w eg (fun _ _ _ _ x y => cn_closure x y _) hH hgl (by rw [List.size_toArray]; omega)
    rw [List.size_toArray] at K
    refine Calls.mono K ?_
    rintro e w' ⟨rfl, d, n, os, hpm, hst, rfl⟩
    have hd : d.size = f.length := by have := hpm.1; rwa [List.size_toArray] at this
    have hst2 := pairs_of_sortedIn (lt := ltOf cmpFr) (d := d) (by rw [hd]; exact hst)
    refine ⟨rfl, d.toList, perm_of_permIn (by rw [List.size_toArray]; exact hpm), ?_, h.sorted d hd rfl, (Below.refl _ _).grown (grown_sortK d) hb (fun j hj => by injection hj with hj; subst hj; exact hg)⟩
    unfold SortedC
    exact hst2.imp fun {a b} hab => by rw [lt_cmpFr, decide_eq_false_iff_not] at hab; omega
theorem cfilter_next {l : List Rn} {k : Nat} {r : Rn} (h : l[k]? = some r) : (l.take (k + 1)).filter oneC = (l.take k).filter oneC ++ (match oneC r with | true => [r] | false => []) := by
  rw [List.take_add_one, h, List.filter_append]
  cases hr : oneC r <;> simp [hr]
set_option maxHeartbeats 1000000 in
theorem cn_byBeginning (A : Option Addr) (c n : Nat) (l : List Rn) (hn : n = l.length) (hnl : n ≤ 300000) (w : World) (hr : kRn.Rd w w.heap.size A c l) :
    Calls Tryz.prog 146 #[.slice A n c] w fun e w' => ∃ m, m.Perm (l.filter oneC) ∧ SortedC m ∧ ∃ A' c', e = .returned (.slice A' m.length c') ∧ kRn.Rd w' w'.heap.size A' c' m ∧ Below w.heap.size w w' := by
  have HN := Lib.hid hn
  have HR := Lib.hid hr
  have hcx : n ≤ c := by rw [hn]; exact hr.room
  clear hn hr
  go_enter Tryz.func146, Tryz.ntmps146
  go_wp2_with fail
  go_loopw [3, 8] (fun v i wr => ∃ k : Nat, k ≤ n ∧ Hid (kRn.Own wr w.heap.size v ((l.take k).filter oneC)) ∧ i = .int .i64 k ∧ Below w.heap.size w wr) (fun _ i _ => n - (intOf i).toNat)
  case atStart => exact ⟨0, by omega, Kind.Own.nil _ _, rfl, Below.refl _ _⟩
  case round =>
    obtain ⟨k, hk, HO, rfl, hb⟩ := hrel
    have hol : ((l.take k).filter oneC).length ≤ k := Nat.le_trans (List.length_filter_le _ _) (by rw [List.length_take]; omega)
    by_cases hlt : k < n
    · obtain ⟨r, hg, hd, -⟩ := cnt_get (l := l) (k := k) (by have := HN.out; omega)
      obtain ⟨b, o, rfl, hb1, hcell⟩ := rns_at (HR.out.below hb) (by have := HN.out; omega)
      obtain ⟨c0, c1⟩ := hcell k r hg
      obtain ⟨d, hdv⟩ : ∃ d, oneC r = d := ⟨_, rfl⟩
      have C := fun w => Lib.hid (cn_one r _ _ rfl rfl d hdv w)
      have HF := Lib.hid (cfilter_next hg)
      rw [hdv] at HF
      have hb2 := Nat.lt_of_lt_of_le hb1 hb.size
      have HRW := fun w => Lib.hid (rn_row w r.fr r.to)
      obtain ⟨L, hL⟩ : ∃ L, [r] = L := ⟨_, rfl⟩
      have HX := Lib.hid hL
      have hX1 : L.length = 1 := by rw [← hL]; rfl
      rw [show [(⟨r.fr, r.to⟩ : Rn)] = L from hL] at HRW
      have HLE := Lib.hid (show ((l.take k).filter oneC).length + L.length ≤ 1000000 by rw [hX1]; omega)
      have HX1 := Lib.hid hX1.symm
      clear hcell hg hd hdv hL hX1
      obtain ⟨X, hX⟩ : ∃ X, r.fr = X := ⟨_, rfl⟩
      obtain ⟨Y, hY⟩ : ∃ Y, r.to = Y := ⟨_, rfl⟩
      rw [hX, hY] at C HRW
      rw [hX] at c0
      rw [hY] at c1
      have HG := Lib.hid (rnAt_new wr X Y 105)
      clear hX hY
      have HB1 := Lib.hid (hb.alloc hb.size (.cells #[.int .i64 X, .int .i64 Y] 105))
      have HO1 := Lib.hid (HO.out.alloc (.cells #[.int .i64 X, .int .i64 Y] 105))
      cases d
      · go_wp2_with ((with_reducible refine (C _).out.mono ?_); rintro e w2 ⟨rfl, hq⟩; have HB2 := Lib.hid (HB1.out.trans (hq.mono HB1.out.size)); have HO2 := Lib.hid (HO1.out.below hq); clear hq)
        go_roundw
        case rel => exact ⟨k + 1, by omega, by have := HO2.out; rw [← List.append_nil (List.filter _ _), ← HF.out] at this; exact this, by go_num, HB2.out⟩
        case measure => simp [intOf]; omega
      · go_wp2_with (first
          | ((with_reducible refine (C _).out.mono ?_); rintro e w2 ⟨rfl, hq⟩; have HB2 := Lib.hid (HB1.out.trans (hq.mono HB1.out.size)); have HO2 := Lib.hid (HO1.out.below hq); obtain ⟨g0, g1, g2⟩ := HG.out.below hq; clear hq)
          | (at_builtin; refine wpList_app_k kRn rfl (.tmp 14) (.tmp 16) rfl w.heap.size _ _ rfl (Kind.Own.alloc HO2.out _) _ (some ⟨w2.heap.size, 0, none⟩) 1 1 L HX1.out rfl (HRW w2).out HLE.out (by decide) (cle_alloc (HB2.out.size) _) ?_; intro v3 w3 hown3 hg3 hb3 _; have HO3 := Lib.hid hown3; have HB3 := Lib.hid ((HB2.out.alloc HB2.out.size _).trans hb3); clear hown3 hb3 hg3))
        go_roundw
        case rel => exact ⟨k + 1, by omega, by have := HO3.out; rw [← HX.out, ← HF.out] at this; exact this, by go_num, HB3.out⟩
        case measure => simp [intOf]; omega
    · have hkn : l.take k = l := List.take_of_length_le (by have := HN.out; omega)
      rw [hkn] at HO hol
      have C := Lib.hid (cn_sort _ _ _ wr HO.out (by omega) hb.size)
      have HOF := HO
      clear HO hkn
      go_wp2_with ((with_reducible refine C.out.mono ?_); rintro e w2 ⟨rfl, m, hm1, hm2, hm3, hm4⟩; have H1 := Lib.hid hm1; have H2 := Lib.hid hm2; have H3 := Lib.hid hm3; have H4 := Lib.hid (hb.trans hm4); clear hm1 hm2 hm3 hm4)
      go_ret
      obtain ⟨A5, c5, he, hrd⟩ := H3.out.form
      exact ⟨m, H1.out, H2.out, A5, c5, by rw [he]; rfl, hrd, H4.out⟩
end Go.Proofs.YtopjhebhdopjpaaGreat

namespace Go.Proofs.YtopjhebhdopjpaaGreat
open Go.RowKit

set_option maxHeartbeats 4000000 in
theorem cn_of_own (A : Option Addr) (c n : Nat) (l : List Rn) (hn : n = l.length) (hnl : n ≤ 300000) (U : List Rn) (hU : ofC l = U) (NU : Nat) (hNU : U.length = NU) (w : World) (hr : kRn.Rd w w.heap.size A c l) :
    Calls Tryz.prog 120 #[.slice A n c] w (RetOC w NU U) := by
  have B0 := Lib.hid (cn_byBeginning A c n l hn (by omega) w hr)
  have HN := Lib.hid hn
  have HUU := Lib.hid hU
  have HNN := Lib.hid hNU
  clear hn hr hU hNU
  go_enter Tryz.func120, Tryz.ntmps120
  go_wp2_with ((with_reducible refine B0.out.mono ?_); rintro e w1 ⟨m, hm1, hm2, A1, c1, rfl, hrd, hq⟩; have HM := Lib.hid (mergeC_norm hm1 hm2); have HR := Lib.hid hrd; have HB0 := Lib.hid hq; have HSS := Lib.hid hm2; have HRT := Lib.hid (show ∀ r ∈ m, oneC r = true from fun r hr => (List.mem_filter.1 (hm1.mem_iff.1 hr)).2); have hml := Nat.le_trans (Nat.le_of_eq hm1.length_eq) (List.length_filter_le _ _); clear hm1 hm2 hrd hq)
  obtain ⟨N, hN⟩ : ∃ N, m.length = N := ⟨_, rfl⟩
  rw [hN]
  have hNl : N ≤ 300000 := by have := HN.out; omega
  have HNM := Lib.hid hN
  have hcx : N ≤ c1 := by rw [← hN]; exact HR.out.room
  clear hN hml B0
  go_loopw [3, 10] (fun v i wr => ∃ (k : Nat) (dn : List Rn) (o : Option Rn), k ≤ N ∧ Hid (mergeC none m = dn ++ mergeC o (m.drop k)) ∧ Hid (kRn.Own wr w1.heap.size v (dn ++ o.toList)) ∧ Hid (o = none → dn = []) ∧ Hid (LastC o (m.drop k)) ∧ (dn ++ o.toList).length ≤ k ∧ i = .int .i64 k ∧ Below w1.heap.size w1 wr) (fun _ i _ => N - (intOf i).toNat)
  case atStart => exact ⟨0, [], none, by omega, rfl, Kind.Own.nil _ _, fun _ => rfl, LastC.none _, by simp, rfl, Below.refl _ _⟩
  case round =>
    obtain ⟨k, dn, o, hk, HL, HO, HE, HP, hol, rfl, hb⟩ := hrel
    by_cases hlt : k < N
    · obtain ⟨r, hg, hd, hrm⟩ := cnt_get (l := m) (k := k) (by have := HNM.out; omega)
      obtain ⟨b, o1, rfl, hb1, hcell⟩ := rns_at (HR.out.below hb) (by have := HNM.out; omega)
      obtain ⟨c0, c1⟩ := hcell k r hg
      have hrr := HRT.out r hrm
      have HN1 := Lib.hid (LastC.new hrr (by rw [← hd]; exact HSS.out.from k))
      have hbl := Nat.lt_of_lt_of_le hb1 hb.size
      obtain ⟨X, hX⟩ : ∃ X, r.fr = X := ⟨_, rfl⟩
      obtain ⟨Y, hY⟩ : ∃ Y, r.to = Y := ⟨_, rfl⟩
      have hrX : (⟨X, Y⟩ : Rn) = r := by rw [← hX, ← hY]
      have HRW := fun w => Lib.hid (rn_row w X Y)
      rw [hrX] at HRW
      have HG := Lib.hid (rnAt_new wr X Y 105)
      rw [hX] at c0
      rw [hY] at c1
      have HB1 := Lib.hid (hb.alloc hb.size (.cells #[.int .i64 X, .int .i64 Y] 105))
      have HO1 := Lib.hid (HO.out.alloc (.cells #[.int .i64 X, .int .i64 Y] 105))
      obtain ⟨WB, hWB⟩ : ∃ WB, wr.alloc (.cells #[.int .i64 X, .int .i64 Y] 105) = WB := ⟨_, rfl⟩
      cases o with
      | none =>
        have HL2 := Lib.hid (HL.out.trans (show dn ++ mergeC none (m.drop k) = dn ++ mergeC (some r) (m.drop (k + 1)) by rw [hd]; rfl))
        obtain rfl := HE.out rfl
        obtain ⟨A0, cp0, rfl, -⟩ := HO.out.read_n (n := 0) rfl
        have HC := Lib.hid (show CellL WB [(⟨wr.heap.size, 0, none⟩, .int .i64 X), (⟨wr.heap.size, 1, none⟩, .int .i64 Y)] WB from by rw [hWB] at HG; exact ⟨HG.out.1, HG.out.2.1, Below.refl _ _⟩)
        rw [hWB] at HO1 HB1
        clear hcell hg hd hrm hrr hX hY hrX HG HL HE HO
        have HW := Lib.hid hWB
        go_wp2_with fail
        clear c0 c1
        clear hWB
        refine q_region (CellL WB [(⟨wr.heap.size, 0, none⟩, .int .i64 X), (⟨wr.heap.size, 1, none⟩, .int .i64 Y)]) (by kernel_rfl) (by kernel_rfl) (cellL_drew HC.out) ?_
        repeat (first
          | go_big_quiet_skip
          | (go_big_quiet_want; (first
            | (refine q_take (v := ?_) ?_ ?_; rotate_left; (focus (intro w hSw; (try simp only [CellL] at hSw); go_split_ands; go_simp; (try (rw [if_neg (by omega)])); (try with_reducible rfl); done)))); (try simp only [Act.put, List.setIfInBounds_toArray, List.set_cons_zero, List.set_cons_succ]); go_big_quiet_on))
        refine wpQuiet_nil ?_
        intro w2 hw2
        have HB2 := Lib.hid (HB1.out.trans ((cellL_size hw2).mono HB1.out.size))
        have HO2 := Lib.hid (HO1.out.below (cellL_size hw2))
        simp only [CellL] at hw2
        obtain ⟨g0, g1, -⟩ := hw2
        go_wp2_with (at_builtin; refine wpList_app_k kRn rfl (.tmp 27) (.tmp 29) rfl w1.heap.size _ _ rfl (Kind.Own.alloc HO2.out _) _ (some ⟨w2.heap.size, 0, none⟩) 1 1 [r] rfl rfl (HRW w2).out (by simp) (by decide) (cle_alloc (HB2.out.size) _) ?_; intro v3 w3 hown3 hg3 hb3 _; have HO3 := Lib.hid hown3; have HB3 := Lib.hid ((HB2.out.alloc HB2.out.size _).trans hb3); clear hown3 hb3 hg3)
        go_roundw
        case rel => exact ⟨k + 1, [], some r, by omega, HL2, HO3.out, (fun h => by cases h), HN1.out, by simp, by go_num, HB3.out⟩
        case measure => simp [intOf]; omega
      | some p =>
        obtain ⟨D, hD⟩ : ∃ D, dn.length = D := ⟨_, rfl⟩
        have hLn : D + 1 = (dn ++ [p]).length := by rw [List.length_append, hD]; rfl
        have hD9 : D ≤ 300000 := by have h := hol; rw [show (some p).toList = [p] from rfl, ← hLn] at h; omega
        obtain ⟨g, cp, rfl, hcp, hgb, -, -, -⟩ := HO.out.some_ hLn (by omega)
        have hga : (dn ++ [p])[D]? = some p := by rw [← hD, List.getElem?_append_right (Nat.le_refl _), Nat.sub_self]; rfl
        have HP1 := Lib.hid (show LastC (some p) (r :: m.drop (k + 1)) from by rw [← hd]; exact HP.out)
        have hpr := (HP.out p rfl).1
        obtain ⟨x, hx⟩ : ∃ x, gapC p r = x := ⟨_, rfl⟩
        have CA := fun w => (cn_apart p r p.fr p.to X Y rfl hX hpr x hx w)
        have CA := Lib.hid (fun L => cellL_of (a := WB) (l := L) CA)
        have HLP := Lib.hid (HL.out.trans (by rw [hd]))
        have HX := Lib.hid hx
        rw [hWB] at HO1 HB1 HG
        have HLN := Lib.hid hLn
        have HDD := Lib.hid hD
        have HRR := Lib.hid hrr
        have HYY := Lib.hid hY
        obtain ⟨-, hgl, hfz, hcs⟩ := HO1.out.at_g hLn (by omega)
        have e0 := hcs D p hga 0 _ rfl
        have e1 := hcs D p hga 1 _ rfl
        change WB.cell? ⟨g, D * 2 + 0, none⟩ = some (.int .i64 p.fr) at e0
        change WB.cell? ⟨g, D * 2 + 1, none⟩ = some (.int .i64 p.to) at e1
        rw [Nat.add_zero] at e0
        obtain ⟨S, hS⟩ : ∃ S, p.fr = S := ⟨_, rfl⟩
        obtain ⟨T, hT⟩ : ∃ T, p.to = T := ⟨_, rfl⟩
        rw [hS, hT] at CA
        rw [hS] at e0
        rw [hT] at e1
        have HTT := Lib.hid hT
        have HC := Lib.hid (show CellL WB [(⟨wr.heap.size, 0, none⟩, .int .i64 X), (⟨wr.heap.size, 1, none⟩, .int .i64 Y), (⟨g, D * 2, none⟩, .int .i64 S), (⟨g, D * 2 + 1, none⟩, .int .i64 T)] WB from ⟨HG.out.1, HG.out.2.1, e0, e1, Below.refl _ _⟩)
        have hj0 : (0 : Int) ≤ (D : Int) := by omega
        have hjn : (D : Int) < (D : Int) + 1 := by omega
        have hjd : decide ((D : Int) < 0) = false := decide_eq_false (by omega)
        have hjw : IntKind.i64.wrap ((D : Int) + 1 - 1) = (D : Int) := by rw [Int.add_sub_cancel]; exact IntWalk.i64_in _ (by omega)
        have hjw2 : IntKind.i64.wrap (D : Int) = (D : Int) := IntWalk.i64_in _ (by omega)
        clear hcell hg hd hrm hrr hpr hX hY hrX HG HL HE HO HP hLn hga hD hx hS hT hgl hfz hcs e0 e1
        go_wp2_with fail
        clear c0 c1 hWB
        cases x
        case true =>
          have HL2 := Lib.hid (HLP.out.trans (show dn ++ mergeC (some p) (r :: m.drop (k + 1)) = (dn ++ [p]) ++ mergeC (some r) (m.drop (k + 1)) by rw [mergeC_gap HX.out, List.append_assoc]; rfl))
          refine q_region (CellL WB [(⟨wr.heap.size, 0, none⟩, .int .i64 X), (⟨wr.heap.size, 1, none⟩, .int .i64 Y), (⟨g, D * 2, none⟩, .int .i64 S), (⟨g, D * 2 + 1, none⟩, .int .i64 T)]) (by kernel_rfl) (by kernel_rfl) (cellL_drew HC.out) ?_
          repeat (first
            | go_big_quiet_skip
            | (go_big_quiet_want; (first
              | (refine q_take (v := ?_) ?_ ?_; rotate_left; (focus (intro w hSw; (try simp only [CellL] at hSw); go_split_ands; go_simp; (try (rw [if_neg (by omega)])); (try with_reducible rfl); done)))
              | (refine q_call (CA.out _) ?_ ?_; (focus (intro w hSw; (try simp only [CellL] at hSw); go_split_ands; go_simp; (try (rw [if_neg (by omega)])); done)))); (try simp only [Act.put, List.setIfInBounds_toArray, List.set_cons_zero, List.set_cons_succ]); go_big_quiet_on))
          refine wpQuiet_nil ?_
          intro w2 hw2
          have HB2 := Lib.hid (HB1.out.trans ((cellL_size hw2).mono HB1.out.size))
          have HO2 := Lib.hid (HO1.out.below (cellL_size hw2))
          simp only [CellL] at hw2
          obtain ⟨g0, g1, -⟩ := hw2
          have HLE := Lib.hid (show (dn ++ [p]).length + [r].length ≤ 1000000 by rw [← HLN.out, List.length_singleton]; omega)
          go_wp2_with (at_builtin; refine wpList_app_k kRn rfl (.tmp 27) (.tmp 29) rfl w1.heap.size _ _ rfl (Kind.Own.alloc HO2.out _) _ (some ⟨w2.heap.size, 0, none⟩) 1 1 [r] rfl rfl (HRW w2).out HLE.out (by decide) (cle_alloc (HB2.out.size) _) ?_; intro v3 w3 hown3 hg3 hb3 _; have HO3 := Lib.hid hown3; have HB3 := Lib.hid ((HB2.out.alloc HB2.out.size _).trans hb3); clear hown3 hb3 hg3)
          go_roundw
          case rel => exact ⟨k + 1, dn ++ [p], some r, by omega, HL2, HO3.out, (fun h => by cases h), HN1.out, by have h1 := HLN.out; rw [List.length_append, ← h1]; have h2 := hol; rw [show (some p).toList = [p] from rfl, ← h1] at h2; show D + 1 + 1 ≤ k + 1; omega, by go_num, HB3.out⟩
          case measure => simp [intOf]; omega
        case false =>
          have HL2 := Lib.hid (HLP.out.trans (show dn ++ mergeC (some p) (r :: m.drop (k + 1)) = dn ++ mergeC (some ⟨p.fr, max T Y⟩) (m.drop (k + 1)) by rw [mergeC_more HX.out, moreC, HTT.out, HYY.out]))
          have HP2 := Lib.hid (show LastC (some ⟨p.fr, max T Y⟩) (m.drop (k + 1)) by have h := HP1.out.more HRR.out; rw [moreC, HTT.out, HYY.out] at h; exact h)
          refine q_region (CellL WB [(⟨wr.heap.size, 0, none⟩, .int .i64 X), (⟨wr.heap.size, 1, none⟩, .int .i64 Y), (⟨g, D * 2, none⟩, .int .i64 S), (⟨g, D * 2 + 1, none⟩, .int .i64 T)]) (by kernel_rfl) (by kernel_rfl) (cellL_drew HC.out) ?_
          repeat (first
            | go_big_quiet_skip
            | (go_big_quiet_want; (first
              | (refine q_take (v := ?_) ?_ ?_; rotate_left; (focus (intro w hSw; (try simp only [CellL] at hSw); go_split_ands; go_simp; (try (rw [if_neg (by omega)])); (try with_reducible rfl); done)))
              | (refine q_call (CA.out _) ?_ ?_; (focus (intro w hSw; (try simp only [CellL] at hSw); go_split_ands; go_simp; (try (rw [if_neg (by omega)])); done)))); (try simp only [Act.put, List.setIfInBounds_toArray, List.set_cons_zero, List.set_cons_succ]); go_big_quiet_on))
          refine wpQuiet_nil ?_
          intro w3 hw3
          have HB3 := Lib.hid (HB1.out.trans ((cellL_size hw3).mono HB1.out.size))
          have HO3 := Lib.hid (HO1.out.below (cellL_size hw3))
          simp only [CellL] at hw3
          obtain ⟨g0, g1, e0, e1, -⟩ := hw3
          obtain ⟨hg1, hgl, hfz, -⟩ := HO3.out.at_g HLN.out (by omega)
          obtain ⟨z, hz⟩ : ∃ z, max T Y = z := ⟨_, rfl⟩
          have hz2 : (if T < Y then Y else T) = z := by rw [← hz]; split <;> omega
          rw [hz] at HL2 HP2
          have HOF := Lib.hid (own_to HO3.out HLN.out HDD.out z)
          have HBF := Lib.hid (HB3.out.setCell (p := ⟨g, D * 2 + 1, none⟩) hg1 (.int .i64 z))
          go_wp2_with fail
          go_region
          go_wp2_with fail
          go_roundw
          case rel => exact ⟨k + 1, dn, some ⟨p.fr, z⟩, by omega, HL2, HOF.out, (fun h => by cases h), HP2.out, by have h2 := hol; simp at h2 ⊢; omega, by go_num, HBF.out.drew⟩
          case measure => simp [intOf]; omega
    · have HL2 := Lib.hid (HL.out.trans (show dn ++ mergeC o (m.drop k) = dn ++ o.toList by rw [List.drop_eq_nil_of_le (by have := HNM.out; omega)]; cases o <;> rfl))
      have HUO := Lib.hid (HUU.out.symm.trans (HM.out.symm.trans HL2.out))
      obtain ⟨A9, c9, rfl, -⟩ := HO.out.read_n (n := NU) (by rw [← HUO.out]; exact HNN.out.symm)
      go_wp2_with fail
      go_ret
      refine ⟨A9, c9, rfl, ?_, HB0.out.trans (hb.mono HB0.out.size)⟩
      rw [HUO.out]
      exact HO.out.mono HB0.out.size
end Go.Proofs.YtopjhebhdopjpaaGreat

namespace Go.Proofs.YtopjhebhdopjpaaGreat
open Go.RowKit

structure BegC (w w1 : World) (g1 : Nat) (W : World) (v : Value) (L : List Int) : Prop where
  s0 : W.cell? ⟨w.heap.size + 1, 0, none⟩ = some (.bool false)
  s1 : W.cell? ⟨w.heap.size + 1, 1, none⟩ = some v
  sf : ∀ j, W.frozen? ⟨w.heap.size + 1, j, none⟩ = false
  r0 : W.cell? ⟨w.heap.size, 0, none⟩ = some (.bool false)
  r1 : W.cell? ⟨w.heap.size, 1, none⟩ = some (.slice none 0 0)
  rf : ∀ j, W.frozen? ⟨w.heap.size, j, none⟩ = false
  own : kIt.Own W w1.heap.size v L
  same : ∀ j, W.cell? ⟨g1, j, none⟩ = w1.cell? ⟨g1, j, none⟩
  below : Below w.heap.size w W
  size : w1.heap.size ≤ W.heap.size
theorem BegC.alloc {w w1 W : World} {g1 : Nat} {v : Value} {L : List Int} (h : BegC w w1 g1 W v L) (h2 : w.heap.size + 2 ≤ w1.heap.size) (h3 : g1 < w1.heap.size) (x : Obj) : BegC w w1 g1 (W.alloc x) v L := by
  have hz := h.size
  obtain ⟨kc, kf⟩ := bcell (below_new W x)
  exact ⟨(kc _ _ (by omega)).trans h.s0, (kc _ _ (by omega)).trans h.s1, fun j => (kf _ _ (by omega)).trans (h.sf j), (kc _ _ (by omega)).trans h.r0, (kc _ _ (by omega)).trans h.r1, fun j => (kf _ _ (by omega)).trans (h.rf j), h.own.alloc x, fun j => (kc _ _ (by omega)).trans (h.same j), h.below.alloc h.below.size x, cle_alloc hz x⟩
theorem BegC.app {w w1 W W' : World} {g1 : Nat} {v v' : Value} {L L' : List Int} (h : BegC w w1 g1 W v L) (h2 : w.heap.size + 2 ≤ w1.heap.size) (h3 : g1 < w1.heap.size) (h4 : g1 ≠ w.heap.size + 1) (ho : kIt.Own W' w1.heap.size v' L') (hb : Below w1.heap.size W W') :
    BegC w w1 g1 (W'.setCell ⟨w.heap.size + 1, 1, none⟩ v') v' L' := by
  obtain ⟨kc, kf⟩ := bcell hb
  have fr : ∀ p, (W'.setCell ⟨w.heap.size + 1, 1, none⟩ v').frozen? p = W'.frozen? p := fun p => by rw [World.frozen?_setCell]
  refine ⟨set_other ((kc _ _ (by omega)).trans h.s0) (addr_off (by decide)) _, set_same ((kc _ _ (by omega)).trans h.s1) _, fun j => (fr _).trans ((kf _ _ (by omega)).trans (h.sf j)), set_other ((kc _ _ (by omega)).trans h.r0) (addr_block (by omega)) _, set_other ((kc _ _ (by omega)).trans h.r1) (addr_block (by omega)) _,
    fun j => (fr _).trans ((kf _ _ (by omega)).trans (h.rf j)), ho.other (grownBy_set _ _ _ _) (by omega), fun j => (World.cell?_setCell_other _ _ _ _ (addr_block (Ne.symm h4))).trans ((kc _ _ h3).trans (h.same j)), ?_, ?_⟩
  · exact (h.below.trans (hb.mono (by omega))).setCell (p := ⟨w.heap.size + 1, 1, none⟩) (Nat.le_succ _) _
  · have h5 := hb.size
    have h6 := h.size
    have : (W'.setCell ⟨w.heap.size + 1, 1, none⟩ v').heap.size = W'.heap.size := by simp
    omega
theorem two_new1 (w : World) (x : Obj) (X Y : Int) : RowAt ((w.alloc x).alloc (.cells #[.int .i64 X, .int .i64 Y] 3)) (w.heap.size + 1 + 1) (some ⟨w.heap.size + 1, 0, none⟩) (kIt.row [X, Y]) := by
  have := (Kind.rd_new (k := kIt) (w := w.alloc x) (cs := #[.int .i64 X, .int .i64 Y]) (l := [X, Y]) (t := 3) (n := 2) rfl rfl (by simp)).row
  rwa [size1] at this
theorem ofC_len (l : List Rn) : (ofC l).length ≤ 2 * l.length + 1 := by have := makeC_len 1 l []; rw [List.length_nil] at this; exact this
set_option maxHeartbeats 4000000 in
theorem cn_begin (A : Option Addr) (c n : Nat) (l : List Rn) (hn : n = l.length) (hnl : n ≤ 100000) (w : World) (hr : kRn.Rd w w.heap.size A c l) :
    Calls Tryz.prog 147 #[.slice A n c] w fun e w' => ∃ A' c', e = .returned (.agg #[.bool false, .slice A' (edgesI (ofC l)).length c']) ∧ kIt.Rd w' w'.heap.size A' c' (edgesI (ofC l)) ∧ Below w.heap.size w w' := by
  have hml := ofC_len l
  have HRT := Lib.hid (show ∀ r ∈ ofC l, oneC r = true from rightC_all (ofC_right l))
  obtain ⟨M, hM⟩ : ∃ M, ofC l = M := ⟨_, rfl⟩
  obtain ⟨N, hN⟩ : ∃ N, M.length = N := ⟨_, rfl⟩
  have C := fun W (h : Below w.heap.size w W) => Lib.hid (cn_of_own A c n l hn (by omega) M hM N hN W (hr.call h))
  have HB0 := Lib.hid (((Below.refl w.heap.size w).alloc (Nat.le_refl _) (.cells #[.bool false, .slice none 0 0] 176)).alloc (by simp) (.cells #[.bool false, .slice none 0 0] 176))
  rw [hM] at HRT hml ⊢
  have HN := Lib.hid hn
  clear hn hr hM
  go_enter Tryz.func147, Tryz.ntmps147
  go_wp2_with ((with_reducible refine (C _ HB0.out).out.mono ?_); rintro e w1 ⟨A1, c1, rfl, ho, hq⟩; have HO := Lib.hid ho; have HQ := Lib.hid hq; have HR := Lib.hid ho.rd; clear ho hq)
  have hN9 : N ≤ 200001 := by have := HN.out; omega
  have HNM := Lib.hid hN
  have hcx : N ≤ c1 := by rw [← hN]; exact HR.out.room
  have hz2 : w.heap.size + 2 ≤ w1.heap.size := by have := HQ.out.size; simp at this; omega
  have H0 : ∃ g1, g1 < w1.heap.size ∧ g1 ≠ w.heap.size + 1 ∧ (0 < N → A1 = some ⟨g1, 0, none⟩ ∧ ∀ k r, M[k]? = some r → w1.cell? ⟨g1, k * 2, none⟩ = some (.int .i64 r.fr) ∧ w1.cell? ⟨g1, k * 2 + 1, none⟩ = some (.int .i64 r.to)) := by
    by_cases hp : 0 < N
    · obtain ⟨g, cp, hv, -, h1, h2, -, h4⟩ := HO.out.some_ hN.symm hp
      injection hv with hA
      refine ⟨g, h2, ?_, fun _ => ⟨hA, fun k r hr => ⟨h4 k r hr 0 _ rfl, h4 k r hr 1 _ rfl⟩⟩⟩
      simp at h1; omega
    · exact ⟨w.heap.size, by omega, by omega, fun h => absurd h hp⟩
  obtain ⟨g1, hg1, hg2, H0⟩ := H0
  have H0 := Lib.hid H0
  have HS : Hid (BegC w w1 g1 w1 (.slice none 0 0) []) := by
    obtain ⟨kc, kf⟩ := bcell HQ.out
    have q0 := fun j => kc w.heap.size j (by simp; omega)
    have q1 := fun j => kc (w.heap.size + 1) j (by simp)
    have f0 := fun j => kf w.heap.size j (by simp; omega)
    have f1 := fun j => kf (w.heap.size + 1) j (by simp)
    have hh0 : ((w.alloc (.cells #[.bool false, .slice none 0 0] 176)).alloc (.cells #[.bool false, .slice none 0 0] 176)).heap[w.heap.size]? = some (.cells #[.bool false, .slice none 0 0] 176 (0, 0)) := heap_old _ (heap_new w _ _ rfl)
    have hh1 : ((w.alloc (.cells #[.bool false, .slice none 0 0] 176)).alloc (.cells #[.bool false, .slice none 0 0] 176)).heap[w.heap.size + 1]? = some (.cells #[.bool false, .slice none 0 0] 176 (0, 0)) := by
      have := heap_new (w.alloc (.cells #[.bool false, .slice none 0 0] 176)) (.cells #[.bool false, .slice none 0 0] 176) _ rfl
      rwa [size1] at this
    refine ⟨(q1 0).trans ?_, (q1 1).trans ?_, fun j => (f1 j).trans ?_, (q0 0).trans ?_, (q0 1).trans ?_, fun j => (f0 j).trans ?_, Kind.Own.nil _ _, fun _ => rfl, HB0.out.trans (HQ.out.mono (by simp; omega)), Nat.le_refl _⟩
    · rw [cell_of_row _ _ _ _ _ _ hh1]; rfl
    · rw [cell_of_row _ _ _ _ _ _ hh1]; rfl
    · unfold World.frozen?; rw [hh1]; simp
    · rw [cell_of_row _ _ _ _ _ _ hh0]; rfl
    · rw [cell_of_row _ _ _ _ _ _ hh0]; rfl
    · unfold World.frozen?; rw [hh0]; simp
  clear hN hml C HB0 HQ HO HR
  go_loopw [9] (fun i wr => ∃ (k : Nat) (v : Value), k ≤ N ∧ Hid (BegC w w1 g1 wr v (edgesI (M.take k))) ∧ i = .int .i64 k) (fun i _ => N - (intOf i).toNat)
  case atStart => exact ⟨0, _, by omega, HS, rfl⟩
  case round =>
    obtain ⟨k, v, hk, HB, rfl⟩ := hrel
    by_cases hlt : k < N
    · obtain ⟨r, hg, hd, hrm⟩ := cnt_get (l := M) (k := k) (by have := HNM.out; omega)
      obtain ⟨rfl, hcell⟩ := H0.out (by omega)
      obtain ⟨c0, c1⟩ := hcell k r hg
      rw [← HB.out.same] at c0 c1
      have HX := Lib.hid (edgesI_next hg)
      have hr3 := oneC_iff.1 (HRT.out r hrm)
      have HLE := Lib.hid (show (edgesI (M.take k)).length + [r.fr, r.to + 1].length ≤ 1000000 by have := edgesI_len (M.take k); rw [List.length_take] at this; simp only [List.length_cons, List.length_nil]; omega)
      obtain ⟨X, hX⟩ : ∃ X, r.fr = X := ⟨_, rfl⟩
      obtain ⟨Y, hY⟩ : ∃ Y, r.to = Y := ⟨_, rfl⟩
      rw [hX, hY] at HX HLE hr3
      rw [hX] at c0
      rw [hY] at c1
      have hw : IntKind.i64.wrap (Y + 1) = Y + 1 := IntWalk.i64_in _ (by omega)
      obtain ⟨Z, hZ⟩ : ∃ Z, Y + 1 = Z := ⟨_, rfl⟩
      rw [hZ] at HX HLE hw
      have hw2 : IntKind.i64.wrap (Y + 1) = Z := by rw [hZ]; exact hw
      have HG := Lib.hid (rnAt_new wr X Y 105)
      have HB1 := Lib.hid (HB.out.alloc hz2 hg1 (.cells #[.int .i64 X, .int .i64 Y] 105))
      have HR1 := Lib.hid (two_new1 wr (.cells #[.int .i64 X, .int .i64 Y] 105) X Z)
      obtain ⟨N1, hN1⟩ : ∃ N1, (edgesI (M.take k) ++ [X, Z]).length = N1 := ⟨_, rfl⟩
      have HN1 := Lib.hid hN1.symm
      clear hN1
      have hl3 : w.heap.size + 1 < w1.heap.size := by omega
      have HSZ := Lib.hid HB1.out.size
      obtain ⟨s0, s1, sf, -, -, -, -, -, -, -⟩ := HB1.out
      obtain ⟨g0, g1', g2⟩ := HG.out
      clear hcell hg hd hX hY HB hrm hr3 hZ hw
      have HLL := Lib.hid hl3
      clear hl3
      go_wp2_with (at_builtin; refine wpList_app_k kIt rfl (.tmp 14) (.tmp 20) rfl w1.heap.size _ _ rfl (Kind.Own.alloc HB1.out.own _) _ (some ⟨wr.heap.size + 1, 0, none⟩) 2 2 [X, Z] rfl rfl HR1.out HLE.out (by decide) (cle_alloc HSZ.out _) ?_; intro v3 w3 hown3 hg3 hb3 _; obtain ⟨A3, c3, rfl, -⟩ := hown3.read_n HN1.out; have HQ3 := Lib.hid (HB1.out.alloc hz2 hg1 (.cells #[.int .i64 X, .int .i64 Z] 3)); have HB2 := Lib.hid (HQ3.out.app hz2 hg1 hg2 hown3 hb3); replace s1 := ((bcell hb3).1 _ _ HLL.out).trans HQ3.out.s1; have sf3 := fun j => ((bcell hb3).2 _ j HLL.out).trans (HQ3.out.sf j); clear hown3 hg3 hb3)
      go_roundw
      case rel => exact ⟨k + 1, _, by omega, by rw [HX.out]; exact HB2.out, by go_num⟩
      case measure => simp [intOf]; omega
    · have hkn : M.take k = M := List.take_of_length_le (by have := HNM.out; omega)
      rw [hkn] at HB
      obtain ⟨s0, s1, sf, r0, r1, rf, -, -, -, -⟩ := HB.out
      obtain ⟨A5, c5, rfl, hrd⟩ := HB.out.own.form
      have HRD := Lib.hid hrd
      clear hkn hrd
      go_wp2_with fail
      have HBF := Lib.hid ((HB.out.below.setCell (p := ⟨w.heap.size, 0, none⟩) (Nat.le_refl _) (.bool false)).setCell (p := ⟨w.heap.size, 1, none⟩) (Nat.le_refl _) (.slice A5 (edgesI M).length c5))
      have HOF := Lib.hid ((HB.out.own.other (grownBy_set wr w.heap.size 0 (.bool false)) (by omega)).other (grownBy_set _ w.heap.size 1 (.slice A5 (edgesI M).length c5)) (by omega)).rd
      have hc1 : ((wr.setCell ⟨w.heap.size, 0, none⟩ (.bool false)).setCell ⟨w.heap.size, 1, none⟩ (.slice A5 (edgesI M).length c5)).cell? ⟨w.heap.size, 1, none⟩ = some (.slice A5 (edgesI M).length c5) := set_same (set_other r1 (addr_off (by decide)) _) _
      have hc0 : ((wr.setCell ⟨w.heap.size, 0, none⟩ (.bool false)).setCell ⟨w.heap.size, 1, none⟩ (.slice A5 (edgesI M).length c5)).cell? ⟨w.heap.size, 0, none⟩ = some (.bool false) := set_other (set_same r0 _) (addr_off (by decide)) _
      exact bodyPost_ret (v := .agg #[.bool false, .slice A5 (edgesI M).length c5]) (by simp [results, Tryz.results147, go_sem, hc0, hc1]) rfl ⟨A5, c5, rfl, HOF.out, HBF.out⟩
end Go.Proofs.YtopjhebhdopjpaaGreat

namespace Go.Proofs.YtopjhebhdopjpaaGreat
open Go.RowKit

def passN (x : Int) (A : Option Addr) (n c : Nat) : List Int → Value
  | [] => .slice A n c
  | y :: _ => match decide (y = x) with | true => .slice (cutA A 1 c) (n - 1) (c - 1) | false => .slice A n c
theorem passN_same {x : Int} {A : Option Addr} {n c : Nat} {l : List Int} : passN x A n c (x :: l) = .slice (cutA A 1 c) (n - 1) (c - 1) := by rw [passN, decide_eq_true rfl]
theorem passN_other {x y : Int} {A : Option Addr} {n c : Nat} {l : List Int} (h : y ≠ x) : passN x A n c (y :: l) = .slice A n c := by rw [passN, decide_eq_false h]
def SliceI (w : World) (v : Value) (l : List Int) : Prop := ∃ A c, v = .slice A l.length c ∧ kIt.Rd w w.heap.size A c l
theorem passN_reads {x : Int} {A : Option Addr} {c : Nat} {l : List Int} {w : World} (hr : kIt.Rd w w.heap.size A c l) : SliceI w (passN x A l.length c l) (dropI x l) := by
  cases l with
  | nil => exact ⟨A, c, rfl, hr⟩
  | cons y l =>
    by_cases hy : y = x
    · subst hy
      rw [passN_same, dropI_same]
      refine ⟨_, _, rfl, ?_, by have := hr.room; simp only [List.length_cons] at this; omega, by have := hr.cap; omega⟩
      have h1 := RowAt.cut hr.row (k := 1) (c := c) (by rw [its_len]; simp) (by rw [its_len]; exact hr.room)
      rwa [← its_drop, List.drop_one, List.tail_cons] at h1
    · rw [passN_other hy, dropI_other hy]
      exact ⟨_, _, rfl, hr⟩
set_option maxHeartbeats 1000000 in
theorem cn_pass (A : Option Addr) (c n : Nat) (l : List Int) (x : Int) (v : Bool) (hn : n = l.length) (v' : Bool) (hv : passI x v l = v') (s' : Value) (hs : passN x A n c l = s') (w : World) (hr : kIt.Rd w w.heap.size A c l) :
    Calls Tryz.prog 149 #[.agg #[.bool v, .slice A n c], .int .i64 x] w fun e w' => e = .returned (.agg #[.bool v', s']) ∧ Below w.heap.size w w' := by
  have HB := Lib.hid (((Below.refl w.heap.size w).alloc (Nat.le_refl _) (.cells #[.bool v', s'] 176)).alloc (by simp) (.cells #[.bool v', s'] 176))
  cases l with
  | nil =>
    obtain rfl : n = 0 := hn
    obtain rfl : v' = v := hv.symm
    obtain rfl : s' = .slice A 0 c := hs.symm
    clear hr hv hs
    go_enter Tryz.func149, Tryz.ntmps149
    go_wp2_with fail
    exact bodyPost_ret (v := .agg #[.bool v', .slice A 0 c]) (by simp [results, Tryz.results149, go_sem]) rfl ⟨rfl, HB.out⟩
  | cons y l =>
    obtain ⟨b, o, rfl, hb1, hcell⟩ := its_at hr (by simp)
    have c0 := hcell 0 y rfl
    rw [Nat.add_zero] at c0
    have hn0 : 0 < n := by rw [hn]; simp
    have hnc : n ≤ c := by rw [hn]; exact hr.room
    have hnd : decide ((0 : Int) < (n : Int)) = true := decide_eq_true (by omega)
    by_cases hy : y = x
    · have hE : (y == x) = true := by rw [hy]; simp
      have K : ∀ w : World, (Instr.slice 99 (.slice (some ⟨b, o, none⟩) n c) (some (.int .i64 1)) none none).run Tryz.prog w = .ok (.slice (cutA (some ⟨b, o, none⟩) 1 c) (n - 1) (c - 1)) w := fun w => run_cut (T := 99) (E := 3) Tryz.underlying99 int_sizeOf w (some ⟨b, o, none⟩) n c 1 (by omega)
      obtain rfl : v' = !v := by rw [← hv, hy, passI_same]
      obtain ⟨q, hq⟩ : ∃ q, cutA (some ⟨b, o, none⟩) 1 c = q := ⟨_, rfl⟩
      obtain ⟨n1, hn1⟩ : ∃ n1, n - 1 = n1 := ⟨_, rfl⟩
      obtain ⟨c1, hc1⟩ : ∃ c1, c - 1 = c1 := ⟨_, rfl⟩
      rw [hq, hn1, hc1] at K
      obtain rfl : s' = .slice q n1 c1 := by rw [← hs, ← hq, ← hn1, ← hc1, hy, passN_same]
      clear hcell hv hs hn hq hn1 hc1 hy hr
      go_enter Tryz.func149, Tryz.ntmps149
      go_wp2_with fail
      go_region
      go_wp2_with fail
      exact bodyPost_ret (v := .agg #[.bool (!v), .slice q n1 c1]) (by simp [results, Tryz.results149, go_sem]) rfl ⟨rfl, HB.out.drew⟩
    · have hE : (y == x) = false := beq_eq_false_iff_ne.2 hy
      obtain rfl : v' = v := by rw [← hv, passI_other hy]
      obtain rfl : s' = .slice (some ⟨b, o, none⟩) n c := by rw [← hs, passN_other hy]
      clear hcell hv hs hn hr
      go_enter Tryz.func149, Tryz.ntmps149
      go_wp2_with fail
      exact bodyPost_ret (v := .agg #[.bool v', .slice (some ⟨b, o, none⟩) n c]) (by simp [results, Tryz.results149, go_sem]) rfl ⟨rfl, HB.out⟩
def curI : Option Int → Int
  | none => 0
  | some e => e
set_option maxHeartbeats 1000000 in
theorem cn_nearest (A B : Option Addr) (c d n m : Nat) (a b : List Int) (x y : Bool) (hn : n = a.length) (hm : m = b.length) (z : Int) (hz : curI (nearI a b) = z) (v : Bool) (hv : (nearI a b).isSome = v) (w : World) (ha : kIt.Rd w w.heap.size A c a) (hb : kIt.Rd w w.heap.size B d b) :
    Calls Tryz.prog 148 #[.agg #[.bool x, .slice A n c], .agg #[.bool y, .slice B m d]] w fun e w' => e = .returned (.tuple #[.int .i64 z, .bool v]) ∧ Below w.heap.size w w' := by
  have HB := Lib.hid (((Below.refl w.heap.size w).alloc (Nat.le_refl _) (.cells #[.bool x, .slice A n c] 176)).alloc (by simp) (.cells #[.bool y, .slice B m d] 176))
  have hna : n ≤ c := by rw [hn]; exact ha.room
  have hmb : m ≤ d := by rw [hm]; exact hb.room
  cases a with
  | nil =>
    obtain rfl : n = 0 := hn
    cases b with
    | nil =>
      obtain rfl : m = 0 := hm
      obtain rfl : v = false := hv.symm
      obtain rfl : z = 0 := hz.symm
      clear ha hb hv hz
      go_enter Tryz.func148, Tryz.ntmps148
      go_wp2_with fail
      go_ret2
      exact ⟨rfl, HB.out⟩
    | cons t b =>
      obtain ⟨b1, o1, rfl, hb1, hcell⟩ := its_at hb (by simp)
      have c0 := hcell 0 t rfl
      rw [Nat.add_zero] at c0
      have hm0 : 0 < m := by rw [hm]; simp
      have hmd : ((m : Int) == 0) = false := beq_eq_false_iff_ne.2 (by omega)
      obtain rfl : v = true := hv.symm
      obtain rfl : z = t := hz.symm
      clear ha hb hv hcell hm hz
      go_enter Tryz.func148, Tryz.ntmps148
      go_wp2_with fail
      go_ret2
      exact ⟨rfl, HB.out⟩
  | cons s a =>
    obtain ⟨b2, o2, rfl, hb2, hcell2⟩ := its_at ha (by simp)
    have e0 := hcell2 0 s rfl
    rw [Nat.add_zero] at e0
    have hn0 : 0 < n := by rw [hn]; simp
    have hnd : ((n : Int) == 0) = false := beq_eq_false_iff_ne.2 (by omega)
    cases b with
    | nil =>
      obtain rfl : m = 0 := hm
      obtain rfl : v = true := hv.symm
      obtain rfl : z = s := hz.symm
      clear ha hb hv hcell2 hn hz
      go_enter Tryz.func148, Tryz.ntmps148
      go_wp2_with fail
      go_ret2
      exact ⟨rfl, HB.out⟩
    | cons t b =>
      obtain ⟨b1, o1, rfl, hb1, hcell⟩ := its_at hb (by simp)
      have c0 := hcell 0 t rfl
      rw [Nat.add_zero] at c0
      have hm0 : 0 < m := by rw [hm]; simp
      have hmd : ((m : Int) == 0) = false := beq_eq_false_iff_ne.2 (by omega)
      obtain rfl : v = true := hv.symm
      have hz1 : min s t = z := hz
      have hz2 : (if t < s then t else s) = z := by rw [← hz1]; split <;> omega
      have hz3 : (if s < t then s else t) = z := by rw [← hz1]; split <;> omega
      clear ha hb hv hz hcell hcell2 hn hm
      go_enter Tryz.func148, Tryz.ntmps148
      go_wp2_with fail
      go_region
      go_wp2_with fail
      go_ret2
      exact ⟨rfl, HB.out.drew⟩
end Go.Proofs.YtopjhebhdopjpaaGreat

namespace Go.Proofs.YtopjhebhdopjpaaGreat
open Go.RowKit

theorem cn_begin_is (A : Option Addr) (c n : Nat) (l : List Rn) (hn : n = l.length) (hnl : n ≤ 100000) (w0 : World) (hr : kRn.Rd w0 w0.heap.size A c l) (E : List Int) (hE : edgesI (ofC l) = E) (N : Nat) (hN : E.length = N) (w : World) (hb : Below w0.heap.size w0 w) :
    Calls Tryz.prog 147 #[.slice A n c] w fun e w' => ∃ A' c', e = .returned (.agg #[.bool false, .slice A' N c']) ∧ kIt.Rd w' w'.heap.size A' c' E ∧ Below w.heap.size w w' := by
  subst hE hN
  exact cn_begin A c n l hn hnl w (hr.call hb)
theorem cn_pass_is (A : Option Addr) (c n : Nat) (l : List Int) (x : Int) (v : Bool) (w0 : World) (hn : l.length = n) (hr : kIt.Rd w0 w0.heap.size A c l) (v' : Bool) (hv : passI x v l = v') (l' : List Int) (hl : dropI x l = l') :
    ∃ A' n' c', l'.length = n' ∧ kIt.Rd w0 w0.heap.size A' c' l' ∧ ∀ w, Below w0.heap.size w0 w → Hid (Calls Tryz.prog 149 #[.agg #[.bool v, .slice A n c], .int .i64 x] w fun e w' => e = .returned (.agg #[.bool v', .slice A' n' c']) ∧ Below w.heap.size w w') := by
  subst hn hl
  obtain ⟨A', c', h1, h2⟩ := passN_reads (x := x) hr
  exact ⟨A', _, c', rfl, h2, fun w hb => cn_pass A c l.length l x v rfl v' hv _ h1 w (hr.call hb)⟩
def pendC : Option Int → List Rn
  | none => []
  | some lo => [⟨lo, 0⟩]
set_option maxRecDepth 100000 in
set_option maxHeartbeats 8000000 in
theorem cn_sweep (g : FuncId) (kf : Bool → Bool → Bool) (K : ∀ x y w, Calls Tryz.prog g #[.bool x, .bool y] w fun e w' => e = .returned (.bool (kf x y)) ∧ w = w') (eg : ∀ args w, (callFunc g args).run Tryz.prog w = .ok (.enter g args) w)
    (op : Int) (hk0 : kf false false = false) (A B : Option Addr) (c d n m : Nat) (a b : List Rn) (hk : ∀ s, kf (hasC a s) (hasC b s) = isC op a b s) (hn : n = a.length) (hm : m = b.length) (hnl : n ≤ 100000) (hml : m ≤ 100000) (U : List Rn) (hU : makeC op a b = U) (NU : Nat) (hNU : U.length = NU) (w : World) (ha : kRn.Rd w w.heap.size A c a) (hb : kRn.Rd w w.heap.size B d b) :
    Calls Tryz.prog 122 #[.slice A n c, .slice B m d, .func (.func g) #[] #[]] w (RetOC w NU U) := by
  obtain ⟨ea, hea⟩ : ∃ ea, edgesI (ofC a) = ea := ⟨_, rfl⟩
  obtain ⟨eb, heb⟩ : ∃ eb, edgesI (ofC b) = eb := ⟨_, rfl⟩
  obtain ⟨N, hN⟩ : ∃ N, ea.length = N := ⟨_, rfl⟩
  obtain ⟨M, hM⟩ : ∃ M, eb.length = M := ⟨_, rfl⟩
  have hN9 : N ≤ 400002 := by rw [← hN, ← hea, edgesI_len]; have := ofC_len a; omega
  have hM9 : M ≤ 400002 := by rw [← hM, ← heb, edgesI_len]; have := ofC_len b; omega
  have C1 := fun W h => Lib.hid (cn_begin_is A c n a hn hnl w ha ea hea N hN W h)
  have C2 := fun W h => Lib.hid (cn_begin_is B d m b hm hml w hb eb heb M hM W h)
  have HS := Lib.hid (SwC.start (kf := kf) hk0 a b)
  have HN := Lib.hid hN
  have HM := Lib.hid hM
  have HK0 := Lib.hid hk0
  have HK := Lib.hid hk
  rw [hea, heb] at HS
  have HUU := Lib.hid hU
  have HNN := Lib.hid hNU
  have hb0 := Lib.hid (Below.refl w.heap.size w)
  clear hn hm ha hb hea heb hN hM hnl hml hk hU hNU hk0
  go_enter Tryz.func122, Tryz.ntmps122
  obtain ⟨z0, hz0⟩ : ∃ z0, curI (nearI ea eb) = z0 := ⟨_, rfl⟩
  obtain ⟨v0, hv0⟩ : ∃ v0, (nearI ea eb).isSome = v0 := ⟨_, rfl⟩
  go_wp2_with (first
    | ((with_reducible refine (C1 _ hb0.out).out.mono ?_); rintro e w1 ⟨A1, c1, rfl, hrd, hq⟩; have H1 := Lib.hid hrd; replace hb0 := Lib.hid hq; clear hrd hq)
    | ((with_reducible refine (C2 _ hb0.out).out.mono ?_); rintro e w2 ⟨A2, c2, rfl, hrd, hq⟩; have H2 := Lib.hid hrd; have H1 := Lib.hid (H1.out.call hq); have hb1 := Lib.hid (hb0.out.trans (hq.mono hb0.out.size)); have H7 := Lib.hid ((sdAt_new w2 false (.slice A1 N c1) 176).below (below_new _ (.cells #[.bool false, .slice A2 M c2] 176))); have H8 := Lib.hid (sdAt_new1 w2 (.cells #[.bool false, .slice A1 N c1] 176) false (.slice A2 M c2) 176); have HBW := Lib.hid ((below_new w2 (.cells #[.bool false, .slice A1 N c1] 176)).alloc (by simp) (.cells #[.bool false, .slice A2 M c2] 176)); clear hrd hq)
    | ((with_reducible refine (Lib.hid (cn_nearest A1 A2 c1 c2 N M ea eb false false HN.out.symm HM.out.symm z0 hz0 v0 hv0 _ (H1.out.call HBW.out) (H2.out.call HBW.out))).out.mono ?_); rintro e w3 ⟨rfl, hq⟩; replace H7 := Lib.hid (H7.out.below hq); replace H8 := Lib.hid (H8.out.below hq); replace HBW := Lib.hid (HBW.out.trans (hq.mono HBW.out.size)); clear hq))
  clear C1 C2 hb0
  go_loopg [9, 10, 11, 12] (N + M) (fun gg s9 s10 s11 s12 wr => ∃ (cc : Int) (x y : Bool) (fa fb : List Int) (A7 A8 : Option Addr) (n7 c7 n8 c8 : Nat) (dn : List Rn) (o : Option Int),
    Hid (SwC kf a b cc x fa y fb dn o) ∧ Hid (kRn.Own wr (w2.heap.size + 2) s9 (dn ++ pendC o)) ∧ s10 = .bool o.isSome ∧ s11 = .int .i64 (curI (nearI fa fb)) ∧ s12 = .bool (nearI fa fb).isSome ∧
    Hid (SdAt wr w2.heap.size x (.slice A7 n7 c7)) ∧ Hid (SdAt wr (w2.heap.size + 1) y (.slice A8 n8 c8)) ∧ Hid (fa.length = n7 ∧ kIt.Rd w2 w2.heap.size A7 c7 fa) ∧ Hid (fb.length = n8 ∧ kIt.Rd w2 w2.heap.size A8 c8 fb) ∧ Hid (Below w2.heap.size w2 wr) ∧ (dn ++ pendC o).length + (n7 + n8) ≤ N + M ∧ n7 + n8 ≤ gg)
  case atStart => exact ⟨0, false, false, ea, eb, A1, A2, N, c1, M, c2, [], none, HS.out, Kind.Own.nil _ _, rfl, by rw [hz0], by rw [hv0], H7, H8, ⟨HN.out, H1.out⟩, ⟨HM.out, H2.out⟩, HBW, by simp [pendC], Nat.le_refl _⟩
  case round =>
    clear H7 H8 HBW hz0 hv0
    obtain ⟨cc, x, y, fa, fb, A7, A8, n7, c7, n8, c8, dn, o, HOK, HO, rfl, rfl, rfl, H7, H8, HR7, HR8, HBW, hlen, hgg⟩ := hrel
    obtain ⟨n9, hn9⟩ : ∃ n9, (dn ++ pendC o).length = n9 := ⟨_, rfl⟩
    obtain ⟨A9, c9, rfl, -⟩ := HO.out.read_n hn9.symm
    have HN9 := Lib.hid hn9
    rw [hn9] at hlen
    clear hn9
    cases hcur : nearI fa fb with
    | none =>
      obtain ⟨rfl, hdn⟩ := HOK.out.fin HK0.out hcur op HK.out
      have HD := Lib.hid hdn
      clear hcur hdn
      go_wp2_with fail
      go_ret
      have e1 : dn ++ pendC none = U := by rw [pendC, List.append_nil, HD.out, HUU.out]
      obtain rfl : n9 = NU := by rw [← HN9.out, e1, HNN.out]
      have ho := HO.out
      rw [e1] at ho
      exact ⟨A9, c9, rfl, ho.mono (by have := hb1.out.size; omega), hb1.out.trans (HBW.out.mono hb1.out.size)⟩
    | some e =>
      obtain ⟨hok, hwt, he1, he2⟩ := HOK.out.step hcur
      obtain ⟨x', hx'⟩ : ∃ x', passI e x fa = x' := ⟨_, rfl⟩
      obtain ⟨y', hy'⟩ : ∃ y', passI e y fb = y' := ⟨_, rfl⟩
      obtain ⟨ga, hga⟩ : ∃ ga, dropI e fa = ga := ⟨_, rfl⟩
      obtain ⟨gb, hgb⟩ : ∃ gb, dropI e fb = gb := ⟨_, rfl⟩
      obtain ⟨A3, n3, c3, hn3, hr3, P1⟩ := cn_pass_is A7 c7 n7 fa e x w2 HR7.out.1 HR7.out.2 x' hx' ga hga
      obtain ⟨A4, n4, c4, hn4, hr4, P2⟩ := cn_pass_is A8 c8 n8 fb e y w2 HR8.out.1 HR8.out.2 y' hy' gb hgb
      rw [hx', hy', hga, hgb] at hok
      rw [hga, hgb, hn3, hn4, HR7.out.1, HR8.out.1] at hwt
      have HR3 := Lib.hid (And.intro hn3 hr3)
      have HR4 := Lib.hid (And.intro hn4 hr4)
      have HOK2 := Lib.hid hok
      have hew : IntKind.i64.wrap (e - 1) = e - 1 := IntWalk.i64_in _ (by omega)
      clear hn3 hr3 hn4 hr4 hok hx' hy' hga hgb HR7 HR8 HOK hcur
      have hcu : curI (some e) = e := rfl
      rw [hcu]
      go_upto_region 7 with fail
      go_cut [] from 23 to 59 (fun wx => Hid (kRn.Own wx (w2.heap.size + 2) (.slice A9 n9 c9) (dn ++ pendC o)) ∧ Hid (SdAt wx w2.heap.size x' (.slice A3 n3 c3)) ∧ Hid (SdAt wx (w2.heap.size + 1) y' (.slice A4 n4 c4)) ∧ Hid (Below w2.heap.size w2 wx))
      case first =>
        obtain ⟨a0, a1, a3⟩ := H7.out
        obtain ⟨b0, b1, b3⟩ := H8.out
        have P1 := fun w h => (P1 w h)
        clear HS HK HK0 HUU HNN HOK2 HR3 HR4 HN HM H1 H2 HN9
        go_region_with (first
          | ((with_reducible refine (P1 _ (by first | exact HBW.out | exact HBW.out.drew)).out.mono ?_); rintro e w3 ⟨rfl, hq⟩; (try replace hq := below_of_drew hq); clear a0 a1 a3 b0 b1 b3; replace H7 := Lib.hid (H7.out.below hq); replace H8 := Lib.hid (H8.out.below hq); replace HO := Lib.hid (HO.out.below hq); replace HBW := Lib.hid (HBW.out.trans (hq.mono HBW.out.size)); obtain ⟨a0, a1, a3⟩ := H7.out; obtain ⟨b0, b1, b3⟩ := H8.out; clear hq)
          | ((with_reducible refine (P2 _ (by first | exact HBW.out | exact HBW.out.drew)).out.mono ?_); rintro e w4 ⟨rfl, hq⟩; (try replace hq := below_of_drew hq); clear a0 a1 a3 b0 b1 b3; replace H7 := Lib.hid (H7.out.below hq); replace H8 := Lib.hid (H8.out.below hq); replace HO := Lib.hid (HO.out.below hq); replace HBW := Lib.hid (HBW.out.trans (hq.mono HBW.out.size)); obtain ⟨a0, a1, a3⟩ := H7.out; obtain ⟨b0, b1, b3⟩ := H8.out; clear hq))
        all_goals
          go_wp2_with fail
          go_meet
          exact ⟨Lib.hid ((((HO.out.other (grownBy_set _ _ _ _) (by omega)).other (grownBy_set _ _ _ _) (by omega)).other (grownBy_set _ _ _ _) (by omega)).other (grownBy_set _ _ _ _) (by omega)), Lib.hid ((H7.out.set.other (by omega)).other (by omega)), Lib.hid ((H8.out.other (by omega)).other (by omega)).set,
            Lib.hid ((((HBW.out.setCell (p := ⟨w2.heap.size, 0, none⟩) (Nat.le_refl _) _).setCell (p := ⟨w2.heap.size, 1, none⟩) (Nat.le_refl _) _).setCell (p := ⟨w2.heap.size + 1, 0, none⟩) (Nat.le_succ _) _).setCell (p := ⟨w2.heap.size + 1, 1, none⟩) (Nat.le_succ _) _)⟩
      case rest =>
        clear HO H7 H8 HBW P1 P2
        obtain ⟨HO, H7, H8, HBW⟩ := hcut
        obtain ⟨a0, a1, a3⟩ := H7.out
        obtain ⟨b0, b1, b3⟩ := H8.out
        obtain ⟨v, hv⟩ : ∃ v, kf x' y' = v := ⟨_, rfl⟩
        have KC := fun w => Lib.hid (K x' y' w)
        rw [hv] at KC HOK2
        obtain ⟨U2, hU2⟩ : ∃ U2, curI (nearI ga gb) = U2 := ⟨_, rfl⟩
        obtain ⟨v2, hv2⟩ : ∃ v2, (nearI ga gb).isSome = v2 := ⟨_, rfl⟩
        have NE := fun w (h : Below w2.heap.size w2 w) => Lib.hid (cn_nearest A3 A4 c3 c4 n3 n4 ga gb x' y' HR3.out.1.symm HR4.out.1.symm U2 hU2 v2 hv2 w (HR3.out.2.call h) (HR4.out.2.call h))
        have HU2 := Lib.hid hU2
        have HV2 := Lib.hid hv2
        clear hv hU2 hv2 hcu
        cases o with
        | none =>
          cases v
          · go_wp2_with (first
              | ((with_reducible refine (KC _).out.mono ?_); rintro e5 w5 ⟨rfl, rfl⟩)
              | ((with_reducible refine (NE _ HBW.out).out.mono ?_); rintro e6 w6 ⟨rfl, hq⟩; have HO6 := Lib.hid (HO.out.below hq); have H76 := Lib.hid (H7.out.below hq); have H86 := Lib.hid (H8.out.below hq); have HB6 := Lib.hid (HBW.out.trans (hq.mono HBW.out.size)); clear hq))
            go_roundg (n3 + n4)
            case measure => omega
            case rel => exact ⟨e, x', y', ga, gb, A3, A4, n3, c3, n4, c4, dn, none, HOK2, HO6, rfl, by rw [HU2.out], by rw [HV2.out], H76, H86, HR3, HR4, HB6, by rw [HN9.out]; omega, Nat.le_refl _⟩
          · have HRW := fun w : World => Lib.hid (rn_row w e 0)
            have HLE := Lib.hid (show (dn ++ pendC none).length + [(⟨e, 0⟩ : Rn)].length ≤ 1000000 by rw [HN9.out, List.length_singleton]; omega)
            go_wp2_with (first
              | ((with_reducible refine (KC _).out.mono ?_); rintro e5 w5 ⟨rfl, rfl⟩)
              | (at_builtin; refine wpList_app_k kRn rfl (.tmp 47) (.tmp 50) rfl (w2.heap.size + 2) _ _ rfl (Kind.Own.alloc HO.out _) _ (some ⟨wc.heap.size, 0, none⟩) 1 1 [⟨e, 0⟩] rfl rfl (HRW wc).out HLE.out (by decide) (cle_alloc (H8.out.lt) _) ?_; intro v3 w3 hown3 hg3 hb3 _; have HO3 := Lib.hid hown3; have HB3 := Lib.hid ((HBW.out.alloc HBW.out.size _).trans (hb3.mono (by omega))); have H73 := Lib.hid (SdAt.low H7.out (w' := w3) hb3 (by omega)); have H83 := Lib.hid (SdAt.low H8.out (w' := w3) hb3 (by omega)); clear a0 a1 a3 b0 b1 b3; obtain ⟨a0, a1, a3⟩ := H73.out; obtain ⟨b0, b1, b3⟩ := H83.out; clear hown3 hg3 hb3)
              | ((with_reducible refine (NE _ HB3.out).out.mono ?_); rintro e6 w6 ⟨rfl, hq⟩; have HO6 := Lib.hid (HO3.out.below hq); have H76 := Lib.hid (H73.out.below hq); have H86 := Lib.hid (H83.out.below hq); have HB6 := Lib.hid (HB3.out.trans (hq.mono HB3.out.size)); clear hq))
            go_roundg (n3 + n4)
            case measure => omega
            case rel => exact ⟨e, x', y', ga, gb, A3, A4, n3, c3, n4, c4, dn, some e, HOK2, by have h := HO6.out; rw [pendC, List.append_nil] at h; exact h, rfl, by rw [HU2.out], by rw [HV2.out], H76, H86, HR3, HR4, HB6, by have h1 := HN9.out; simp [pendC] at h1 ⊢; omega, Nat.le_refl _⟩
        | some lo =>
          cases v
          · obtain ⟨D, hD⟩ : ∃ D, dn.length = D := ⟨_, rfl⟩
            obtain rfl : n9 = D + 1 := by rw [← HN9.out, List.length_append, hD]; rfl
            have hga : (dn ++ pendC (some lo))[D]? = some ⟨lo, 0⟩ := by rw [← hD, List.getElem?_append_right (Nat.le_refl _), Nat.sub_self]; rfl
            obtain ⟨g5, cp5, hv5, hcp, hgb, -, -, -⟩ := HO.out.some_ HN9.out.symm (by omega)
            injection hv5 with hA9 _ hc9
            subst hA9 hc9
            obtain ⟨hg1, hg2, hfz, hcs⟩ := HO.out.at_g HN9.out.symm (by omega)
            have e1 := hcs D _ hga 1 _ rfl
            change wc.cell? ⟨g5, D * 2 + 1, none⟩ = _ at e1
            have hD8 : D ≤ 1000000 := by omega
            have HOF := Lib.hid (own_to HO.out HN9.out.symm hD (e - 1))
            have HBF := Lib.hid (HBW.out.setCell (p := ⟨g5, D * 2 + 1, none⟩) (by show w2.heap.size ≤ g5; omega) (.int .i64 (e - 1)))
            have H7F := Lib.hid (H7.out.other (g' := g5) (k := D * 2 + 1) (u := .int .i64 (e - 1)) (by omega))
            have H8F := Lib.hid (H8.out.other (g' := g5) (k := D * 2 + 1) (u := .int .i64 (e - 1)) (by omega))
            have HDD := Lib.hid hD
            clear hcs hga hD
            obtain ⟨f0, f1, -⟩ := H7F.out
            obtain ⟨f2, f3, -⟩ := H8F.out
            go_wp2_with (first
              | ((with_reducible refine (KC _).out.mono ?_); rintro e5 w5 ⟨rfl, rfl⟩)
              | ((with_reducible refine (NE _ HBF.out).out.mono ?_); rintro e6 w6 ⟨rfl, hq⟩; have HO6 := Lib.hid (HOF.out.below hq); have H76 := Lib.hid (H7F.out.below hq); have H86 := Lib.hid (H8F.out.below hq); have HB6 := Lib.hid (HBF.out.trans (hq.mono HBF.out.size)); clear hq))
            go_roundg (n3 + n4)
            case measure => omega
            case rel => exact ⟨e, x', y', ga, gb, A3, A4, n3, c3, n4, c4, dn ++ [⟨lo, e - 1⟩], none, HOK2, by rw [pendC, List.append_nil]; exact HO6.out, rfl, by rw [HU2.out], by rw [HV2.out], H76, H86, HR3, HR4, HB6, by have h1 := HDD.out; simp [pendC]; omega, Nat.le_refl _⟩
          · go_wp2_with (first
              | ((with_reducible refine (KC _).out.mono ?_); rintro e5 w5 ⟨rfl, rfl⟩)
              | ((with_reducible refine (NE _ HBW.out).out.mono ?_); rintro e6 w6 ⟨rfl, hq⟩; have HO6 := Lib.hid (HO.out.below hq); have H76 := Lib.hid (H7.out.below hq); have H86 := Lib.hid (H8.out.below hq); have HB6 := Lib.hid (HBW.out.trans (hq.mono HBW.out.size)); clear hq))
            go_roundg (n3 + n4)
            case measure => omega
            case rel => exact ⟨e, x', y', ga, gb, A3, A4, n3, c3, n4, c4, dn, some lo, HOK2, HO6, rfl, by rw [HU2.out], by rw [HV2.out], H76, H86, HR3, HR4, HB6, by rw [HN9.out]; omega, Nat.le_refl _⟩
end Go.Proofs.YtopjhebhdopjpaaGreat

namespace Go.Proofs.YtopjhebhdopjpaaGreat
open Go.RowKit

namespace Kind
variable {P : Program} {α : Type} {k : Kind P α}
theorem Rd.take {w : World} {B : Nat} {A : Option Addr} {c : Nat} {l : List α} (h : k.Rd w B A c l) {j : Nat} (hj : j ≤ l.length) : k.Rd w B A j (l.take j) :=
  ⟨by rw [k.row_take]; exact h.row.take _, by rw [List.length_take]; omega, by have := h.room; have := h.cap; omega⟩
theorem Rd.none {w : World} {B : Nat} {c : Nat} {l : List α} (h : k.Rd w B none c l) : l = [] := by
  rcases h.row with h0 | ⟨b, o, h1, _⟩
  · have e := congrArg List.length h0
    rw [k.row_len, List.length_nil] at e
    cases l with
    | nil => rfl
    | cons x l =>
      rw [List.length_cons] at e
      exact absurd e (Nat.ne_of_gt (Nat.mul_pos (Nat.succ_pos l.length) k.pos))
  · cases h1
end Kind
end Go.Proofs.YtopjhebhdopjpaaGreat
