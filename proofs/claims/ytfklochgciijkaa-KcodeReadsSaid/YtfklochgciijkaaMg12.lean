/-
  Several texts in one: Side, VstK, VrOne, Law13B, Law13C, Law13D, Law13E, Sorted, ShelfSortRn, CntG, CntH, CntI.
-/
import Derived.Deep.DeepCutAuto
import Derived.Shelf.SlSortCmp.WholeK
import Derived.Shelf.SlSortCmp.NoneTotal
import Derived.Test.YtfklochgciijkaaProg
import Derived.Test.YtfklochgciijkaaMg11
/-
  A list that is swept, in its block: whether it has what stands from here on, and what is left of its edges.
-/
namespace Go.Proofs.Ytfklochgciijkaa
open Go.RowKit

/-- A list that is swept, in its block. -/
structure SdAt (w : World) (g : Nat) (v : Bool) (s : Value) : Prop where
  c0 : w.cell? ⟨g, 0, none⟩ = some (.bool v)
  c1 : w.cell? ⟨g, 1, none⟩ = some s
  fr : ∀ k, w.frozen? ⟨g, k, none⟩ = false
theorem SdAt.lt {w : World} {g : Nat} {v : Bool} {s : Value} (h : SdAt w g v s) : g < w.heap.size := World.block_lt_of_cell? w _ h.c0
theorem SdAt.below {w w' : World} {g : Nat} {v : Bool} {s : Value} (h : SdAt w g v s) (hb : Below w.heap.size w w') : SdAt w' g v s := by
  obtain ⟨hc, hf⟩ := bcell hb
  have hl := h.lt
  exact ⟨(hc _ _ hl).trans h.c0, (hc _ _ hl).trans h.c1, fun k => (hf _ _ hl).trans (h.fr k)⟩
theorem SdAt.drew {w : World} {g : Nat} {v : Bool} {s : Value} (h : SdAt w g v s) : SdAt w.drew g v s := ⟨h.c0, h.c1, h.fr⟩
theorem SdAt.kept {w w' : World} {row : Option Nat} {g : Nat} {v : Bool} {s : Value} (h : SdAt w g v s) (hg : w.grownBy w' row) (hne : some g ≠ row) : SdAt w' g v s :=
  ⟨hg.cell h.c0 hne, hg.cell h.c1 hne, fun k => (hg.frozen_far ⟨g, k, none⟩ h.lt hne).trans (h.fr k)⟩
theorem SdAt.other {w : World} {g g' k : Nat} {v : Bool} {s u : Value} (h : SdAt w g v s) (hne : g' ≠ g) : SdAt (w.setCell ⟨g', k, none⟩ u) g v s :=
  ⟨set_other h.c0 (addr_block hne) u, set_other h.c1 (addr_block hne) u, fun j => by rw [World.frozen?_setCell]; exact h.fr j⟩
theorem SdAt.set {w : World} {g : Nat} {v v' : Bool} {s s' : Value} (h : SdAt w g v s) : SdAt ((w.setCell ⟨g, 0, none⟩ (.bool v')).setCell ⟨g, 1, none⟩ s') g v' s' :=
  ⟨set_other (set_same h.c0 _) (addr_off (by decide)) _, set_same (set_other h.c1 (addr_off (by decide)) _) _, fun j => by rw [World.frozen?_setCell, World.frozen?_setCell]; exact h.fr j⟩
theorem SdAt.low {w w' : World} {x : Obj} {g B : Nat} {v : Bool} {s : Value} (h : SdAt w g v s) (hb : Below B (w.alloc x) w') (hg : g < B) : SdAt w' g v s := by
  have h2 := h.below (below_new w x)
  obtain ⟨hc, hf⟩ := bcell hb
  exact ⟨(hc _ _ hg).trans h2.c0, (hc _ _ hg).trans h2.c1, fun k => (hf _ _ hg).trans (h2.fr k)⟩
theorem sdAt_new (w : World) (v : Bool) (s : Value) (t : TypeId) : SdAt (w.alloc (.cells #[.bool v, s] t)) w.heap.size v s := by
  have h := heap_new w (.cells #[.bool v, s] t) _ rfl
  refine ⟨?_, ?_, fun k => ?_⟩
  · rw [cell_of_row _ _ _ _ _ _ h]; rfl
  · rw [cell_of_row _ _ _ _ _ _ h]; rfl
  · unfold World.frozen?; rw [h]; simp
theorem sdAt_new1 (w : World) (x : Obj) (v : Bool) (s : Value) (t : TypeId) : SdAt ((w.alloc x).alloc (.cells #[.bool v, s] t)) (w.heap.size + 1) v s := by
  have := sdAt_new (w.alloc x) v s t
  rwa [size1] at this
theorem below_of_drew {w w' : World} (h : Below w.drew.heap.size w.drew w') : Below w.heap.size w w' := ⟨h.os, h.tape, h.output, h.size, h.block⟩
end Go.Proofs.Ytfklochgciijkaa

/-
  Layer 14 (vset), the program: two sets' rows held against each other.
-/
namespace Go.Proofs.Ytfklochgciijkaa
open Go.RowKit

/-- What a call hands back that is handed two lists on, of the call's own. -/
def CTwoC (F : FuncId) (op : Int) : Prop := ∀ (A B : Option Addr) (c d n m : Nat) (a b : List Rn), n = a.length → m = b.length → n ≤ 100000 → m ≤ 100000 → ∀ U, makeC op a b = U → ∀ N, U.length = N → ∀ w, kRn.Rd w w.heap.size A c a → kRn.Rd w w.heap.size B d b →
  Calls Try.prog F #[.slice A n c, .slice B m d] w (RetOC w N U)
theorem RowsG.rds {w : World} {base : Nat} {A : Nat → Option Addr} {N c : Nat → Nat} {L : Nat → List Rn} (h : RowsG w base (slV A N c) L) : ∀ k, k < 16 → kRn.Rd w w.heap.size (A k) (c k) (L k) := fun k hk => (h.own k hk).rd
theorem RowsG.rdSs {w : World} {base : Nat} {A : Nat → Option Addr} {N c : Nat → Nat} {L : Nat → List Rn} (h : RowsG w base (slV A N c) L) (hN : ∀ k, (L k).length = N k) : ∀ k, k < 16 → kRn.RdS w (fun g => base ≤ g) (A k) (c k) (L k) := fun k hk => (h.own k hk).rdS (hN k).symm
/-- How the rows stand while they are made, one behind the other, in block g. -/
structure MkAt (w0 w : World) (k : Nat) (V : Nat → Value) (L : Nat → List Rn) : Prop where
  all : GrAt w w0.heap.size V
  rows : RowsG w (w0.heap.size + 1) V (fun j => if j < k then L j else [])
  low : Below w0.heap.size w0 w
theorem mkAt_new (w : World) (t : TypeId) (L : Nat → List Rn) : MkAt w (w.alloc (grO (fun _ => .slice none 0 0) t)) 0 (fun _ => .slice none 0 0) L :=
  ⟨grAt_new w _ t, (rowsG_nil _ _).congr fun k _ => if_neg (by omega), below_new w _⟩
theorem MkAt.next {w0 w w' : World} {k : Nat} {V : Nat → Value} {L : Nat → List Rn} {v' : Value} (h : MkAt w0 w k V L) (hk : k < 16) (ho : kRn.Own w' w.heap.size v' (L k)) (hb : Below w.heap.size w w') : MkAt w0 (w'.setCell ⟨w0.heap.size, k, none⟩ v') (k + 1) (upd V k v') L := by
  have hl := h.all.lt
  have hr := h.rows.new hk ho hb hl
  refine ⟨(h.all.below hb).set hk _, (hr.set (hr.low (by omega)) _).congr fun j _ => ?_, (h.low.trans (hb.mono h.low.size)).setCell (p := ⟨w0.heap.size, k, none⟩) (Nat.le_refl _) _⟩
  by_cases e : j = k
  · subst e; rw [upd_at]; exact if_pos (by omega)
  · rw [upd_far _ _ e]
    by_cases h1 : j < k
    · show (if j < k + 1 then L j else []) = if j < k then L j else []
      rw [if_pos h1, if_pos (by omega)]
    · show (if j < k + 1 then L j else []) = if j < k then L j else []
      rw [if_neg h1, if_neg (by omega)]
theorem MkAt.fin {w0 w : World} {V : Nat → Value} {L : Nat → List Rn} (h : MkAt w0 w 16 V L) (N : Nat → Nat) (hN : ∀ k, (L k).length = N k) : ∃ A c, GrAt w w0.heap.size (slV A N c) ∧ ∀ k, k < 16 → kRn.RdS w (fun g => w0.heap.size + 1 ≤ g) (A k) (c k) (L k) := by
  have hr := h.rows.congr (M := L) fun k hk => (if_pos hk).symm
  obtain ⟨A, c, e⟩ := hr.form N hN
  exact ⟨A, c, h.all.congr e, (hr.congrV e).rdSs hN⟩
end Go.Proofs.Ytfklochgciijkaa

/-
  Layer 12 (version), the program: is a version right?
-/
namespace Go.Proofs.Ytfklochgciijkaa
open Go.RowKit

def VRightC (F : FuncId) : Prop := ∀ (v : Vr) (x y : Int), v.rep = x → v.cnt = y → ∀ z, rightVr v = z → ∀ w, Calls Try.prog F #[.agg #[.int .i64 x, .int .i64 y]] w fun e w' => e = .returned (.bool z) ∧ Below w.heap.size w w'
end Go.Proofs.Ytfklochgciijkaa

/-
  The laws of layer 13: CountsSets.
-/
namespace Go.Proofs.Ytfklochgciijkaa
open Go.RowKit

end Go.Proofs.Ytfklochgciijkaa

/-
  The laws of layer 13: CountsLaws.
-/
namespace Go.Proofs.Ytfklochgciijkaa
open Go.RowKit

theorem makeC_back1 (a b : List Rn) : makeC 1 b a = makeC 1 a b := (makeC_unique (makeC_right 1 a b) fun n => by rw [makeC_has, gC1, gC1, Bool.or_comm]).symm
theorem makeC_back2 (a b : List Rn) : makeC 2 b a = makeC 2 a b := (makeC_unique (makeC_right 2 a b) fun n => by rw [makeC_has, gC2, gC2, Bool.and_comm]).symm
theorem makeC_parts (a b : List Rn) : makeC 1 (makeC 3 a b) (makeC 2 a b) = ofC a := (makeC_unique (ofC_right a) fun n => by
  rw [makeC_has, makeC_has, gC1, gC2, gC3, ofC_has]
  cases hasC a n <;> cases hasC b n <;> rfl).symm
theorem makeC_joined (a b : List Rn) : makeC 1 (makeC 3 a b) b = makeC 1 a b := (makeC_unique (makeC_right 1 a b) fun n => by
  rw [makeC_has, makeC_has, gC1, gC1, gC3]
  cases hasC a n <;> cases hasC b n <;> rfl).symm
theorem makeC_apart (a b : List Rn) : makeC 2 (makeC 3 a b) b = [] := (makeC_unique (by rfl) fun n => by
  rw [hasC_nil, makeC_has, gC2, gC3]
  cases hasC a n <;> cases hasC b n <;> rfl).symm
theorem manyC_range (l : List Rn) : 0 ≤ manyC l ∧ manyC l ≤ 1099511627776 := by
  have h1 := many_ok l
  have h2 := base_ok l
  have h3 := most_ok l
  omega
end Go.Proofs.Ytfklochgciijkaa

/-
  The laws of layer 13: CountsTell.
-/
namespace Go.Proofs.Ytfklochgciijkaa
open Go.RowKit

theorem ofC_idem (l : List Rn) : ofC (ofC l) = ofC l := (ofC_unique (ofC_right l) fun _ => rfl).symm
theorem manyC_of (l : List Rn) : manyC (ofC l) = manyC l := by unfold manyC; rw [ofC_idem]
theorem it_new (w : World) (x : Int) : kIt.Rd (w.alloc (.cells #[.int .i64 x] 3)) (w.alloc (.cells #[.int .i64 x] 3)).heap.size (some ⟨w.heap.size, 0, none⟩) 1 [x] := by
  rw [size13]
  exact Kind.rd_new (k := kIt) (l := [x]) rfl rfl (by simp)
end Go.Proofs.Ytfklochgciijkaa

/-
  The laws of layer 13: CountsOf.
-/
namespace Go.Proofs.Ytfklochgciijkaa
open Go.RowKit

theorem cown_new (w : World) : kRn.Own (w.alloc (.cells #[] 49)) w.heap.size (.slice (some ⟨w.heap.size, 0, none⟩) 0 0) [] := own_none w _ _
end Go.Proofs.Ytfklochgciijkaa

/-
  A row of the call's own, sorted by the library (slices.SortFunc at elements of several cells): what is asked of it, and what it holds behind.
-/
namespace Go.Proofs.Ytfklochgciijkaa
open Go.RowKit Go.Sort

theorem grown_sortK {α : Type} [Inhabited α] {enc : α → List Value} {k : Nat} {w : World} {g m : Nat} {os : Array Obj} (d : Array α) : w.grownBy (sortWorldK enc k w g 0 m d os) (some g) := by
  unfold sortWorldK putRowK
  refine ⟨rfl, rfl, rfl, by simp, fun j hj hne => ?_⟩
  rw [heap_grow_old _ _ (by simpa using hj)]
  have : g ≠ j := fun e => hne (by rw [e])
  simp [putRow, mapBlock, Sort.ahead, Array.getElem?_modify, this]
theorem heap_sortK {α : Type} [Inhabited α] {enc : α → List Value} {k : Nat} {w : World} {g m : Nat} {os : Array Obj} {cur : Array Value} {e : TypeId} {fr : Nat × Nat} (d : Array α) (hb : w.heap[g]? = some (.cells cur e fr)) :
    (sortWorldK enc k w g 0 m d os).heap[g]? = some (.cells (putCells id 0 (flatK enc k d) cur) e fr) := by
  have hg : g < w.heap.size := (Array.getElem?_eq_some_iff.1 hb).1
  unfold sortWorldK putRowK
  rw [heap_grow_old _ _ (by simpa using hg)]
  simp [putRow, mapBlock, Sort.ahead, Array.getElem?_modify, hb, onCells]
theorem take_putCells_id (cur F : Array Value) (h : F.size ≤ cur.size) : (putCells id 0 F cur).toList.take F.size = F.toList := by
  apply List.ext_getElem?
  intro j
  by_cases hj : j < F.size
  · rw [List.getElem?_take_of_lt hj, Array.getElem?_toList, Array.getElem?_toList]
    simp [putCells, hj, show j < cur.size by omega]
  · rw [List.getElem?_take_eq_none (by omega), List.getElem?_eq_none (by simp; omega)]
namespace Kind
variable {P : Program} {α : Type} [Inhabited α] (K : Kind P α)
theorem flat_row (d : Array α) : (flatK K.cells K.size d).toList = K.row d.toList := by
  apply List.ext_getElem (by rw [K.row_len]; simp)
  intro t h1 h2
  have ht : t < d.size * K.size := by simpa using h1
  have hk : 0 < K.size := K.pos
  have hq : t / K.size < d.size := Nat.div_lt_of_lt_mul (by rw [Nat.mul_comm]; exact ht)
  have hr : t % K.size < K.size := Nat.mod_lt _ hk
  have e : t / K.size * K.size + t % K.size = t := by rw [Nat.mul_comm]; exact Nat.div_add_mod t K.size
  have hx : d.toList[t / K.size]? = some d[t / K.size]! := by rw [Array.getElem?_toList, getElem!_pos d _ hq, Array.getElem?_eq_getElem hq]
  have := K.row_get hx hr
  rw [e, List.getElem?_eq_getElem h2, List.getElem?_eq_getElem (by rw [K.len]; exact hr)] at this
  injection this with this
  rw [this]
  simp only [flatK, Array.toList_map, Array.toList_range, List.getElem_map, List.getElem_range]
  rw [getElem!_pos _ _ (by rw [K.len]; exact hr)]
variable {K}
theorem Own.holdsK {w : World} {base g n c : Nat} {l : List α} (h : K.Own w base (.slice (some ⟨g, 0, none⟩) n c) l) : HoldsK K.cells K.size w g 0 l.toArray ∧ (l ≠ [] → g < w.heap.size) := by
  rcases h.2 with ⟨h0, _⟩ | ⟨g', cap, cur, hv, hg, hb, hc, _, hz, ht⟩
  · cases h0
  · injection hv with hA
    injection hA with hA
    injection hA with hA
    subst hA
    refine ⟨fun j hj => ?_, fun _ => lt_of_block hb⟩
    have hj' : j < l.length * K.size := by simpa using hj
    refine ⟨?_, by simp [World.frozen?, hb]⟩
    rw [cell_of_row _ _ _ cur _ (0, 0) hb, ← Array.getElem?_toList, Nat.zero_add]
    have h1 : (cur.toList.take (l.length * K.size))[j]? = (K.row l)[j]? := by rw [ht]
    rw [List.getElem?_take_of_lt hj'] at h1
    have h2 := K.flat_row l.toArray
    rw [List.toList_toArray] at h2
    rw [h1, ← h2, Array.getElem?_toList, Array.getElem?_eq_getElem hj, getElem!_pos (flatK K.cells K.size l.toArray) j hj]
    rfl
theorem Own.sorted {w : World} {base g n c m : Nat} {l : List α} {os : Array Obj} (h : K.Own w base (.slice (some ⟨g, 0, none⟩) n c) l) (d : Array α) (hd : d.size = l.length) (hn : n = l.length) :
    K.Own (sortWorldK K.cells K.size w g 0 m d os) base (.slice (some ⟨g, 0, none⟩) n c) d.toList := by
  subst hn
  rcases h.2 with ⟨h0, _⟩ | ⟨g', cap, cur, hv, hg, hb, hc, hm, hz, ht⟩
  · cases h0
  · injection hv with hA h5 h6
    injection hA with hA
    injection hA with hA
    subst hA h6
    have e : d.toList.length = l.length := by rw [Array.length_toList, hd]
    refine ⟨by rw [K.row_len], .inr ⟨g, c, _, by rw [e], hg, heap_sortK d hb, by rw [e]; exact hc, hm, by simp [putCells, hz], ?_⟩⟩
    rw [e, ← K.flat_row, ← hd, ← size_flatK K.cells K.size d]
    refine take_putCells_id _ _ ?_
    rw [size_flatK, hz, hd]
    exact Nat.mul_le_mul_right _ hc
end Kind
theorem perm_of_permIn {α : Type} [Inhabited α] {l : List α} {d : Array α} (h : PermIn 0 l.toArray.size l.toArray d) : d.toList.Perm l := by
  obtain ⟨h1, _, h3⟩ := h
  rw [← h1, Array.extract_size, h1, Array.extract_size] at h3
  simpa using h3
theorem pairs_of_sortedIn {α : Type} [Inhabited α] {lt : α → α → Bool} {d : Array α} (h : SortedIn lt 0 d.size d) : d.toList.Pairwise fun a b => lt b a = false := by
  rw [List.pairwise_iff_getElem]
  intro i j hi hj hij
  have hi' : i < d.size := by simpa using hi
  have hj' : j < d.size := by simpa using hj
  have := h i j (Nat.zero_le _) hij hj'
  rw [getElem!_pos d i hi', getElem!_pos d j hj'] at this
  simpa using this
end Go.Proofs.Ytfklochgciijkaa

/-
  The shelf's contracts at this program, in plain words (made by wip/tools/shelf.py).
-/
namespace Go.Proofs
open Go.Shelf
end Go.Proofs

/-
  Layer 13 (counts), the program: the right ones of some runs, those that begin ahead first.
-/
namespace Go.Proofs.Ytfklochgciijkaa
open Go.RowKit Go.Sort

instance : Inhabited Rn := ⟨⟨0, 0⟩⟩
def cmpI (x y : Int) : Int := match decide (x < y) with | true => -1 | false => match decide (y < x) with | true => 1 | false => 0
theorem cmpI_lt {x y : Int} (h : x < y) : cmpI x y = -1 := by unfold cmpI; rw [decide_eq_true h]
theorem cmpI_gt {x y : Int} (h : y < x) : cmpI x y = 1 := by unfold cmpI; rw [decide_eq_false (by omega), decide_eq_true h]
theorem cmpI_eq {x y : Int} (h : x = y) : cmpI x y = 0 := by unfold cmpI; rw [decide_eq_false (by omega), decide_eq_false (by omega)]
def cmpFr (x y : Rn) : Int := cmpI x.fr y.fr
theorem lt_cmpFr (x y : Rn) : ltOf cmpFr x y = decide (x.fr < y.fr) := by
  unfold ltOf cmpFr
  rcases Int.lt_trichotomy x.fr y.fr with h | h | h
  · rw [cmpI_lt h, decide_eq_true h]; rfl
  · rw [cmpI_eq h, decide_eq_false (show ¬ x.fr < y.fr by omega)]; rfl
  · rw [cmpI_gt h, decide_eq_false (show ¬ x.fr < y.fr by omega)]; rfl
theorem swo_cmpFr : SWO (ltOf cmpFr) where
  irrefl x := by rw [lt_cmpFr]; exact decide_eq_false (by omega)
  trans x y z h1 h2 := by rw [lt_cmpFr, decide_eq_true_eq] at *; omega
  ntrans x y z h1 h2 := by rw [lt_cmpFr, decide_eq_false_iff_not] at *; omega
theorem cfilter_next {l : List Rn} {k : Nat} {r : Rn} (h : l[k]? = some r) : (l.take (k + 1)).filter oneC = (l.take k).filter oneC ++ (match oneC r with | true => [r] | false => []) := by
  rw [List.take_add_one, h, List.filter_append]
  cases hr : oneC r <;> simp [hr]
end Go.Proofs.Ytfklochgciijkaa

/-
  Layer 13 (counts), the program: the right list of some runs' counts.
-/
namespace Go.Proofs.Ytfklochgciijkaa
open Go.RowKit

end Go.Proofs.Ytfklochgciijkaa

/-
  Layer 13 (counts), the program: a list that is not swept yet; from a count on; the next edge of two.
-/
namespace Go.Proofs.Ytfklochgciijkaa
open Go.RowKit

/-- While a list's edges are gathered: s in the second block of the call, what is handed back in the first one, the list's row as it was. -/
structure BegC (w w1 : World) (g1 : Nat) (W : World) (v : Value) (L : List Int) : Prop where
  s0 : W.cell? ⟨w.heap.size + 1, 0, none⟩ = some (.bool false)
  s1 : W.cell? ⟨w.heap.size + 1, 1, none⟩ = some v
  sf : ∀ j, W.frozen? ⟨w.heap.size + 1, j, none⟩ = false
  r0 : W.cell? ⟨w.heap.size, 0, none⟩ = some (.bool false)
  r1 : W.cell? ⟨w.heap.size, 1, none⟩ = some (.slice none 0 0)
  rf : ∀ j, W.frozen? ⟨w.heap.size, j, none⟩ = false
  own : kIt.Own W w1.heap.size v L
  same : ∀ j, W.cell? ⟨g1, j, none⟩ = w1.cell? ⟨g1, j, none⟩
  below : Below w.heap.size w W
  size : w1.heap.size ≤ W.heap.size
theorem BegC.alloc {w w1 W : World} {g1 : Nat} {v : Value} {L : List Int} (h : BegC w w1 g1 W v L) (h2 : w.heap.size + 2 ≤ w1.heap.size) (h3 : g1 < w1.heap.size) (x : Obj) : BegC w w1 g1 (W.alloc x) v L := by
  have hz := h.size
  obtain ⟨kc, kf⟩ := bcell (below_new W x)
  exact ⟨(kc _ _ (by omega)).trans h.s0, (kc _ _ (by omega)).trans h.s1, fun j => (kf _ _ (by omega)).trans (h.sf j), (kc _ _ (by omega)).trans h.r0, (kc _ _ (by omega)).trans h.r1, fun j => (kf _ _ (by omega)).trans (h.rf j), h.own.alloc x, fun j => (kc _ _ (by omega)).trans (h.same j), h.below.alloc h.below.size x, cle_alloc hz x⟩
theorem BegC.app {w w1 W W' : World} {g1 : Nat} {v v' : Value} {L L' : List Int} (h : BegC w w1 g1 W v L) (h2 : w.heap.size + 2 ≤ w1.heap.size) (h3 : g1 < w1.heap.size) (h4 : g1 ≠ w.heap.size + 1) (ho : kIt.Own W' w1.heap.size v' L') (hb : Below w1.heap.size W W') :
    BegC w w1 g1 (W'.setCell ⟨w.heap.size + 1, 1, none⟩ v') v' L' := by
  obtain ⟨kc, kf⟩ := bcell hb
  have fr : ∀ p, (W'.setCell ⟨w.heap.size + 1, 1, none⟩ v').frozen? p = W'.frozen? p := fun p => by rw [World.frozen?_setCell]
  refine ⟨set_other ((kc _ _ (by omega)).trans h.s0) (addr_off (by decide)) _, set_same ((kc _ _ (by omega)).trans h.s1) _, fun j => (fr _).trans ((kf _ _ (by omega)).trans (h.sf j)), set_other ((kc _ _ (by omega)).trans h.r0) (addr_block (by omega)) _, set_other ((kc _ _ (by omega)).trans h.r1) (addr_block (by omega)) _,
    fun j => (fr _).trans ((kf _ _ (by omega)).trans (h.rf j)), ho.other (grownBy_set _ _ _ _) (by omega), fun j => (World.cell?_setCell_other _ _ _ _ (addr_block (Ne.symm h4))).trans ((kc _ _ h3).trans (h.same j)), ?_, ?_⟩
  · exact (h.below.trans (hb.mono (by omega))).setCell (p := ⟨w.heap.size + 1, 1, none⟩) (Nat.le_succ _) _
  · have h5 := hb.size
    have h6 := h.size
    have : (W'.setCell ⟨w.heap.size + 1, 1, none⟩ v').heap.size = W'.heap.size := by simp
    omega
theorem two_new1 (w : World) (x : Obj) (X Y : Int) : RowAt ((w.alloc x).alloc (.cells #[.int .i64 X, .int .i64 Y] 3)) (w.heap.size + 1 + 1) (some ⟨w.heap.size + 1, 0, none⟩) (kIt.row [X, Y]) := by
  have := (Kind.rd_new (k := kIt) (w := w.alloc x) (cs := #[.int .i64 X, .int .i64 Y]) (l := [X, Y]) (t := 3) (n := 2) rfl rfl (by simp)).row
  rwa [size1] at this
theorem ofC_len (l : List Rn) : (ofC l).length ≤ 2 * l.length + 1 := by have := makeC_len 1 l []; rw [List.length_nil] at this; exact this
end Go.Proofs.Ytfklochgciijkaa
