/-
  A row of the call's own, sorted by the library (slices.SortFunc at elements of several cells): what is asked of it, and what it holds behind.
-/
import Derived.Test.YtnfhkmlggajhaaaKind
import Derived.Shelf.SlSortCmp.WholeK
namespace Go.Proofs.Ytnfhkmlggajhaaa
open Go.RowKit Go.Sort

theorem grown_sortK {α : Type} [Inhabited α] {enc : α → List Value} {k : Nat} {w : World} {g m : Nat} {os : Array Obj} (d : Array α) : w.grownBy (sortWorldK enc k w g 0 m d os) (some g) := by
  unfold sortWorldK putRowK
  refine ⟨rfl, rfl, rfl, by simp, fun j hj hne => ?_⟩
  rw [heap_grow_old _ _ (by simpa using hj)]
  have : g ≠ j := fun e => hne (by rw [e])
  simp [putRow, mapBlock, Sort.ahead, Array.getElem?_modify, this]
theorem heap_sortK {α : Type} [Inhabited α] {enc : α → List Value} {k : Nat} {w : World} {g m : Nat} {os : Array Obj} {cur : Array Value} {e : TypeId} {fr : Nat × Nat} (d : Array α) (hb : w.heap[g]? = some (.cells cur e fr)) :
    (sortWorldK enc k w g 0 m d os).heap[g]? = some (.cells (putCells id 0 (flatK enc k d) cur) e fr) := by
  have hg : g < w.heap.size := (Array.getElem?_eq_some_iff.1 hb).1
  unfold sortWorldK putRowK
  rw [heap_grow_old _ _ (by simpa using hg)]
  simp [putRow, mapBlock, Sort.ahead, Array.getElem?_modify, hb, onCells]
theorem take_putCells_id (cur F : Array Value) (h : F.size ≤ cur.size) : (putCells id 0 F cur).toList.take F.size = F.toList := by
  apply List.ext_getElem?
  intro j
  by_cases hj : j < F.size
  · rw [List.getElem?_take_of_lt hj, Array.getElem?_toList, Array.getElem?_toList]
    simp [putCells, hj, show j < cur.size by omega]
  · rw [List.getElem?_take_eq_none (by omega), List.getElem?_eq_none (by simp; omega)]
namespace Kind
variable {P : Program} {α : Type} [Inhabited α] (K : Kind P α)
theorem flat_row (d : Array α) : (flatK K.cells K.size d).toList = K.row d.toList := by
  apply List.ext_getElem (by rw [K.row_len]; simp)
  intro t h1 h2
  have ht : t < d.size * K.size := by simpa using h1
  have hk : 0 < K.size := K.pos
  have hq : t / K.size < d.size := Nat.div_lt_of_lt_mul (by rw [Nat.mul_comm]; exact ht)
  have hr : t % K.size < K.size := Nat.mod_lt _ hk
  have e : t / K.size * K.size + t % K.size = t := by rw [Nat.mul_comm]; exact Nat.div_add_mod t K.size
  have hx : d.toList[t / K.size]? = some d[t / K.size]! := by rw [Array.getElem?_toList, getElem!_pos d _ hq, Array.getElem?_eq_getElem hq]
  have := K.row_get hx hr
  rw [e, List.getElem?_eq_getElem h2, List.getElem?_eq_getElem (by rw [K.len]; exact hr)] at this
  injection this with this
  rw [this]
  simp only [flatK, Array.toList_map, Array.toList_range, List.getElem_map, List.getElem_range]
  rw [getElem!_pos _ _ (by rw [K.len]; exact hr)]
variable {K}
theorem Own.holdsK {w : World} {base g n c : Nat} {l : List α} (h : K.Own w base (.slice (some ⟨g, 0, none⟩) n c) l) : HoldsK K.cells K.size w g 0 l.toArray ∧ (l ≠ [] → g < w.heap.size) := by
  rcases h.2 with ⟨h0, _⟩ | ⟨g', cap, cur, hv, hg, hb, hc, _, hz, ht⟩
  · cases h0
  · injection hv with hA
    injection hA with hA
    injection hA with hA
    subst hA
    refine ⟨fun j hj => ?_, fun _ => lt_of_block hb⟩
    have hj' : j < l.length * K.size := by simpa using hj
    refine ⟨?_, by simp [World.frozen?, hb]⟩
    rw [cell_of_row _ _ _ cur _ (0, 0) hb, ← Array.getElem?_toList, Nat.zero_add]
    have h1 : (cur.toList.take (l.length * K.size))[j]? = (K.row l)[j]? := by rw [ht]
    rw [List.getElem?_take_of_lt hj'] at h1
    have h2 := K.flat_row l.toArray
    rw [List.toList_toArray] at h2
    rw [h1, ← h2, Array.getElem?_toList, Array.getElem?_eq_getElem hj, getElem!_pos (flatK K.cells K.size l.toArray) j hj]
    rfl
theorem Own.sorted {w : World} {base g n c m : Nat} {l : List α} {os : Array Obj} (h : K.Own w base (.slice (some ⟨g, 0, none⟩) n c) l) (d : Array α) (hd : d.size = l.length) (hn : n = l.length) :
    K.Own (sortWorldK K.cells K.size w g 0 m d os) base (.slice (some ⟨g, 0, none⟩) n c) d.toList := by
  subst hn
  rcases h.2 with ⟨h0, _⟩ | ⟨g', cap, cur, hv, hg, hb, hc, hm, hz, ht⟩
  · cases h0
  · injection hv with hA h5 h6
    injection hA with hA
    injection hA with hA
    subst hA h6
    have e : d.toList.length = l.length := by rw [Array.length_toList, hd]
    refine ⟨by rw [K.row_len], .inr ⟨g, c, _, by rw [e], hg, heap_sortK d hb, by rw [e]; exact hc, hm, by simp [putCells, hz], ?_⟩⟩
    rw [e, ← K.flat_row, ← hd, ← size_flatK K.cells K.size d]
    refine take_putCells_id _ _ ?_
    rw [size_flatK, hz, hd]
    exact Nat.mul_le_mul_right _ hc
end Kind
theorem perm_of_permIn {α : Type} [Inhabited α] {l : List α} {d : Array α} (h : PermIn 0 l.toArray.size l.toArray d) : d.toList.Perm l := by
  obtain ⟨h1, _, h3⟩ := h
  rw [← h1, Array.extract_size, h1, Array.extract_size] at h3
  simpa using h3
theorem pairs_of_sortedIn {α : Type} [Inhabited α] {lt : α → α → Bool} {d : Array α} (h : SortedIn lt 0 d.size d) : d.toList.Pairwise fun a b => lt b a = false := by
  rw [List.pairwise_iff_getElem]
  intro i j hi hj hij
  have hi' : i < d.size := by simpa using hi
  have hj' : j < d.size := by simpa using hj
  have := h i j (Nat.zero_le _) hij hj'
  rw [getElem!_pos d i hi', getElem!_pos d j hj'] at this
  simpa using this
end Go.Proofs.Ytnfhkmlggajhaaa
