/-
  A row of the call's own, cut at its end; what is behind the cut, cleared.
-/
import Derived.Test.YtddamcmbgbefpaaDoorKind
import Derived.Laws.IdiomCopy
import Derived.Lib.SliceRun
namespace Go.Proofs.YtddamcmbgbefpaaDoor
open Go.RowKit

theorem Kind.Own.take {P : Program} {α : Type} {k : Kind P α} {w : World} {base : Nat} {A : Option Addr} {n c : Nat} {l : List α} (h : k.Own w base (.slice A n c) l) {j : Nat} (hj : j ≤ l.length) : k.Own w base (.slice A j c) (l.take j) := by
  have hl : (l.take j).length = j := by rw [List.length_take]; omega
  unfold Kind.Own at h ⊢
  rw [hl, k.row_take]
  obtain ⟨h1, h2⟩ := h
  refine ⟨by rw [List.length_take, h1, Nat.min_eq_left (Nat.mul_le_mul_right _ hj)], ?_⟩
  rcases h2 with ⟨h0, h3⟩ | ⟨g, cap, cur, hv, hg, hh, hn, hcap, hsz, ht⟩
  · injection h0 with e1 e2 e3
    subst e1; subst e3
    obtain rfl : j = 0 := by omega
    exact .inl ⟨rfl, rfl⟩
  · injection hv with e1 e2 e3
    subst e1; subst e3
    refine .inr ⟨g, c, cur, rfl, hg, hh, by omega, hcap, hsz, ?_⟩
    rw [← ht, List.take_take, Nat.min_eq_left (Nat.mul_le_mul_right _ hj)]
theorem setCells_block {g : Nat} {e : TypeId} {fr : Nat × Nat} : ∀ (vs : List Value) (o : Nat) (w : World) (cur : Array Value), w.heap[g]? = some (.cells cur e fr) →
    ∃ cur', (w.setCells g o vs).heap[g]? = some (.cells cur' e fr) ∧ cur'.size = cur.size ∧ ∀ i, i < o → cur'[i]? = cur[i]?
  | [], _, _, cur, h => ⟨cur, h, rfl, fun _ _ => rfl⟩
  | v :: r, o, w, cur, h => by
    have hh : (w.setCell ⟨g, o, none⟩ v).heap[g]? = some (.cells (cur.setIfInBounds o v) e fr) := by
      simp [World.setCell, Array.getElem?_modify, h]
    obtain ⟨cur', h1, h2, h3⟩ := setCells_block r (o + 1) _ _ hh
    refine ⟨cur', h1, by rw [h2, Array.size_setIfInBounds], fun i hi => ?_⟩
    rw [h3 i (by omega), Array.getElem?_setIfInBounds, if_neg (by omega)]
theorem below_cells {B g : Nat} (hg : B ≤ g) : ∀ (vs : List Value) (o : Nat) (a w : World), Below B a w → Below B a (w.setCells g o vs)
  | [], _, _, _, h => h
  | v :: r, o, a, _, h => below_cells hg r (o + 1) a _ (h.setCell (p := ⟨g, o, none⟩) hg v)
theorem Kind.Own.cleared {P : Program} {α : Type} {k : Kind P α} {w : World} {base g n c : Nat} {l : List α} (h : k.Own w base (.slice (some ⟨g, 0, none⟩) n c) l) {j : Nat} (hj : j ≤ l.length) (vs : List Value) :
    k.Own (w.setCells g (j * k.size) vs) base (.slice (some ⟨g, 0, none⟩) j c) (l.take j) := by
  have h := Kind.Own.take h hj
  have hl : (l.take j).length = j := by rw [List.length_take]; omega
  unfold Kind.Own at h ⊢
  rw [hl] at h ⊢
  obtain ⟨h1, h2⟩ := h
  refine ⟨h1, ?_⟩
  rcases h2 with ⟨h0, h3⟩ | ⟨g', cap, cur, hv, hg, hh, hn, hcap, hsz, ht⟩
  · cases h0
  · injection hv with e1 e2 e3
    injection e1 with e1
    injection e1 with e1
    subst e1; subst e3
    obtain ⟨cur', k1, k2, k3⟩ := setCells_block vs (j * k.size) w cur hh
    refine .inr ⟨g, c, cur', rfl, hg, k1, hn, hcap, by rw [k2, hsz], ?_⟩
    rw [← ht]
    apply List.ext_getElem?
    intro i
    by_cases hi : i < j * k.size
    · rw [List.getElem?_take_of_lt hi, List.getElem?_take_of_lt hi, Array.getElem?_toList, Array.getElem?_toList, k3 i hi]
    · rw [List.getElem?_take_eq_none (by omega), List.getElem?_take_eq_none (by omega)]
theorem Kind.Own.clears {P : Program} {α : Type} {k : Kind P α} {w : World} {base g n c : Nat} {l : List α} (h : k.Own w base (.slice (some ⟨g, 0, none⟩) n c) l) (hn : n = l.length) {j : Nat} (hj : j < n) (hz : ∀ u ∈ k.zero.cells.toList, u.oneCell' = true)
    (hzv : ∀ w, (zeroValue k.el).run P w = .ok k.zero w) :
    ∃ vs, ∀ (ty : TypeId) (c' : Nat), (Builtin.clear_ #[k.ty] ty #[.slice (some ⟨g, j * k.size, none⟩) (n - j) c']).run P w = .ok (.tuple #[]) (w.setCells g (j * k.size) vs) := by
  refine ⟨(Builtin.zeroCells k.zero.cells (n - j)).toList, fun ty c' => ?_⟩
  have hlen : (Builtin.zeroCells k.zero.cells (n - j)).toList.length = (n - j) * k.size := by simp [Builtin.zeroCells, k.zsize]
  obtain ⟨-, -, hf, hcs⟩ := h.at_g hn (by omega)
  have hone : ∀ v ∈ (Builtin.zeroCells k.zero.cells (n - j)).toList, v.oneCell' = true := fun v hv => by
    simp only [Builtin.zeroCells, Array.toList_map, List.mem_map] at hv
    obtain ⟨i, _, rfl⟩ := hv
    have hi : i % k.zero.cells.size < k.zero.cells.size := Nat.mod_lt _ (by rw [k.zsize]; exact k.pos)
    rw [getElem!_pos k.zero.cells _ hi]
    exact hz _ (by simp)
  have hcell : ∀ i, i < (n - j) * k.size → (w.cell? ⟨g, j * k.size + 0 + i, none⟩).isSome = true := fun i hi => by
    have hk := k.pos
    have hq : i / k.size < n - j := Nat.div_lt_of_lt_mul (by rw [Nat.mul_comm]; exact hi)
    have hr : i % k.size < k.size := Nat.mod_lt _ hk
    have hx : l[j + i / k.size]? = some l[j + i / k.size] := List.getElem?_eq_getElem (by omega)
    have hu : (k.cells l[j + i / k.size])[i % k.size]? = some ((k.cells l[j + i / k.size])[i % k.size]'(by rw [k.len]; exact hr)) := List.getElem?_eq_getElem _
    have := hcs _ _ hx _ _ hu
    rw [show (j + i / k.size) * k.size + i % k.size = j * k.size + 0 + i by
      rw [Nat.add_mul, Nat.add_zero, Nat.add_assoc, Nat.mul_comm (i / k.size), Nat.div_add_mod]] at this
    rw [this]; rfl
  have hst := run_storeCells_cells (P := P) g (j * k.size) (Builtin.zeroCells k.zero.cells (n - j)).toList 0 w (fun i hi => hcell i (by rw [← hlen]; exact hi)) (fun i _ => hf _) hone
  obtain ⟨m, hm⟩ : ∃ m, n - j = m + 1 := ⟨n - j - 1, by omega⟩
  rw [Nat.add_zero] at hst
  rw [hm] at hst ⊢
  simp [Builtin.clear_, run_underlying k.under, hzv, hst]
theorem Kind.run_cut {P : Program} {α : Type} (k : Kind P α) (hs : ∀ w, (sizeOf k.el).run P w = .ok k.size w) (w : World) (g n c j : Nat) (hj : j ≤ n) (hjc : j < c) :
    (Instr.slice k.ty (.slice (some ⟨g, 0, none⟩) n c) (some (.int .i64 (j : Int))) none none).run P w = .ok (.slice (some ⟨g, j * k.size, none⟩) (n - j) (c - j)) w := by
  have he : P.elem k.ty = k.el := by simp [Program.elem, k.under]
  have ht' : P.underlying k.ty = some (.slice (P.elem k.ty)) := by rw [he]; exact k.under
  have hne : ¬ c = j := by omega
  rw [run_slice_l w k.ty _ _ _ ht' .i64 _ (by omega) (by omega), he, hs]
  simp [Result.andThen, sliced, hne, Go.WideShapes.add_plain]
theorem Kind.run_take {P : Program} {α : Type} (k : Kind P α) (hs : ∀ w, (sizeOf k.el).run P w = .ok k.size w) (w : World) (A : Option Addr) (n c j : Nat) (hj : j ≤ c) :
    (Instr.slice k.ty (.slice A n c) none (some (.int .i64 (j : Int))) none).run P w = .ok (.slice A j c) w := by
  have he : P.elem k.ty = k.el := by simp [Program.elem, k.under]
  have ht' : P.underlying k.ty = some (.slice (P.elem k.ty)) := by rw [he]; exact k.under
  rw [run_slice_h w k.ty _ _ _ ht' .i64 _ (by omega) (by omega), he, hs]
  cases A <;> simp [Result.andThen, sliced, Addr.add]
end Go.Proofs.YtddamcmbgbefpaaDoor
