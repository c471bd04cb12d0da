/-
  A list that is swept, in its block: whether it has what stands from here on, and what is left of its edges.
-/
import Derived.Test.YtnfhkmlggajhaaaRng
import Derived.Test.YtnfhkmlggajhaaaKind
namespace Go.Proofs.Ytnfhkmlggajhaaa
open Go.RowKit

/-- A list that is swept, in its block. -/
structure SdAt (w : World) (g : Nat) (v : Bool) (s : Value) : Prop where
  c0 : w.cell? ⟨g, 0, none⟩ = some (.bool v)
  c1 : w.cell? ⟨g, 1, none⟩ = some s
  fr : ∀ k, w.frozen? ⟨g, k, none⟩ = false
theorem SdAt.lt {w : World} {g : Nat} {v : Bool} {s : Value} (h : SdAt w g v s) : g < w.heap.size := World.block_lt_of_cell? w _ h.c0
theorem SdAt.below {w w' : World} {g : Nat} {v : Bool} {s : Value} (h : SdAt w g v s) (hb : Below w.heap.size w w') : SdAt w' g v s := by
  obtain ⟨hc, hf⟩ := bcell hb
  have hl := h.lt
  exact ⟨(hc _ _ hl).trans h.c0, (hc _ _ hl).trans h.c1, fun k => (hf _ _ hl).trans (h.fr k)⟩
theorem SdAt.drew {w : World} {g : Nat} {v : Bool} {s : Value} (h : SdAt w g v s) : SdAt w.drew g v s := ⟨h.c0, h.c1, h.fr⟩
theorem SdAt.kept {w w' : World} {row : Option Nat} {g : Nat} {v : Bool} {s : Value} (h : SdAt w g v s) (hg : w.grownBy w' row) (hne : some g ≠ row) : SdAt w' g v s :=
  ⟨hg.cell h.c0 hne, hg.cell h.c1 hne, fun k => (hg.frozen_far ⟨g, k, none⟩ h.lt hne).trans (h.fr k)⟩
theorem SdAt.other {w : World} {g g' k : Nat} {v : Bool} {s u : Value} (h : SdAt w g v s) (hne : g' ≠ g) : SdAt (w.setCell ⟨g', k, none⟩ u) g v s :=
  ⟨set_other h.c0 (addr_block hne) u, set_other h.c1 (addr_block hne) u, fun j => by rw [World.frozen?_setCell]; exact h.fr j⟩
theorem SdAt.set {w : World} {g : Nat} {v v' : Bool} {s s' : Value} (h : SdAt w g v s) : SdAt ((w.setCell ⟨g, 0, none⟩ (.bool v')).setCell ⟨g, 1, none⟩ s') g v' s' :=
  ⟨set_other (set_same h.c0 _) (addr_off (by decide)) _, set_same (set_other h.c1 (addr_off (by decide)) _) _, fun j => by rw [World.frozen?_setCell, World.frozen?_setCell]; exact h.fr j⟩
theorem SdAt.low {w w' : World} {x : Obj} {g B : Nat} {v : Bool} {s : Value} (h : SdAt w g v s) (hb : Below B (w.alloc x) w') (hg : g < B) : SdAt w' g v s := by
  have h2 := h.below (below_new w x)
  obtain ⟨hc, hf⟩ := bcell hb
  exact ⟨(hc _ _ hg).trans h2.c0, (hc _ _ hg).trans h2.c1, fun k => (hf _ _ hg).trans (h2.fr k)⟩
theorem sdAt_new (w : World) (v : Bool) (s : Value) (t : TypeId) : SdAt (w.alloc (.cells #[.bool v, s] t)) w.heap.size v s := by
  have h := heap_new w (.cells #[.bool v, s] t) _ rfl
  refine ⟨?_, ?_, fun k => ?_⟩
  · rw [cell_of_row _ _ _ _ _ _ h]; rfl
  · rw [cell_of_row _ _ _ _ _ _ h]; rfl
  · unfold World.frozen?; rw [h]; simp
theorem sdAt_new1 (w : World) (x : Obj) (v : Bool) (s : Value) (t : TypeId) : SdAt ((w.alloc x).alloc (.cells #[.bool v, s] t)) (w.heap.size + 1) v s := by
  have := sdAt_new (w.alloc x) v s t
  rwa [size1] at this
theorem below_of_drew {w w' : World} (h : Below w.drew.heap.size w.drew w') : Below w.heap.size w w' := ⟨h.os, h.tape, h.output, h.size, h.block⟩
end Go.Proofs.Ytnfhkmlggajhaaa
