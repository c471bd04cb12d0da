/-
  A walk through a statement that draws its order, once, in the text's order, where all its operations keep a condition on the world: reads, and calls that make memory of their own.
-/
import Derived.Deep.Quiet
import Derived.BigQuiet
import Derived.Deep.QuietTactic
import Derived.Test.YtnfhkmlggajhaaaMore
namespace Go.Proofs.Ytnfhkmlggajhaaa
open Go.RowKit

section
variable {P : Program} {C : World → Prop} {a : Act} {o : Oper}
theorem q_region {id : Nat} {Q : Exit → Act → World → Prop} {a : Act} {w : World} {l : List Oper} (C : World → Prop) (hm : P.follows .mixedOrders = true) (hB : Region.lexB .any l.toArray = true) (hC : C w.drew)
    (h : wpQuiet P l.toArray C (fun a' => ∀ w', C w' → Q .normal a' w') l a) : (Code.region id l.toArray true).wp P Q a w :=
  wp_region_quiet (C := C) hm hB hC (by simpa using h)
theorem q_take {v : Value} {K : Act → Prop} (hy : ∀ w, C w → (execOp a.eval o).run P w = .ok (.value v) w) (hk : K (a.put o.dst v)) : o.quiet P a C K :=
  ⟨v, fun w hC => by unfold Oper.quietAt; rw [hy w hC]; exact ⟨rfl, rfl⟩, hk⟩
theorem q_call {v : Value} {K : Act → Prop} {f : FuncId} {args : Array Value} (hc : ∀ w, C w → Calls P f args w fun e w' => e = .returned v ∧ C w') (he : ∀ w, C w → (execOp a.eval o).run P w = .ok (.enter f args) w) (hk : K (a.put o.dst v)) : o.quiet P a C K :=
  ⟨v, fun w hC => by unfold Oper.quietAt; rw [he w hC]; exact ⟨rfl, hc w hC⟩, hk⟩
end

/-- Some cells hold these values, and below the first block of a call all is as it was: what stays so through a drawn statement. -/
def CellL (a : World) : List (Addr × Value) → World → Prop
  | [], w => Below a.heap.size a w
  | (p, v) :: l, w => w.cell? p = some v ∧ CellL a l w
theorem cellL_size {a w : World} : ∀ {l : List (Addr × Value)}, CellL a l w → Below a.heap.size a w
  | [], h => h
  | _ :: _, h => cellL_size h.2
theorem cellL_call {a w w' : World} (hb : Below w.heap.size w w') : ∀ {l : List (Addr × Value)}, CellL a l w → CellL a l w'
  | [], h => Below.trans h (hb.mono (Below.size h))
  | (p, _) :: _, h => ⟨(hb.cell (p := p) (World.block_lt_of_cell? w p h.1)).trans h.1, cellL_call hb h.2⟩
theorem cellL_drew {a w : World} : ∀ {l : List (Addr × Value)}, CellL a l w → CellL a l w.drew
  | [], h => Below.drew h
  | _ :: _, h => ⟨h.1, cellL_drew h.2⟩
theorem cellL_of {P : Program} {f : FuncId} {args : Array Value} {v : Value} {a : World} {l : List (Addr × Value)} (h : ∀ w, Calls P f args w fun e w' => e = .returned v ∧ Below w.heap.size w w') :
    ∀ w, CellL a l w → Calls P f args w fun e w' => e = .returned v ∧ CellL a l w' := fun w hC => (h w).mono fun _ _ ⟨h1, h2⟩ => ⟨h1, cellL_call h2 hC⟩
theorem cellL_of_same {P : Program} {f : FuncId} {args : Array Value} {v : Value} {a : World} {l : List (Addr × Value)} (h : ∀ w, Calls P f args w fun e w' => e = .returned v ∧ w = w') :
    ∀ w, CellL a l w → Calls P f args w fun e w' => e = .returned v ∧ CellL a l w' := fun w hC => (h w).mono fun _ _ ⟨h1, h2⟩ => ⟨h1, h2 ▸ hC⟩
theorem alloc_keeps (w : World) (x : Obj) : ∀ b o, b < w.heap.size → (w.alloc x).cell? ⟨b, o, none⟩ = w.cell? ⟨b, o, none⟩ := (bcell ((Below.refl w.heap.size w).alloc (Nat.le_refl _) x)).1
end Go.Proofs.Ytnfhkmlggajhaaa
