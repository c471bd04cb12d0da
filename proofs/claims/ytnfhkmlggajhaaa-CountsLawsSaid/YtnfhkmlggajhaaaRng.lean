/-
  Ranges as values of the program: named texts, a block that holds one, two held against each other, one that came in.
-/
import Derived.Test.YtnfhkmlggajhaaaMore
import Derived.Test.YtnfhkmlggajhaaaSpanPure
import Derived.Laws.StructEq
import Derived.Laws.Tables
namespace Go.Proofs.Ytnfhkmlggajhaaa
open Go.RowKit

/-- A range as a value, its texts named. -/
structure IsR (r : Rng) (S T : ByteArray) (o : Bool) : Prop where
  lo : str r.lo = S
  hi : str r.hi = T
  op : r.op = o
theorem IsR.mk' (r : Rng) : IsR r (str r.lo) (str r.hi) r.op := ⟨rfl, rfl, rfl⟩
theorem below_set3 {B g : Nat} {a w : World} (h : Below B a w) (hg : B ≤ g) (u v x : Value) : Below B a (((w.setCell ⟨g, 0, none⟩ u).setCell ⟨g, 1, none⟩ v).setCell ⟨g, 2, none⟩ x) :=
  ((h.setCell (p := ⟨g, 0, none⟩) hg u).setCell (p := ⟨g, 1, none⟩) hg v).setCell (p := ⟨g, 2, none⟩) hg x
/-- A range lies in block g. -/
def RgAt (w : World) (g : Nat) (S T : ByteArray) (o : Bool) : Prop := w.cell? ⟨g, 0, none⟩ = some (.string S) ∧ w.cell? ⟨g, 1, none⟩ = some (.string T) ∧ w.cell? ⟨g, 2, none⟩ = some (.bool o) ∧ ∀ k, w.frozen? ⟨g, k, none⟩ = false
theorem RgAt.lt {w : World} {g : Nat} {S T : ByteArray} {o : Bool} (h : RgAt w g S T o) : g < w.heap.size := World.block_lt_of_cell? w _ h.1
theorem RgAt.drew {w : World} {g : Nat} {S T : ByteArray} {o : Bool} (h : RgAt w g S T o) : RgAt w.drew g S T o := h
theorem RgAt.below {w w' : World} {g : Nat} {S T : ByteArray} {o : Bool} (h : RgAt w g S T o) (hb : Below w.heap.size w w') : RgAt w' g S T o := by
  obtain ⟨hc, hf⟩ := bcell hb
  have hl := h.lt
  obtain ⟨h0, h1, h2, h3⟩ := h
  exact ⟨(hc _ _ hl).trans h0, (hc _ _ hl).trans h1, (hc _ _ hl).trans h2, fun k => (hf _ _ hl).trans (h3 k)⟩
theorem RgAt.keep {w : World} {g : Nat} {S T : ByteArray} {o : Bool} (h : RgAt w g S T o) (x : Obj) : RgAt (w.alloc x) g S T o := h.below ((Below.refl _ _).alloc (Nat.le_refl _) x)
theorem rgAt_new (w : World) (S T : ByteArray) (o : Bool) (t : TypeId) : RgAt (w.alloc (.cells #[.string S, .string T, .bool o] t)) w.heap.size S T o := by
  have h := heap_new w (.cells #[.string S, .string T, .bool o] t) _ rfl
  refine ⟨?_, ?_, ?_, fun k => ?_⟩
  · rw [cell_of_row _ _ _ _ _ _ h]; rfl
  · rw [cell_of_row _ _ _ _ _ _ h]; rfl
  · rw [cell_of_row _ _ _ _ _ _ h]; rfl
  · unfold World.frozen?; rw [h]; simp
theorem set_other {w : World} {a b : Addr} {u : Value} (h : w.cell? b = some u) (hne : a ≠ b) (v : Value) : (w.setCell a v).cell? b = some u := (World.cell?_setCell_other w a b v hne).trans h
theorem set_same {w : World} {a : Addr} {u : Value} (h : w.cell? a = some u) (v : Value) : (w.setCell a v).cell? a = some v := World.cell?_setCell_same w a v h
theorem addr_block {g g' i j : Nat} (h : g ≠ g') : (⟨g, i, none⟩ : Addr) ≠ ⟨g', j, none⟩ := fun e => h (by injection e)
theorem addr_off {g i j : Nat} (h : i ≠ j) : (⟨g, i, none⟩ : Addr) ≠ ⟨g, j, none⟩ := fun e => h (by injection e)
theorem RgAt.other {w : World} {g : Nat} {S T : ByteArray} {o : Bool} (h : RgAt w g S T o) {g' k : Nat} (hne : g' ≠ g) (v : Value) : RgAt (w.setCell ⟨g', k, none⟩ v) g S T o :=
  ⟨set_other h.1 (addr_block hne) v, set_other h.2.1 (addr_block hne) v, set_other h.2.2.1 (addr_block hne) v, fun j => by rw [World.frozen?_setCell]; exact h.2.2.2 j⟩
theorem RgAt.set0 {w : World} {g : Nat} {S T : ByteArray} {o : Bool} (h : RgAt w g S T o) (X : ByteArray) : RgAt (w.setCell ⟨g, 0, none⟩ (.string X)) g X T o :=
  ⟨set_same h.1 _, set_other h.2.1 (addr_off (i := 0) (j := 1) (by decide)) _, set_other h.2.2.1 (addr_off (i := 0) (j := 2) (by decide)) _, fun j => by rw [World.frozen?_setCell]; exact h.2.2.2 j⟩
theorem RgAt.set1 {w : World} {g : Nat} {S T : ByteArray} {o : Bool} (h : RgAt w g S T o) (X : ByteArray) : RgAt (w.setCell ⟨g, 1, none⟩ (.string X)) g S X o :=
  ⟨set_other h.1 (addr_off (i := 1) (j := 0) (by decide)) _, set_same h.2.1 _, set_other h.2.2.1 (addr_off (i := 1) (j := 2) (by decide)) _, fun j => by rw [World.frozen?_setCell]; exact h.2.2.2 j⟩
theorem RgAt.set2 {w : World} {g : Nat} {S T : ByteArray} {o : Bool} (h : RgAt w g S T o) (p : Bool) : RgAt (w.setCell ⟨g, 2, none⟩ (.bool p)) g S T p :=
  ⟨set_other h.1 (addr_off (i := 2) (j := 0) (by decide)) _, set_other h.2.1 (addr_off (i := 2) (j := 1) (by decide)) _, set_same h.2.2.1 _, fun j => by rw [World.frozen?_setCell]; exact h.2.2.2 j⟩
theorem RgAt.set3 {w : World} {g : Nat} {S T : ByteArray} {o : Bool} (h : RgAt w g S T o) (X Y : ByteArray) (p : Bool) : RgAt (((w.setCell ⟨g, 0, none⟩ (.string X)).setCell ⟨g, 1, none⟩ (.string Y)).setCell ⟨g, 2, none⟩ (.bool p)) g X Y p := ((h.set0 X).set1 Y).set2 p
theorem RgAt.other3 {w : World} {g : Nat} {S T : ByteArray} {o : Bool} (h : RgAt w g S T o) {g' : Nat} (hne : g' ≠ g) (x y z : Value) : RgAt (((w.setCell ⟨g', 0, none⟩ x).setCell ⟨g', 1, none⟩ y).setCell ⟨g', 2, none⟩ z) g S T o := ((h.other hne x).other hne y).other hne z
theorem size1 (w : World) (o : Obj) : (w.alloc o).heap.size = w.heap.size + 1 := by simp

theorem rgAt_new1 (w : World) (x : Obj) (S T : ByteArray) (o : Bool) (t : TypeId) : RgAt ((w.alloc x).alloc (.cells #[.string S, .string T, .bool o] t)) (w.heap.size + 1) S T o := by
  have := rgAt_new (w.alloc x) S T o t
  rwa [size1] at this
theorem rgAt_new2 (w : World) (x y : Obj) (S T : ByteArray) (o : Bool) (t : TypeId) : RgAt (((w.alloc x).alloc y).alloc (.cells #[.string S, .string T, .bool o] t)) (w.heap.size + 1 + 1) S T o := by
  have := rgAt_new ((w.alloc x).alloc y) S T o t
  rwa [size1, size1] at this
/-- A range lies in block g, and below the first block of a call all is as it was: what stays so through a drawn statement. -/
abbrev HeldR (a : World) (g : Nat) (S T : ByteArray) (o : Bool) (w : World) : Prop := (w.cell? ⟨g, 0, none⟩ = some (.string S) ∧ w.cell? ⟨g, 1, none⟩ = some (.string T) ∧ w.cell? ⟨g, 2, none⟩ = some (.bool o) ∧ ∀ k, w.frozen? ⟨g, k, none⟩ = false) ∧ Below a.heap.size a w
theorem heldR_call {a w w' : World} {g : Nat} {S T : ByteArray} {o : Bool} (h : HeldR a g S T o w) (hb : Below w.heap.size w w') : HeldR a g S T o w' :=
  ⟨RgAt.below (w := w) h.1 hb, h.2.trans (hb.mono h.2.size)⟩
theorem heldR_alloc {a w : World} {g : Nat} {S T : ByteArray} {o : Bool} (h : HeldR a g S T o w) (x : Obj) : HeldR a g S T o (w.alloc x) := ⟨RgAt.keep (w := w) h.1 x, h.2.alloc h.2.size x⟩
theorem heldR_drew {a w : World} {g : Nat} {S T : ByteArray} {o : Bool} (h : RgAt w g S T o) (hb : Below a.heap.size a w) : HeldR a g S T o w.drew := ⟨h, hb.drew⟩
theorem heldR_set3 {a w : World} {g g' : Nat} {S T : ByteArray} {o : Bool} (h : HeldR a g S T o w) (hg : g < g') (ha : a.heap.size ≤ g') (x y z : Value) : HeldR a g S T o (((w.setCell ⟨g', 0, none⟩ x).setCell ⟨g', 1, none⟩ y).setCell ⟨g', 2, none⟩ z) :=
  ⟨RgAt.other3 (w := w) h.1 (by omega) x y z, below_set3 h.2 ha x y z⟩
/-- The same for some ranges, each in its block. -/
def HeldL (a : World) : List (Nat × ByteArray × ByteArray × Bool) → World → Prop
  | [], w => Below a.heap.size a w
  | (g, S, T, o) :: l, w => RgAt w g S T o ∧ HeldL a l w
theorem heldL_size {a w : World} : ∀ {l : List (Nat × ByteArray × ByteArray × Bool)}, HeldL a l w → Below a.heap.size a w
  | [], h => h
  | _ :: _, h => heldL_size h.2
theorem heldL_call {a w w' : World} (hb : Below w.heap.size w w') : ∀ {l : List (Nat × ByteArray × ByteArray × Bool)}, HeldL a l w → HeldL a l w'
  | [], h => Below.trans h (hb.mono (Below.size h))
  | _ :: _, h => ⟨h.1.below hb, heldL_call hb h.2⟩
theorem heldL_drew {a w : World} : ∀ {l : List (Nat × ByteArray × ByteArray × Bool)}, HeldL a l w → HeldL a l w.drew
  | [], h => Below.drew h
  | _ :: _, h => ⟨h.1.drew, heldL_drew h.2⟩
theorem heldL_alloc {a w : World} (x : Obj) : ∀ {l : List (Nat × ByteArray × ByteArray × Bool)}, HeldL a l w → HeldL a l (w.alloc x)
  | [], h => Below.alloc h (Below.size h) x
  | _ :: _, h => ⟨h.1.keep x, heldL_alloc x h.2⟩
/-- Two that came in, as a call boxes them. -/
theorem heldL_two (w : World) (S T U V : ByteArray) (o p : Bool) (t : TypeId) : HeldL w [(w.heap.size, S, T, o), (w.heap.size + 1, U, V, p)] ((w.alloc (.cells #[.string S, .string T, .bool o] t)).alloc (.cells #[.string U, .string V, .bool p] t)) :=
  ⟨(rgAt_new w S T o t).keep _, rgAt_new1 w _ U V p t, ((Below.refl w.heap.size w).alloc (Nat.le_refl _) _).alloc (by simp) _⟩
theorem heldL_one (w : World) (S T : ByteArray) (o : Bool) (t : TypeId) : HeldL w [(w.heap.size, S, T, o)] (w.alloc (.cells #[.string S, .string T, .bool o] t)) :=
  ⟨rgAt_new w S T o t, (Below.refl w.heap.size w).alloc (Nat.le_refl _) _⟩

end Go.Proofs.Ytnfhkmlggajhaaa
