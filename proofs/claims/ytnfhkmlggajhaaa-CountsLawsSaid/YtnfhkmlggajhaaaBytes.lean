/-
  Words for bytes that this project's walks share: a row of bytes, a row of the call's own, a string out of a list.
-/
import Derived.Test.YtnfhkmlggajhaaaAppend
import Derived.Laws.BytesArg
import Derived.Lib.AppendStr
import Derived.OneCell
namespace Go.Proofs.Ytnfhkmlggajhaaa
open Go.RowKit

theorem byte_info : (Try.prog.info? 5).map (fun i => (i.zero, i.size, i.bytes)) = some (some (.int .u8 0), 1, 1) := by kernel_rfl
/-- Bytes as cells. -/
abbrev bytes (l : List UInt8) : List Value := l.map fun c => Value.int .u8 (c.toNat : Int)
theorem bytes_len (l : List UInt8) : (bytes l).length = l.length * 1 := by simp
theorem bytes_one (l : List UInt8) : ∀ u ∈ bytes l, u.oneCell' = true := by
  intro u hu
  obtain ⟨x, _, rfl⟩ := List.mem_map.1 hu
  rfl
theorem bytes_get {l : List UInt8} {k : Nat} (h : k < l.length) : (bytes l)[k]? = some (.int .u8 ((l.getD k 0).toNat : Int)) := by
  simp [bytes, List.getD, List.getElem?_eq_getElem h]
theorem bytes_append (a b : List UInt8) : bytes a ++ bytes b = bytes (a ++ b) := by simp
theorem bytes_inj {a b : List UInt8} (h : bytes a = bytes b) : a = b := by
  induction a generalizing b with
  | nil => cases b with
    | nil => rfl
    | cons y r => simp at h
  | cons x l ih => cases b with
    | nil => simp at h
    | cons y r =>
      simp only [bytes, List.map_cons, List.cons.injEq, Value.int.injEq, true_and] at h
      have e : x = y := UInt8.toNat_inj.1 (by have := h.1; omega)
      rw [e, ih h.2]

/-- A string of bytes. -/
def str (l : List UInt8) : ByteArray := ⟨l.toArray⟩
theorem str_size (l : List UInt8) : (str l).size = l.length := by simp [str, ByteArray.size]
theorem str_data (l : List UInt8) : (str l).data.toList = l := by simp [str]
theorem str_toList (l : List UInt8) : (str l).toList = l := by rw [ByteArray.toList_eq, str_data]
theorem str_of (s : ByteArray) : str s.data.toList = s := by simp [str]
theorem str_drop (l : List UInt8) (k : Nat) : (str l).extract k l.length = str (l.drop k) := by
  rw [str, ByteArray.extract_mk, str, List.take_of_length_le (by simp)]
theorem str_take (l : List UInt8) (k : Nat) : (str l).extract 0 k = str (l.take k) := by
  rw [str, ByteArray.extract_mk, str]
  simp
theorem str_get (l : List UInt8) (k : Nat) (h : k < l.length) : (str l)[k]'(by rw [str_size]; exact h) = l.getD k 0 := by
  show l.toArray[k]'(by simpa using h) = _
  simp [List.getD, List.getElem?_eq_getElem h]
theorem str_inj {a b : List UInt8} (h : str a = str b) : a = b := by
  have := congrArg (fun s : ByteArray => s.data.toList) h
  simpa [str_data] using this
theorem strCells_str (l : List UInt8) : Lib.strCells (str l) = bytes l := by simp [Lib.strCells, str_data]

/-- A row of bytes of the call's own. -/
def OwnB (w : World) (base : Nat) (v : Value) (l : List UInt8) : Prop := w.ownsRow base 5 1 v l.length (bytes l)
theorem OwnB.row {w : World} {base : Nat} {v : Value} {l : List UInt8} (h : OwnB w base v l) : w.ownsRow base 5 1 v l.length (bytes l) := h
theorem OwnB.of_row {w : World} {base n : Nat} {v : Value} {l : List UInt8} (h : w.ownsRow base 5 1 v n (bytes l)) : OwnB w base v l := by
  have := h.1
  rw [bytes_len] at this
  obtain rfl : l.length = n := by omega
  exact h
theorem OwnB.form {w : World} {base : Nat} {v : Value} {l : List UInt8} (h : OwnB w base v l) : ∃ A c, v = .slice A l.length c ∧ l.length ≤ c ∧ c ≤ maxLen ∧ RowAt w w.heap.size A (bytes l) ∧ (∀ k, v.ownBlock = some k → base ≤ k ∧ k < w.heap.size) := by
  obtain ⟨A, c, rfl, hc⟩ := own_form h
  refine ⟨A, c, rfl, hc, ?_, RowAt.of_own h, World.ownsRow.lt h⟩
  rcases h.2 with ⟨hv, _⟩ | ⟨g, cap, cur, hv, _, _, _, hm, _⟩
  · injection hv with _ _ h3
    subst h3
    exact Nat.zero_le _
  · injection hv with _ _ h3
    subst h3
    exact hm
/-- A row that reads as these bytes, with its room: what a call that only reads is handed. -/
structure RdB (w : World) (B : Nat) (A : Option Addr) (c : Nat) (l : List UInt8) : Prop where
  row : RowAt w B A (bytes l)
  room : l.length ≤ c
  cap : c ≤ maxLen
theorem RdB.keep {w w' : World} {B : Nat} {A : Option Addr} {c : Nat} {l : List UInt8} (h : RdB w B A c l) (hk : ∀ p : Addr, p.block < B → w'.cell? p = w.cell? p) : RdB w' B A c l := ⟨h.row.keep hk, h.room, h.cap⟩
theorem RdB.below {w w' : World} {B : Nat} {A : Option Addr} {c : Nat} {l : List UInt8} (h : RdB w B A c l) (hb : Below B w w') : RdB w' B A c l := ⟨h.row.below hb, h.room, h.cap⟩
theorem RdB.more {w : World} {B B' : Nat} {A : Option Addr} {c : Nat} {l : List UInt8} (h : RdB w B A c l) (hB : B ≤ B') : RdB w B' A c l := ⟨h.row.more hB, h.room, h.cap⟩
theorem OwnB.read {w : World} {base : Nat} {v : Value} {l : List UInt8} (h : OwnB w base v l) : ∃ A c, v = .slice A l.length c ∧ RdB w w.heap.size A c l := by
  obtain ⟨A, c, h1, h2, h3, h4, _⟩ := h.form
  exact ⟨A, c, h1, h4, h2, h3⟩
theorem RowAt.bytes_at {w : World} {B : Nat} {A : Option Addr} {l : List UInt8} (h : RowAt w B A (bytes l)) (hp : 0 < l.length) :
    ∃ b o, A = some ⟨b, o, none⟩ ∧ b < B ∧ ∀ k, k < l.length → w.cell? ⟨b, o + k, none⟩ = some (.int .u8 ((l.getD k 0).toNat : Int)) := by
  rcases h with h | ⟨b, o, h1, h2, h3⟩
  · have : l = [] := by simpa [bytes] using h
    subst this; simp at hp
  · exact ⟨b, o, h1, h2, fun k hk => h3 k _ (bytes_get hk)⟩

/-- What comes back is a row of the call's own that holds l; below base all is as it was. -/
def RetB (base : Nat) (w : World) (l : List UInt8) (e : Ending) (w' : World) : Prop := ∃ v, e = .returned v ∧ OwnB w' base v l ∧ Below base w w'

theorem heap_new (w : World) (o : Obj) (g : Nat) (h : g = w.heap.size) : (w.alloc o).heap[g]? = some o := by subst h; exact heap_alloc_new w o
theorem RowAt.of_block {w : World} {g : Nat} {cs : Array Value} {t : TypeId} {f : Nat × Nat} (h : w.heap[g]? = some (.cells cs t f)) : RowAt w (g + 1) (some ⟨g, 0, none⟩) cs.toList := by
  refine .inr ⟨g, 0, rfl, by omega, fun k u hu => ?_⟩
  rw [cell_of_row _ _ _ cs t f h]
  simpa using hu
theorem own_none (w : World) (e : TypeId) (size : Nat) : (w.alloc (.cells #[] e)).ownsRow w.heap.size e size (.slice (some ⟨w.heap.size, 0, none⟩) 0 0) 0 [] :=
  ⟨by simp, .inr ⟨w.heap.size, 0, #[], rfl, Nat.le_refl _, heap_alloc_new w _, Nat.le_refl _, Nat.zero_le _, by simp, by simp⟩⟩
theorem own_base {w : World} {base : Nat} {e : TypeId} {size n : Nat} {v : Value} {xs : List Value} (h : w.ownsRow base e size v n xs) : ∀ k, v.ownBlock = some k → base ≤ k := fun k hk => (World.ownsRow.lt h k hk).1
/-- Old cells and marks read as they did. -/
theorem bcell {B : Nat} {W w1 : World} (hb : Below B W w1) : (∀ b o, b < B → w1.cell? ⟨b, o, none⟩ = W.cell? ⟨b, o, none⟩) ∧ (∀ b o, b < B → w1.frozen? ⟨b, o, none⟩ = W.frozen? ⟨b, o, none⟩) :=
  ⟨fun b o h => hb.cell (p := ⟨b, o, none⟩) h, fun b o h => hb.frozen (p := ⟨b, o, none⟩) h⟩
/-- What grew by no row of ours is, below its first new block, as it was; and back. -/
theorem grown_none {w w' : World} (h : w.grownBy w' none) : Below w.heap.size w w' := (Below.refl _ _).grown h (Nat.le_refl _) (fun k hk => by cases hk)
theorem grown_of_below {w w' : World} (h : Below w.heap.size w w') (row : Option Nat) : w.grownBy w' row := ⟨h.os, h.tape, h.output, h.size, fun k hk _ => h.block k hk⟩

theorem RowAt.ints_at {w : World} {B : Nat} {A : Option Addr} {l : List Int} (h : RowAt w B A (ints l)) (hp : 0 < l.length) :
    ∃ b o, A = some ⟨b, o, none⟩ ∧ b < B ∧ ∀ k, k < l.length → w.cell? ⟨b, o + k, none⟩ = some (.int .i64 (l.getD k 0)) := by
  rcases h with h | ⟨b, o, h1, h2, h3⟩
  · have : l = [] := by simpa [ints] using h
    subst this; simp at hp
  · exact ⟨b, o, h1, h2, fun k hk => h3 k _ (ints_get hk)⟩
/-- Strings as cells. -/
abbrev strs (l : List (List UInt8)) : List Value := l.map fun s => Value.string (str s)
theorem strs_get {l : List (List UInt8)} {k : Nat} (h : k < l.length) : (strs l)[k]? = some (.string (str (l.getD k []))) := by
  simp [strs, List.getD, List.getElem?_eq_getElem h]
theorem RowAt.strs_at {w : World} {B : Nat} {A : Option Addr} {l : List (List UInt8)} (h : RowAt w B A (strs l)) (hp : 0 < l.length) :
    ∃ b o, A = some ⟨b, o, none⟩ ∧ b < B ∧ ∀ k, k < l.length → w.cell? ⟨b, o + k, none⟩ = some (.string (str (l.getD k []))) := by
  rcases h with h | ⟨b, o, h1, h2, h3⟩
  · have : l = [] := by simpa [strs] using h
    subst this; simp at hp
  · exact ⟨b, o, h1, h2, fun k hk => h3 k _ (strs_get hk)⟩
/-- A block of one byte that has just been made. -/
theorem byte_row (w : World) (x : Int) (c : UInt8) (h : x = (c.toNat : Int)) : RowAt (w.alloc (.cells #[.int .u8 x] 5)) (w.heap.size + 1) (some ⟨w.heap.size, 0, none⟩) (bytes [c]) := by
  subst h
  exact RowAt.of_block (heap_new w _ _ rfl)
theorem OwnB.alloc {w : World} {base : Nat} {v : Value} {l : List UInt8} (h : OwnB w base v l) (o : Obj) : OwnB (w.alloc o) base v l := World.ownsRow.alloc h o
theorem OwnB.kept {w w' : World} {row : Option Nat} {base : Nat} {v : Value} {l : List UInt8} (h : OwnB w base v l) (hg : w.grownBy w' row) (hne : v.ownBlock = none ∨ v.ownBlock ≠ row) : OwnB w' base v l := World.ownsRow.kept h hg hne
theorem OwnB.lt {w : World} {base : Nat} {v : Value} {l : List UInt8} (h : OwnB w base v l) : ∀ k, v.ownBlock = some k → base ≤ k ∧ k < w.heap.size := World.ownsRow.lt h
/-- What was the call's own before a call that makes new blocks alone is so behind it. -/
theorem OwnB.below {w w' : World} {base : Nat} {v : Value} {l : List UInt8} (h : OwnB w base v l) (hb : Below w.heap.size w w') : OwnB w' base v l :=
  h.kept (grown_of_below hb none) (by cases hv : v.ownBlock <;> simp)
theorem OwnB.mono {w : World} {base base' : Nat} {v : Value} {l : List UInt8} (h : OwnB w base v l) (hb : base' ≤ base) : OwnB w base' v l := by
  obtain ⟨h1, h2⟩ := h
  refine ⟨h1, ?_⟩
  rcases h2 with h2 | ⟨g, cap, cur, hv, hg, r⟩
  · exact .inl h2
  · exact .inr ⟨g, cap, cur, hv, by omega, r⟩

end Go.Proofs.Ytnfhkmlggajhaaa
