/-
  What the program's functions read of the library's own variables: strconv's two errors, its table of powers of ten, and bytealg's number.
-/
import Derived.Test.YtddamcmbgbefpaaDoorMaxAt
import Derived.Lib.LaidTab
import Derived.Lib.ItoaNum
namespace Go.Proofs.YtddamcmbgbefpaaDoor
open Go.RowKit

theorem var_lt {P : Program} {w : World} {n : String} {cs : Array Value} (h : w.var? P n = some cs) : ∃ g, P.globalNamed n = some g ∧ g < w.heap.size := by
  unfold World.var? at h
  cases hg : P.globalNamed n with
  | none => simp [hg] at h
  | some g =>
    refine ⟨g, rfl, ?_⟩
    rcases Nat.lt_or_ge g w.heap.size with h' | h'
    · exact h'
    · simp [hg, Array.getElem?_eq_none h'] at h
theorem var_below {P : Program} {w w' : World} {B : Nat} {n : String} {cs : Array Value} (h : w.var? P n = some cs) (hb : Below B w w') (hB : w.heap.size ≤ B) : w'.var? P n = some cs := by
  obtain ⟨g, hg, hlt⟩ := var_lt h
  unfold World.var? at h ⊢
  rw [hg] at h ⊢
  simp only [Option.bind_some] at h ⊢
  rw [hb.block g (by omega)]
  exact h
structure SysAt (w : World) : Prop where
  max : MaxAt w
  syn : ∃ t p, w.var? Tryd.prog "strconv.ErrSyntax" = some #[.iface t p]
  rng : ∃ t p, w.var? Tryd.prog "strconv.ErrRange" = some #[.iface t p]
  pow : Lib.TabIs Tryd.prog w "internal/strconv.uint64pow10" .u64 Lib.pow10Tab
theorem SysAt.below {w w' : World} {B : Nat} (h : SysAt w) (hb : Below B w w') (hB : w.heap.size ≤ B) : SysAt w' := by
  refine ⟨h.max.below hb hB, ?_, ?_, var_below h.pow hb hB⟩
  · obtain ⟨t, p, h⟩ := h.syn
    exact ⟨t, p, var_below h hb hB⟩
  · obtain ⟨t, p, h⟩ := h.rng
    exact ⟨t, p, var_below h hb hB⟩
theorem SysAt.call {w w' : World} (h : SysAt w) (hb : Below w.heap.size w w') : SysAt w' := h.below hb (Nat.le_refl _)
end Go.Proofs.YtddamcmbgbefpaaDoor
