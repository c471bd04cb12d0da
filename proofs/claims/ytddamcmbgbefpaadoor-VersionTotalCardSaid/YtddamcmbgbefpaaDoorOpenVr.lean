/-
  A version that came in; versions that came in as a slice.
-/
import Derived.Test.YtddamcmbgbefpaaDoorFrame
import Derived.Test.YtddamcmbgbefpaaDoorOpen
import Derived.Test.YtddamcmbgbefpaaDoorVrA
import Derived.Lib.SmallJoins
import Derived.Deep.Strs
namespace Go.Proofs.YtddamcmbgbefpaaDoor
open Go.ChangeShapes Go.WideShapes Go.ChangeAt Go.RowKit Go.Joins

set_option maxRecDepth 100000 in
theorem in_vr {H : Type} {enc : TypeId × Value → H} {W : World} {base : Nat} {v : Value} {d : DataW H} {p : List MemPlace} (hok : Value.okWide Tryd.prog W .any base 23 v) (h : DataW.Trod enc Tryd.prog W 0 (fun _ => true) true 23 v d p) :
    ∃ r : Vr, v = .agg #[.int .i64 r.rep, .int .i64 r.cnt] := by
  obtain ⟨v0, v1, y0, y1, n, rfl, -, -, h0, h1⟩ := open_agg2 Tryd.underlying23 (by kernel_rfl) (by kernel_rfl) hok h
  obtain ⟨i, e0, -, w0⟩ := DataW.trod_int Tryd.underlying3 h0
  obtain ⟨j, e1, -, w1⟩ := DataW.trod_int Tryd.underlying3 h1
  simp only [List.cons.injEq, and_true] at e0 e1
  subst e0 e1
  exact ⟨⟨i, j⟩, rfl⟩
theorem vcells_int : Tryd.prog.cellsOf 3 = 1 := by kernel_rfl
set_option maxRecDepth 100000 in
theorem vr_of {H : Type} {enc : TypeId × Value → H} {W : World} (n : Nat) (cs : List Value) (y : DataW H × List MemPlace) (hl : cs.length = 2)
    (hy : DataW.trod enc Tryd.prog W 0 (fun _ => true) true n 23 cs = some y) : ∃ x : Vr, cs = vrCells x ∧ True := by
  obtain ⟨xs, n', _, rfl, -, hlen, hf⟩ := DataW.trod_struct Tryd.underlying23 hy
  match xs, hlen with
  | [y0, y1], _ =>
    have h0 := hf 0 _ rfl
    have h1 := hf 1 _ rfl
    match cs, hl with
    | [a, b], _ =>
      have h0 : DataW.trod enc Tryd.prog W 0 (fun _ => true) true n' 3 (([a, b].drop 0).take (Tryd.prog.cellsOf 3)) = some y0 := by simpa using h0
      have h1 : DataW.trod enc Tryd.prog W 0 (fun _ => true) true n' 3 (([a, b].drop 1).take (Tryd.prog.cellsOf 3)) = some y1 := by simpa using h1
      rw [vcells_int] at h0 h1
      obtain ⟨i, e0, -, w0⟩ := DataW.trod_int Tryd.underlying3 h0
      obtain ⟨j, e1, -, w1⟩ := DataW.trod_int Tryd.underlying3 h1
      simp at e0 e1
      subst e0 e1
      exact ⟨⟨i, j⟩, rfl, trivial⟩
set_option maxRecDepth 100000 in
theorem in_vrs {H : Type} {enc : TypeId × Value → H} {W : World} {base : Nat} {v : Value} {d : DataW H} {p : List MemPlace}
    (hok : Value.okWide Tryd.prog W .any base 35 v) (h : DataW.Trod enc Tryd.prog W 0 (fun _ => true) true 35 v d p) :
    ∃ (A : Option Addr) (c : Nat) (l : List Vr), v = .slice A l.length c ∧ kVr.Rd W W.heap.size A c l := by
  obtain ⟨A, c, l, rfl, h1, -, h2, h3⟩ := in_slice vrCells (fun _ => True) Tryd.underlying35 (k := 2) (by kernel_rfl) (by omega) vr_of hok h
  exact ⟨A, c, l, rfl, h1, h2, h3⟩
end Go.Proofs.YtddamcmbgbefpaaDoor
