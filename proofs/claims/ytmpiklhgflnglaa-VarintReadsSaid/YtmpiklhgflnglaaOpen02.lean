/-
  What came in at the second layer's law on readers, opened.
-/
import Derived.Test.YtmpiklhgflnglaaOpen
import Derived.Test.YtmpiklhgflnglaaLaw02D
namespace Go.Proofs.Ytmpiklhgflnglaa
open Go.ChangeShapes Go.WideShapes Go.ChangeAt Go.RowKit

theorem cells_int : Try.prog.cellsOf 3 = 1 := by kernel_rfl
theorem trod_i64 {H : Type} {enc : TypeId × Value → H} {W : World} {n : Nat} {cs : List Value} {y : DataW H × List MemPlace} (h : DataW.trod enc Try.prog W 0 (fun _ => true) true n 3 cs = some y) :
    ∃ x : Int, cs = [.int .i64 x] ∧ -9223372036854775808 ≤ x ∧ x ≤ 9223372036854775807 := by
  obtain ⟨x, rfl, -, hw⟩ := DataW.trod_int Try.underlying3 h
  exact ⟨x, rfl, wf_bounds hw⟩
theorem in_dos {H : Type} {enc : TypeId × Value → H} {W : World} {base : Nat} {v : Value} {d : DataW H} {p : List MemPlace}
    (hok : Value.okWide Try.prog W .any base 39 v) (h : DataW.Trod enc Try.prog W 0 (fun _ => true) true 39 v d p) :
    ∃ (A : Option Addr) (c : Nat) (l : List (Int × Int × Int)), v = .slice A l.length c ∧ RowAt W W.heap.size A (dos l) ∧ (∀ d ∈ l, DoOk d) ∧ l.length ≤ c ∧ c ≤ maxLen := by
  refine in_slice doCells DoOk Try.underlying39 (k := 3) (by kernel_rfl) (by omega) (fun n cs y hl hy => ?_) hok h
  obtain ⟨y0, y1, y2, n', -, -, h0, h1, h2⟩ := Go.Deep.trod_struct3 Try.underlying44 hy
  rw [cells_int] at h0 h1 h2
  match cs, hl with
  | [a, b, c], _ =>
    obtain ⟨x0, e0, w0⟩ := trod_i64 h0
    obtain ⟨x1, e1, w1⟩ := trod_i64 h1
    obtain ⟨x2, e2, w2⟩ := trod_i64 h2
    simp at e0 e1 e2
    subst e0 e1 e2
    exact ⟨(x0, x1, x2), rfl, w0, w1, w2⟩
end Go.Proofs.Ytmpiklhgflnglaa
