/-
  Ranges that came in as a slice.
-/
import Derived.Test.YtgoenmgkhdibnaaFrame
import Derived.Test.YtgoenmgkhdibnaaOpen
import Derived.Test.YtgoenmgkhdibnaaRgs
import Derived.Deep.Strs
namespace Go.Proofs.Ytgoenmgkhdibnaa
open Go.ChangeShapes Go.WideShapes Go.ChangeAt Go.RowKit

theorem cells_string : Try.prog.cellsOf 9 = 1 := by kernel_rfl
theorem cells_bool : Try.prog.cellsOf 4 = 1 := by kernel_rfl
theorem in_rngs {H : Type} {enc : TypeId × Value → H} {W : World} {base : Nat} {v : Value} {d : DataW H} {p : List MemPlace}
    (hok : Value.okWide Try.prog W .any base 22 v) (h : DataW.Trod enc Try.prog W 0 (fun _ => true) true 22 v d p) :
    ∃ (A : Option Addr) (c : Nat) (l : List Rng), v = .slice A l.length c ∧ kRng.Rd W W.heap.size A c l := by
  obtain ⟨A, c, l, rfl, h1, -, h2, h3⟩ := in_slice rngCells (fun _ => True) Try.underlying22 (k := 3) (by kernel_rfl) (by omega) (fun n cs y hl hy => by
    obtain ⟨y0, y1, y2, n', -, -, h0, h1, h2⟩ := Go.Deep.trod_struct3 Try.underlying35 hy
    rw [cells_string] at h0 h1
    rw [cells_bool] at h2
    match cs, hl with
    | [a, b, c], _ =>
      obtain ⟨s, e0, -, w0⟩ := DataW.trod_string Try.underlying9 h0
      obtain ⟨t, e1, -, w1⟩ := DataW.trod_string Try.underlying9 h1
      obtain ⟨q, e2, -⟩ := DataW.trod_bool Try.underlying4 h2
      simp at e0 e1 e2
      subst e0 e1 e2
      exact ⟨⟨s.data.toList, t.data.toList, q⟩, by simp only [rngCells, str_of], trivial⟩) hok h
  exact ⟨A, c, l, rfl, h1, h2, h3⟩
end Go.Proofs.Ytgoenmgkhdibnaa
