/-
  Runs that came in as a slice; numbers that came in as a slice (of a Kind).
-/
import Derived.Test.YtnfhkmlggajhaaaFrame
import Derived.Test.YtnfhkmlggajhaaaOpen
import Derived.Test.YtnfhkmlggajhaaaCntA
import Derived.Lib.SmallJoins
import Derived.Deep.Strs
namespace Go.Proofs.Ytnfhkmlggajhaaa
open Go.ChangeShapes Go.WideShapes Go.ChangeAt Go.RowKit Go.Joins

theorem rcells_int : Try.prog.cellsOf 3 = 1 := by kernel_rfl
set_option maxRecDepth 100000 in
theorem rn_of {H : Type} {enc : TypeId × Value → H} {W : World} (n : Nat) (cs : List Value) (y : DataW H × List MemPlace) (hl : cs.length = 2)
    (hy : DataW.trod enc Try.prog W 0 (fun _ => true) true n 26 cs = some y) : ∃ x : Rn, cs = rnCells x ∧ True := by
  obtain ⟨xs, n', _, rfl, -, hlen, hf⟩ := DataW.trod_struct Try.underlying26 hy
  match xs, hlen with
  | [y0, y1], _ =>
    have h0 := hf 0 _ rfl
    have h1 := hf 1 _ rfl
    match cs, hl with
    | [a, b], _ =>
      have h0 : DataW.trod enc Try.prog W 0 (fun _ => true) true n' 3 (([a, b].drop 0).take (Try.prog.cellsOf 3)) = some y0 := by simpa using h0
      have h1 : DataW.trod enc Try.prog W 0 (fun _ => true) true n' 3 (([a, b].drop 1).take (Try.prog.cellsOf 3)) = some y1 := by simpa using h1
      rw [rcells_int] at h0 h1
      obtain ⟨i, e0, -, w0⟩ := DataW.trod_int Try.underlying3 h0
      obtain ⟨j, e1, -, w1⟩ := DataW.trod_int Try.underlying3 h1
      simp at e0 e1
      subst e0 e1
      exact ⟨⟨i, j⟩, rfl, trivial⟩
set_option maxRecDepth 100000 in
theorem in_rns {H : Type} {enc : TypeId × Value → H} {W : World} {base : Nat} {v : Value} {d : DataW H} {p : List MemPlace}
    (hok : Value.okWide Try.prog W .any base 22 v) (h : DataW.Trod enc Try.prog W 0 (fun _ => true) true 22 v d p) :
    ∃ (A : Option Addr) (c : Nat) (l : List Rn), v = .slice A l.length c ∧ kRn.Rd W W.heap.size A c l := by
  obtain ⟨A, c, l, rfl, h1, -, h2, h3⟩ := in_slice rnCells (fun _ => True) Try.underlying22 (k := 2) (by kernel_rfl) (by omega) rn_of hok h
  exact ⟨A, c, l, rfl, h1, h2, h3⟩
theorem it_of {H : Type} {enc : TypeId × Value → H} {W : World} (n : Nat) (cs : List Value) (y : DataW H × List MemPlace) (_ : cs.length = 1)
    (hy : DataW.trod enc Try.prog W 0 (fun _ => true) true n 3 cs = some y) : ∃ x : Int, cs = [.int .i64 x] ∧ True := by
  obtain ⟨i, e0, -, w0⟩ := DataW.trod_int Try.underlying3 hy
  exact ⟨i, e0, trivial⟩
set_option maxRecDepth 100000 in
theorem in_its {H : Type} {enc : TypeId × Value → H} {W : World} {base : Nat} {v : Value} {d : DataW H} {p : List MemPlace}
    (hok : Value.okWide Try.prog W .any base 23 v) (h : DataW.Trod enc Try.prog W 0 (fun _ => true) true 23 v d p) :
    ∃ (A : Option Addr) (c : Nat) (l : List Int), v = .slice A l.length c ∧ kIt.Rd W W.heap.size A c l := by
  obtain ⟨A, c, l, rfl, h1, -, h2, h3⟩ := in_slice (fun x : Int => [Value.int .i64 x]) (fun _ => True) Try.underlying23 (k := 1) (by kernel_rfl) (by omega) it_of hok h
  exact ⟨A, c, l, rfl, h1, h2, h3⟩
end Go.Proofs.Ytnfhkmlggajhaaa
