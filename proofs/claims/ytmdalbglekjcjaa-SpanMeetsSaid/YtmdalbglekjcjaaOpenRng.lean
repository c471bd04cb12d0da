/-
  A range that came in.
-/
import Derived.Test.YtmdalbglekjcjaaFrame
import Derived.Test.YtmdalbglekjcjaaOpen
import Derived.Test.YtmdalbglekjcjaaRng
import Derived.Lib.SmallJoins
namespace Go.Proofs.Ytmdalbglekjcjaa
open Go.ChangeShapes Go.WideShapes Go.ChangeAt Go.RowKit Go.Joins

section
variable {H : Type} {enc : TypeId × Value → H} {W : World} {base : Nat}
theorem in_rng {v : Value} {d : DataW H} {p : List MemPlace} (hok : Value.okWide Try.prog W .any base 23 v) (h : DataW.Trod enc Try.prog W 0 (fun _ => true) true 23 v d p) :
    ∃ r : Rng, v = .agg #[.string (str r.lo), .string (str r.hi), .bool r.op] ∧ r.lo.length ≤ maxLen ∧ r.hi.length ≤ maxLen := by
  obtain ⟨v0, v1, v2, y0, y1, y2, n, rfl, -, -, h0, h1, h2⟩ := open_agg3 Try.underlying23 (by kernel_rfl) (by kernel_rfl) hok h
  obtain ⟨s, e0, -, w0⟩ := DataW.trod_string Try.underlying9 h0
  obtain ⟨t, e1, -, w1⟩ := DataW.trod_string Try.underlying9 h1
  obtain ⟨b, e2, -⟩ := DataW.trod_bool Try.underlying4 h2
  simp only [List.cons.injEq, and_true] at e0 e1 e2
  subst e0 e1 e2
  exact ⟨⟨s.data.toList, t.data.toList, b⟩, by simp only [str_of], by rw [← str_size, str_of]; exact w0, by rw [← str_size, str_of]; exact w1⟩
end
end Go.Proofs.Ytmdalbglekjcjaa
