/-
  Layer 6 (key): the longest text with which all begin.
-/
import Derived.Test.YtgoenmgkhdibnaaKeyD
import Derived.Test.YtgoenmgkhdibnaaCut
namespace Go.Proofs.Ytgoenmgkhdibnaa
open Go.RowKit

theorem commonF_len (s : List UInt8) (r : List (List UInt8)) : (commonF s r).length ≤ s.length := ((commonF_pre r s).1).length_le
theorem strs_take_step {r : List (List UInt8)} {k : Nat} (s : List UInt8) (h : k < r.length) : commonF s (r.take (k + 1)) = (commonF s (r.take k)).take (alikeN (commonF s (r.take k)) (r.getD k [])) := by
  have e : r.take (k + 1) = r.take k ++ [r.getD k []] := by
    rw [List.take_succ_eq_append_getElem h]; simp [List.getD, List.getElem?_eq_getElem h]
  rw [e, commonF_snoc]
theorem string_size (w : World) : (sizeOf 9).run Try.prog w = .ok 1 w := by kernel_rfl
end Go.Proofs.Ytgoenmgkhdibnaa
