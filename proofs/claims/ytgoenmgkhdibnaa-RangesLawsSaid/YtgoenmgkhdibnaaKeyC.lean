/-
  Layer 6 (key): with what texts begin; the first of all texts behind all that begin with one.
-/
import Derived.Test.YtgoenmgkhdibnaaKeyB
import Derived.Deep.RegionHeld3
namespace Go.Proofs.Ytgoenmgkhdibnaa
open Go.RowKit

theorem run_str_to {P : Program} {t : TypeId} (ht : P.underlying t = some .string) (w : World) (S : ByteArray) (k : Nat) (i : Int) (hi : i = (k : Int)) (hk : k ≤ S.size) :
    (Instr.slice t (.string S) none (some (.int .i64 i)) none).run P w = .ok (.string (S.extract 0 k)) w := by
  subst hi
  rw [run_slice_string_to_if w t S .i64 _ ht, if_pos (by omega)]
  rfl
end Go.Proofs.Ytgoenmgkhdibnaa
