/-
  Layer 6 (key): the document's end of a text; with what all texts begin.
-/
import Derived.Test.YtgoenmgkhdibnaaKeyC
import Derived.BigRegion
namespace Go.Proofs.Ytgoenmgkhdibnaa
open Go.RowKit

theorem run_txt_add {P : Program} (a b : List UInt8) (h : a.length + b.length ≤ 9223372036854775807) (w : World) : (Op.stringOp .add (str a) (str b)).run P w = .ok (.string (str (a ++ b))) w := by
  rw [run_string_add_sum _ _ _ (by rw [str_size, str_size]; exact h), txt_app]
/-- What an end hands back. -/
def EndV (p : List UInt8) (e : Ending) : Prop :=
  (∃ x, endV p = some x ∧ e = .returned (.tuple #[.string (str x), .bool true])) ∨ (endV p = none ∧ e = .returned (.tuple #[.string (str []), .bool false]))
theorem drewN2 (w : World) (a b : Nat) : ∃ n, (w.drewN a).drewN b = w.drewN n := ⟨_, World.drewN_drewN _ _ _⟩
theorem alike_post {a b : List UInt8} {k na nb : Nat} (ha : na = a.length) (hb : nb = b.length) (h1 : k ≤ na) (h2 : k ≤ nb) (h3 : a.take k = b.take k) (h4 : k < na → k < nb → a.getD k 0 ≠ b.getD k 0) : (k : Int) = (alikeN a b : Nat) := by
  rw [alikeN_at (by omega) (by omega) h3 (fun u v => h4 (by omega) (by omega))]
end Go.Proofs.Ytgoenmgkhdibnaa
