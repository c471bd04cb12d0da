/-
  Layer 6 (key): which are keys, and edges; which of two stands ahead; what stands behind.
-/
import Derived.Test.YtgoenmgkhdibnaaBytes
import Derived.Test.YtgoenmgkhdibnaaMore
import Derived.Test.YtgoenmgkhdibnaaKeyPure
import Derived.Test.YtgoenmgkhdibnaaShelfCmp
import Derived.Outline
namespace Go.Proofs.Ytgoenmgkhdibnaa
open Go.RowKit

theorem ret_txt {a b : ByteArray} (h : a = b) : Ending.returned (.string a) = .returned (.string b) := by rw [h]
theorem txt_app (a b : List UInt8) : str a ++ str b = str (a ++ b) := by
  apply ByteArray.ext
  rw [ByteArray.data_append]
  simp [str]
theorem txt_at (l : List UInt8) (k : Nat) (h : k < (str l).size) : (str l)[k] = l.getD k 0 := str_get l k (by rwa [str_size] at h)

theorem key_cmp (a b : List UInt8) (w : World) : Calls Try.prog 41 #[.string (str a), .string (str b)] w fun e w' => e = .returned (.int .i64 (Lib.compareBytes a b)) ∧ w = w' := by
  have K := Try.strings_Compare (str a) (str b) w
  rw [str_data, str_data] at K
  have K := Lib.hid K
  go_enter Try.func41, Try.ntmps41
  go_wp2_with ((with_reducible refine K.out.mono ?_); rintro e w' ⟨rfl, rfl⟩)
  go_ret
  exact ⟨rfl, rfl⟩

/-- Is a text a key? -/
def rightB (k : List UInt8) : Bool := decide (1 ≤ k.length) && decide (k.length ≤ 16)
/-- Is a text an edge? -/
def edgeB (k : List UInt8) : Bool := decide (k.length ≤ 17)
theorem key_edge (k : List UInt8) (w : World) : Calls Try.prog 43 #[.string (str k)] w fun e w' => e = .returned (.bool (edgeB k)) ∧ w = w' := by
  have hz : (str k).size = k.length := str_size k
  generalize str k = S at hz ⊢
  go_enter Try.func43, Try.ntmps43
  go_wp2_with fail
  all_goals
    go_ret
    exact ⟨ret_bool (by unfold edgeB; rw [← hz]; simp; try omega), rfl⟩

end Go.Proofs.Ytgoenmgkhdibnaa
