/-
  Layer 6 (key): which are keys, and edges; which of two stands ahead; what stands behind.
-/
import Derived.Test.YtmdalbglekjcjaaBytes
import Derived.Test.YtmdalbglekjcjaaMore
import Derived.Test.YtmdalbglekjcjaaKeyPure
import Derived.Test.YtmdalbglekjcjaaShelfCmp
import Derived.Outline
namespace Go.Proofs.Ytmdalbglekjcjaa
open Go.RowKit

theorem ret_txt {a b : ByteArray} (h : a = b) : Ending.returned (.string a) = .returned (.string b) := by rw [h]
theorem txt_app (a b : List UInt8) : str a ++ str b = str (a ++ b) := by
  apply ByteArray.ext
  rw [ByteArray.data_append]
  simp [str]
theorem txt_at (l : List UInt8) (k : Nat) (h : k < (str l).size) : (str l)[k] = l.getD k 0 := str_get l k (by rwa [str_size] at h)

theorem key_cmp (a b : List UInt8) (w : World) : Calls Try.prog 24 #[.string (str a), .string (str b)] w fun e w' => e = .returned (.int .i64 (Lib.compareBytes a b)) ∧ w = w' := by
  have K := Try.strings_Compare (str a) (str b) w
  rw [str_data, str_data] at K
  have K := Lib.hid K
  go_enter Try.func24, Try.ntmps24
  go_wp2_with ((with_reducible refine K.out.mono ?_); rintro e w' ⟨rfl, rfl⟩)
  go_ret
  exact ⟨rfl, rfl⟩

/-- Is a text a key? -/
def rightB (k : List UInt8) : Bool := decide (1 ≤ k.length) && decide (k.length ≤ 16)
/-- Is a text an edge? -/
def edgeB (k : List UInt8) : Bool := decide (k.length ≤ 17)
theorem key_edge (k : List UInt8) (w : World) : Calls Try.prog 23 #[.string (str k)] w fun e w' => e = .returned (.bool (edgeB k)) ∧ w = w' := by
  have hz : (str k).size = k.length := str_size k
  generalize str k = S at hz ⊢
  go_enter Try.func23, Try.ntmps23
  go_wp2_with fail
  all_goals
    go_ret
    exact ⟨ret_bool (by unfold edgeB; rw [← hz]; simp; try omega), rfl⟩

theorem key_with (s : List UInt8) (b : UInt8) (hs : s.length ≤ 1000000) (w : World) : Calls Try.prog 28 #[.string (str s), .int .u8 (b.toNat : Int)] w fun e w' => e = .returned (.string (str (s ++ [b]))) ∧ Below w.heap.size w w' := by
  have hrow := byte_row w _ b rfl
  have K1 : (convert 43 9 (.slice (some ⟨w.heap.size, 0, none⟩) 1 1)).run Try.prog (w.alloc (.cells #[.int .u8 (b.toNat : Int)] 5)) = .ok (.string (str [b])) _ :=
    conv_str (P := Try.prog) 1 43 5 9 Try.underlying43 Try.underlying5 Try.underlying9 hrow
  have HB := Lib.hid ((Below.refl w.heap.size w).alloc (Nat.le_refl _) (.cells #[.int .u8 (b.toNat : Int)] 5))
  have hz : (str s).size ≤ 1000000 := by rw [str_size]; exact hs
  have hz1 : (str [b]).size ≤ 1 := by rw [str_size]; simp
  have HV := Lib.hid (txt_app s [b])
  go_enter Try.func28, Try.ntmps28
  go_wp2_with fail
  go_ret
  exact ⟨ret_txt HV.out, HB.out⟩
theorem key_next (s : List UInt8) (hs : s.length ≤ 1000000) (w : World) : Calls Try.prog 22 #[.string (str s)] w fun e w' => e = .returned (.string (str (s ++ [0]))) ∧ Below w.heap.size w w' := by
  have K := Lib.hid (key_with s 0 hs w)
  change Hid (Calls _ _ #[_, .int .u8 0] _ _) at K
  go_enter Try.func22, Try.ntmps22
  go_wp2_with ((with_reducible refine K.out.mono ?_); rintro e w' ⟨rfl, hb⟩)
  go_ret
  exact ⟨rfl, hb⟩
end Go.Proofs.Ytmdalbglekjcjaa
