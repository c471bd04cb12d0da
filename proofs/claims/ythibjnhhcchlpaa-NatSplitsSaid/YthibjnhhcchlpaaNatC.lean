/-
  The walks of the first layer's examples ('awake').
-/
import Derived.Test.YthibjnhhcchlpaaNatB
import Derived.Deep.QuietTactic
import Derived.BigQuiet
import Derived.RegionTactic
namespace Go.Proofs.Ythibjnhhcchlpaa
open Go.RowKit

theorem RowAt.of_block {w : World} {g : Nat} {cs : Array Value} {t : TypeId} {f : Nat × Nat} (h : w.heap[g]? = some (.cells cs t f)) : RowAt w (g + 1) (some ⟨g, 0, none⟩) cs.toList := by
  refine .inr ⟨g, 0, rfl, by omega, fun k u hu => ?_⟩
  rw [cell_of_row _ _ _ cs t f h]
  simpa using hu

theorem heap_new (w : World) (o : Obj) (g : Nat) (h : g = w.heap.size) : (w.alloc o).heap[g]? = some o := by subst h; exact heap_alloc_new w o

theorem sum_234 (w : World) (g : Nat) (h : w.heap[g]? = some (.cells #[.int .i64 2, .int .i64 3, .int .i64 4] 3 (0, 0))) :
    Calls Try.prog 12 #[.int .i64 9, .slice (some ⟨g, 0, none⟩) 3 3] w fun e w' => e = .returned (.tuple #[.int .i64 9, .int .i64 0]) ∧ w = w' :=
  nat_sum 9 (by omega) (by omega) _ 3 3 _ [2, 3, 4] _ rfl (RowAt.of_block h) (by intro x hx; simp at hx; omega) (by omega)
theorem sum_28 (w : World) (g : Nat) (h : w.heap[g]? = some (.cells #[.int .i64 2, .int .i64 8, .int .i64 (-1)] 3 (0, 0))) :
    Calls Try.prog 12 #[.int .i64 9, .slice (some ⟨g, 0, none⟩) 3 3] w fun e w' => e = .returned (.tuple #[.int .i64 0, .int .i64 20]) ∧ w = w' :=
  nat_sum 9 (by omega) (by omega) _ 3 3 _ [2, 8, -1] _ rfl (RowAt.of_block h) (by intro x hx; simp at hx; omega) (by omega)
theorem least_312 (w : World) (g : Nat) (h : w.heap[g]? = some (.cells #[.int .i64 3, .int .i64 1, .int .i64 2] 3 (0, 0))) :
    Calls Try.prog 9 #[.slice (some ⟨g, 0, none⟩) 3 3] w fun e w' => e = .returned (.int .i64 1) ∧ w = w' :=
  nat_least _ 3 3 _ [3, 1, 2] _ rfl (RowAt.of_block h) (by intro x hx; simp at hx; omega) (by omega) (by omega)
theorem log_5 (w : World) : Calls Try.prog 14 #[.int .i64 5] w fun e w' => e = .returned (.int .i64 3) ∧ w = w' := nat_log 5 (by omega) (by omega) w
theorem log_4 (w : World) : Calls Try.prog 14 #[.int .i64 4] w fun e w' => e = .returned (.int .i64 2) ∧ w = w' := nat_log 4 (by omega) (by omega) w
theorem mid_49 (w : World) : Calls Try.prog 16 #[.int .i64 4, .int .i64 9] w fun e w' => e = .returned (.int .i64 6) ∧ w = w' := nat_middle 4 9 (by omega) (by omega) w
theorem hold_715 (w : World) : Calls Try.prog 10 #[.int .i64 7, .int .i64 1, .int .i64 5] w fun e w' => e = .returned (.int .i64 5) ∧ w = w' := nat_hold 7 1 5 w

set_option maxHeartbeats 400000 in
theorem awake01 (w : World) :
    Calls Try.prog 8 #[] w fun e w' => e = .returned (.bool true) ∧ Below w.heap.size w w' := by
  go_enter Try.func8, Try.ntmps8
  go_wp2_with fail
  refine (sum_234 _ _ (heap_new _ _ _ (by simp))).mono ?_; rintro e w' ⟨rfl, rfl⟩
  go_wp2_with fail
  refine (sum_28 _ _ (heap_new _ _ _ (by simp))).mono ?_; rintro e w' ⟨rfl, rfl⟩
  go_wp2_with fail
  refine (log_5 _).mono ?_; rintro e w' ⟨rfl, rfl⟩
  go_wp2_with fail
  refine (log_4 _).mono ?_; rintro e w' ⟨rfl, rfl⟩
  go_wp2_with fail
  refine (mid_49 _).mono ?_; rintro e w' ⟨rfl, rfl⟩
  go_wp2_with fail
  refine (hold_715 _).mono ?_; rintro e w' ⟨rfl, rfl⟩
  go_wp2_with fail
  refine (least_312 _ _ (heap_new _ _ _ (by simp))).mono ?_; rintro e w' ⟨rfl, rfl⟩
  go_wp2_with fail
  go_ret
  exact ⟨rfl, (((Below.refl _ _).alloc (Nat.le_refl _) _).alloc (by simp) _).alloc (by simp; omega) _⟩
end Go.Proofs.Ythibjnhhcchlpaa
