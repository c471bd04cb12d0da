/-
  slices.Grow, walked for a row of bytes of the call's own: the same bytes, and room.
-/
import Derived.Test.YtonghhnodpjkfaaCut
import Derived.Lib.AppendZerosOnto
namespace Go.Proofs.Ytonghhnodpjkfaa
open Go.RowKit

theorem run_take_int {T E : TypeId} (ht : Try.prog.underlying T = some (.slice E)) (hs : ∀ w, (sizeOf E).run Try.prog w = .ok 1 w) (w : World) (A : Option Addr) (n c m : Nat) (i : Int) (hi : i = (m : Int)) (h2 : m ≤ c) :
    (Instr.slice T (.slice A n c) none (some (.int .i64 i)) none).run Try.prog w = .ok (.slice A m c) w := by
  subst hi; exact run_take ht hs w A n c m h2
theorem own_cur {w : World} {base g n c : Nat} {l : List UInt8} (h : OwnB w base (.slice (some ⟨g, 0, none⟩) n c) l) (hn : n = l.length) :
    ∃ cur, base ≤ g ∧ w.heap[g]? = some (.cells cur 5 (0, 0)) ∧ n ≤ c ∧ c ≤ maxLen ∧ cur.size = c ∧ cur.toList.take n = bytes l := by
  subst hn
  rcases h.2 with ⟨h0, _⟩ | ⟨g', cap, cur, hv, hb, hg, hc, hm, hs, ht⟩
  · cases h0
  · injection hv with hA _ hcc
    injection hA with hA
    injection hA with hA _ _
    subst hA hcc
    exact ⟨cur, hb, hg, hc, hm, by omega, by simpa using ht⟩

set_option maxHeartbeats 4000000 in
set_option maxRecDepth 100000 in
theorem slices_grow (base g c n m : Nat) (l : List UInt8) (w : World) (hn : n = l.length) (ho : OwnB w base (.slice (some ⟨g, 0, none⟩) n c) l) (hb : base ≤ w.heap.size) (hbig : n + m ≤ 140737488355328) :
    Calls Try.prog 16 #[.slice (some ⟨g, 0, none⟩) n c, .int .i64 (m : Int)] w (RetB base w l) := by
  obtain ⟨i0, hi0, hz0, hz1, hz2⟩ := info_parts byte_info
  obtain ⟨cur, hbg, hg, hnc, hcm, hcs, htk⟩ := own_cur ho hn
  have HO := Lib.hid ho
  have HN := Lib.hid hn
  unfold maxLen at hcm
  clear ho hn
  have h1 : ¬ ((m : Int) < 0) := by omega
  by_cases hroom : n + m ≤ c
  · have h4 : ¬ ((m : Int) - ((c : Int) - (n : Int)) > 0) := by omega
    have fin : Hid (RetB base w l (.returned (.slice (some ⟨g, 0, none⟩) n c)) w) := Lib.hid ⟨_, rfl, HO.out, Below.refl _ _⟩
    go_enter Try.func16, Try.ntmps16
    go_wp2
    go_ret
    exact fin.out
  · have h4 : (m : Int) - ((c : Int) - (n : Int)) > 0 := by omega
    have hck : c + (n + m - c) = n + m := by omega
    have hold : (Builtin.firstCells i0.size c (.slice (some ⟨g, 0, none⟩) c c)).run Try.prog w.drew = .ok cur.toList.toArray w.drew :=
      run_firstCells_some w.drew i0.size c ⟨g, 0, none⟩ c c cur.toList (by rw [hz1]; simp [hcs]) (fun j v hj => by
        rw [Go.WideShapes.add_plain]
        show w.cell? ⟨g, 0 + j, none⟩ = some v
        rw [cell_of_row _ _ _ cur _ (0, 0) hg, Nat.zero_add, ← Array.getElem?_toList]
        exact hj)
    have hrz : ∀ ty, (Builtin.append_ #[25, 3] ty #[.slice (some ⟨g, 0, none⟩) c c, .int .i64 ((m : Int) - ((c : Int) - (n : Int)))]).run Try.prog w =
        .ok (.slice (some ⟨w.heap.size, 0, none⟩) (n + m) (grownCap w (n + m) c 5)) (w.drew.alloc (.cells (cur.toList.toArray ++ Builtin.zeroCells (Value.int .u8 0).cells (n + m - c) ++ Builtin.zeroCells (Value.int .u8 0).cells (grownCap w (n + m) c 5 - (n + m))) 5)) := fun ty => by
      have h := Lib.run_append_grow_zeros w 25 3 ty 5 i0 (.int .u8 0) .i64 .i64 Try.underlying25 Try.underlying3 hi0 hz0 (some ⟨g, 0, none⟩) c c cur.toList hold (n + m - c) (by omega) (by omega) (by omega) (by omega)
        (by rw [hz2]; omega)
        (by rw [hck]; exact growslice_fits (by omega) (by rw [hz2]; omega))
      rw [hck] at h
      rw [show (m : Int) - ((c : Int) - (n : Int)) = ((n + m - c : Nat) : Int) by omega]
      exact h
    have hGn : n + m ≤ grownCap w (n + m) c 5 := grownCap_ge w _ _ _
    have hGm : grownCap w (n + m) c 5 ≤ maxLen := grownCap_le_maxLen w (n + m) c 5 (by unfold maxLen; omega)
    obtain ⟨G, hG⟩ : ∃ G, G = grownCap w (n + m) c 5 := ⟨_, rfl⟩
    rw [← hG] at hrz hGn hGm
    have hG63 : G ≤ 9223372036854775807 := by unfold maxLen at hGm; omega
    have K1 := fun w' : World => run_take (T := 25) (E := 5) Try.underlying25 byte_size w' (some ⟨g, 0, none⟩) n c c (by omega)
    have K2 := fun w' : World => run_take (T := 25) (E := 5) Try.underlying25 byte_size w' (some ⟨w.heap.size, 0, none⟩) (n + m) G n (by omega)
    have zc (k : Nat) : (Builtin.zeroCells (Value.int .u8 0).cells k).size = k := by simp [Builtin.zeroCells, Value.cells]
    obtain ⟨w2, hw2⟩ : ∃ w2, w2 = w.drew.alloc (.cells (cur.toList.toArray ++ Builtin.zeroCells (Value.int .u8 0).cells (n + m - c) ++ Builtin.zeroCells (Value.int .u8 0).cells (G - (n + m))) 5) := ⟨_, rfl⟩
    rw [← hw2] at hrz
    have fin : Hid (RetB base w l (.returned (.slice (some ⟨w.heap.size, 0, none⟩) n G)) w2) := by
      rw [hw2]
      refine ⟨_, rfl, ?_, ((Below.refl base w).drew).alloc hb _⟩
      have hN := HN.out
      refine OwnB.of_row (n := n) ⟨by simp [bytes, hN], .inr ⟨w.heap.size, G, _, rfl, hb, heap_new w.drew _ _ rfl, by omega, hGm, ?_, ?_⟩⟩
      · rw [Array.size_append, Array.size_append, zc, zc]
        simp [hcs]
        omega
      · rw [Array.toList_append, Array.toList_append, List.append_assoc, Nat.mul_one, List.take_append_of_le_length (by simp [hcs]; omega)]
        exact htk
    clear hold hck hG hcs htk hGm zc HO HN hz0 hz1 hz2 hi0 hw2
    go_enter Try.func16, Try.ntmps16
    go_wp2_with (at_builtin; refine Lib.wpList_append_run _ rfl _ _ _ _ rfl _ _ rfl rfl _ _ (hrz _) ?_)
    go_ret
    exact fin.out
end Go.Proofs.Ytonghhnodpjkfaa
