/-
  The walk of the third layer's examples ('awake').
-/
import Derived.Test.YtiiddoemffkaoaaCrcD
import Derived.Lib.SlBytesConst
namespace Go.Proofs.Ytiiddoemffkaoaa
open Go.RowKit

theorem heap_old {w : World} {g : Nat} {x : Obj} (o : Obj) (h : w.heap[g]? = some x) : (w.alloc o).heap[g]? = some x := by
  have hlt : g < w.heap.size := by
    rcases Nat.lt_or_ge g w.heap.size with hlt | hge
    · exact hlt
    · rw [Array.getElem?_eq_none hge] at h; cases h
  exact ((World.grownBy_alloc w o none).block g hlt (by simp)).trans h
theorem rdB_mark {w : World} {g n : Nat} {cs : Array Value} {l : List UInt8} {t : TypeId} {f : Nat × Nat} (h : w.heap[g]? = some (.cells cs t f)) (hl : cs.toList = bytes l) (hn : n = l.length) (hm : l.length ≤ 1000000) : RdB w w.heap.size (some ⟨g, 0, none⟩) n l := by
  subst hn
  exact ⟨hl ▸ (RowAt.of_block h).more (lt_of_block h), Nat.le_refl _, by unfold maxLen; omega⟩
theorem sum_nine : sumC [49, 50, 51, 52, 53, 54, 55, 56, 57] = 3421780262 := by decide +kernel
theorem crc_nine (w : World) (g1 g2 g3 : Nat) (h1 : w.heap[g1]? = some (.cells #[.int .u8 49, .int .u8 50, .int .u8 51, .int .u8 52] 5 (4, 5)))
    (h2 : w.heap[g2]? = some (.cells #[.int .u8 53, .int .u8 54, .int .u8 55, .int .u8 56, .int .u8 57] 5 (5, 6)))
    (h3 : w.heap[g3]? = some (.cells #[.slice (some ⟨g1, 0, none⟩) 4 4, .slice (some ⟨g2, 0, none⟩) 5 5] 24 (0, 0))) :
    Calls Try.prog 7 #[.slice (some ⟨g3, 0, none⟩) 2 2] w fun e w' => e = .returned (.int .u32 3421780262) ∧ w = w' := by
  have := crc_sum (some ⟨g3, 0, none⟩) 2 2 (g3 + 1) w.heap.size [(some ⟨g1, 0, none⟩, 4, [49, 50, 51, 52]), (some ⟨g2, 0, none⟩, 5, [53, 54, 55, 56, 57])] w rfl (by omega) ⟨RowAt.of_block h3, fun p hp => by
    simp only [List.mem_cons, List.not_mem_nil, or_false] at hp
    rcases hp with rfl | rfl
    · exact rdB_mark h1 rfl rfl (by simp)
    · exact rdB_mark h2 rfl rfl (by simp)⟩
  rw [show allP [(some ⟨g1, 0, none⟩, 4, [49, 50, 51, 52]), (some ⟨g2, 0, none⟩, 5, [53, 54, 55, 56, 57])] = [49, 50, 51, 52, 53, 54, 55, 56, 57] from rfl, sum_nine] at this
  exact this
theorem tail_one : tailC 1 = [1, 0, 0, 0] := by decide

set_option maxHeartbeats 1000000 in
set_option maxRecDepth 100000 in
theorem awake03 (w : World) :
    Calls Try.prog 6 #[] w fun e w' => e = .returned (.bool true) ∧ Below w.heap.size w w' := by
  have kc := fun (w : World) (C : Array Value) (n c : Nat) => Lib.run_convert_bytes_const (P := Try.prog) w 24 5 C n c Try.underlying24 Try.underlying5
  have kc2 := fun (o : Obj) (C : Array Value) (n c : Nat) => by
    have := Lib.run_convert_bytes_const (P := Try.prog) (w.alloc o) 24 5 C n c Try.underlying24 Try.underlying5
    rw [World.size_alloc] at this
    exact this
  go_enter Try.func6, Try.ntmps6
  go_wp2_with fail
  refine (crc_nine _ _ _ _ (heap_old _ (heap_old _ (heap_new w _ _ rfl))) (heap_old _ (heap_new _ _ (w.heap.size + 1) (by simp))) (heap_new _ _ (w.heap.size + 1 + 1) (by simp))).mono ?_; rintro e w1 ⟨rfl, rfl⟩
  have hb0 : Below w.heap.size w (((w.alloc (.cells #[.int .u8 49, .int .u8 50, .int .u8 51, .int .u8 52] 5 (4, 5))).alloc (.cells #[.int .u8 53, .int .u8 54, .int .u8 55, .int .u8 56, .int .u8 57] 5 (5, 6))).alloc (.cells #[.slice (some ⟨w.heap.size, 0, none⟩) 4 4, .slice (some ⟨w.heap.size + 1, 0, none⟩) 5 5] 24)) :=
    (((Below.refl _ _).alloc (Nat.le_refl _) _).alloc (by simp) _).alloc (by simp; omega) _
  clear kc kc2
  generalize ((w.alloc (.cells #[.int .u8 49, .int .u8 50, .int .u8 51, .int .u8 52] 5 (4, 5))).alloc (.cells #[.int .u8 53, .int .u8 54, .int .u8 55, .int .u8 56, .int .u8 57] 5 (5, 6))).alloc (.cells #[.slice (some ⟨w.heap.size, 0, none⟩) 4 4, .slice (some ⟨w.heap.size + 1, 0, none⟩) 5 5] 24) = w1 at *
  go_wp2_with fail
  refine (crc_tail 1 _ (by omega)).mono ?_; rintro e w2 ⟨v2, rfl, hown2, hb2⟩
  rw [tail_one] at hown2
  obtain ⟨A2, c2, rfl, hr2⟩ := hown2.read
  replace hb0 := hb0.trans (hb2.mono hb0.size)
  clear hown2 hb2
  replace hr2 := hr2.quiet (World.grownBy_alloc w2 (.cells #[.int .u8 1, .int .u8 0, .int .u8 0, .int .u8 0] 5) none) (Nat.le_refl _)
  replace hb0 := hb0.alloc hb0.size (.cells #[.int .u8 1, .int .u8 0, .int .u8 0, .int .u8 0] 5)
  go_wp2_with fail
  refine (eq_same _ A2 c2 4 _ _ [1, 0, 0, 0] _ _ hr2 (heap_new _ _ _ rfl) rfl rfl (by simp)).mono ?_; rintro e w3 ⟨rfl, hg3⟩
  have fin := Lib.hid (hb0.trans ((grown_none hg3).mono hb0.size))
  clear hr2 hg3 hb0
  go_wp2
  go_ret
  exact ⟨rfl, fin.out⟩
end Go.Proofs.Ytiiddoemffkaoaa
