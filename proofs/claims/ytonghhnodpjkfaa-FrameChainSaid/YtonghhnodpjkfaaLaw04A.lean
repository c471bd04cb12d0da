/-
  The walk of the fourth layer's example ('awake'), and what Make and Open answer, case by case.
-/
import Derived.Test.YtonghhnodpjkfaaFrmC
namespace Go.Proofs.Ytonghhnodpjkfaa
open Go.RowKit

theorem frm_make_yes (A : Option Addr) (c n : Nat) (l : List Piece) (w : World) (hn : n = l.length) (h : RdP w w.heap.size w.heap.size A l) (hm63 : n ≤ 9223372036854775806) (x : List UInt8) (hx : allP l = x) (hl : x.length ≤ 32768) :
    Calls Try.prog 8 #[.slice A n c] w (RetB2 w.heap.size w (frameV x)) :=
  (frm_make A c n l w hn h hm63).mono fun e w' hp => by
    rw [← hx]
    rcases hp with ⟨_, hp⟩ | ⟨hno, _⟩
    · exact hp
    · rw [hx] at hno; omega
theorem frm_make_no (A : Option Addr) (c n : Nat) (l : List Piece) (w : World) (hn : n = l.length) (h : RdP w w.heap.size w.heap.size A l) (hm63 : n ≤ 9223372036854775806) (hl : 32768 < (allP l).length) :
    Calls Try.prog 8 #[.slice A n c] w fun e w' => e = .returned (.tuple #[.slice none 0 0, .int .i64 12]) ∧ w = w' :=
  (frm_make A c n l w hn h hm63).mono fun e w' hp => by
    rcases hp with ⟨hno, _⟩ | ⟨_, hp⟩
    · omega
    · exact hp
theorem frm_make1 (A : Option Addr) (c n g : Nat) (x : List UInt8) (w : World) (hn : n = x.length) (h : RdB w w.heap.size A c x) (hg : w.heap[g]? = some (.cells #[.slice A n c] 25 (0, 0))) (hl : n ≤ 32768) :
    Calls Try.prog 8 #[.slice (some ⟨g, 0, none⟩) 1 1] w (RetB2 w.heap.size w (frameV x)) := by
  subst hn
  exact frm_make_yes (some ⟨g, 0, none⟩) 1 1 [(A, c, x)] w rfl ⟨(RowAt.of_block hg).more (lt_of_block hg), fun p hp => by
    obtain rfl : p = (A, c, x) := by simpa using hp
    exact h⟩ (by omega) x (by simp [allP]) hl
/-- A load and an errno come back. -/
def RetLoad (x : List UInt8) (m r : Nat) (w : World) (e : Ending) (w' : World) : Prop :=
  ∃ A c, e = .returned (.tuple #[.slice A m c, .int .i64 (r : Int)]) ∧ RdB w' w'.heap.size A c x ∧ Below w.heap.size w w'
theorem frm_open_is (A : Option Addr) (c n B : Nat) (l x : List UInt8) (r m : Nat) (w : World) (hn : n = l.length) (h : RdB w B A c l) (hB : B ≤ w.heap.size) (hm63 : n ≤ 9223372036854775806) (ho : openV l = (x, r)) (hm : m = x.length) :
    Calls Try.prog 11 #[.slice A n c] w (RetLoad x m r w) :=
  (frm_open A c n B l w hn h hB hm63).mono fun e w' ⟨A1, c1, m1, h1, h2, h3, h4⟩ => by
    rw [ho] at h1 h2 h3
    subst h2
    exact ⟨A1, c1, by rw [h1, hm], h3, h4⟩

theorem frame_789_len : (frameV [7, 8, 9]).length = 8 := by
  rw [frameV_len, show ([7, 8, 9] : List UInt8).length = 3 from rfl, putV_small (by omega)]
  rfl
theorem make_789 (w : World) (g1 g2 g3 : Nat) (h1 : w.heap[g1]? = some (.cells #[.int .u8 7] 5 (0, 0))) (h2 : w.heap[g2]? = some (.cells #[.int .u8 8, .int .u8 9] 5 (0, 0)))
    (h3 : w.heap[g3]? = some (.cells #[.slice (some ⟨g1, 0, none⟩) 1 1, .slice (some ⟨g2, 0, none⟩) 2 2] 25 (0, 0))) :
    Calls Try.prog 8 #[.slice (some ⟨g3, 0, none⟩) 2 2] w (RetB2 w.heap.size w (frameV [7, 8, 9])) :=
  frm_make_yes (some ⟨g3, 0, none⟩) 2 2 [(some ⟨g1, 0, none⟩, 1, [7]), (some ⟨g2, 0, none⟩, 2, [8, 9])] w rfl ⟨(RowAt.of_block h3).more (lt_of_block h3), fun p hp => by
    simp only [List.mem_cons, List.not_mem_nil, or_false] at hp
    rcases hp with rfl | rfl
    · exact rdB_mark h1 rfl rfl (by simp)
    · exact rdB_mark h2 rfl rfl (by simp)⟩ (by omega) [7, 8, 9] rfl (by simp)

set_option maxHeartbeats 1000000 in
set_option maxRecDepth 100000 in
theorem awake04 (w : World) :
    Calls Try.prog 7 #[] w fun e w' => e = .returned (.bool true) ∧ Below w.heap.size w w' := by
  go_enter Try.func7, Try.ntmps7
  go_wp2_with fail
  refine (make_789 _ _ _ _ (heap_old _ (heap_old _ (heap_new w _ _ rfl))) (heap_old _ (heap_new _ _ (w.heap.size + 1) (by simp))) (heap_new _ _ (w.heap.size + 1 + 1) (by simp))).mono ?_; rintro e w1 ⟨v1, rfl, hown1, hb1⟩
  have hb0 : Below w.heap.size w (((w.alloc (.cells #[.int .u8 7] 5)).alloc (.cells #[.int .u8 8, .int .u8 9] 5)).alloc (.cells #[.slice (some ⟨w.heap.size, 0, none⟩) 1 1, .slice (some ⟨w.heap.size + 1, 0, none⟩) 2 2] 25)) :=
    (((Below.refl _ _).alloc (Nat.le_refl _) _).alloc (by simp) _).alloc (by simp; omega) _
  replace hb1 := hb0.trans (hb1.mono hb0.size)
  obtain ⟨A1, c1, rfl, hr1⟩ := hown1.read_n frame_789_len.symm
  clear hown1 hb0
  go_wp2_with fail
  refine (frm_open_is A1 c1 8 _ (frameV [7, 8, 9]) [7, 8, 9] 0 3 _ frame_789_len.symm hr1 (Nat.le_refl _) (by omega) (open_frame [7, 8, 9] (by simp)) rfl).mono ?_; rintro e w2 ⟨A2, c2, rfl, hr2, hb2⟩
  replace hb1 := hb1.trans (hb2.mono hb1.size)
  clear hr1 hb2
  replace hr2 := hr2.quiet (World.grownBy_alloc w2 (.cells #[.int .u8 7, .int .u8 8, .int .u8 9] 5) none) (Nat.le_refl _)
  replace hb1 := hb1.alloc hb1.size (.cells #[.int .u8 7, .int .u8 8, .int .u8 9] 5)
  go_wp2_with fail
  refine (eq_same _ A2 c2 3 _ _ [7, 8, 9] _ _ hr2 (heap_new _ _ _ rfl) rfl rfl (by simp)).mono ?_; rintro e w3 ⟨rfl, hg3⟩
  have fin := Lib.hid (hb1.trans ((grown_none hg3).mono hb1.size))
  clear hr2 hg3 hb1
  go_wp2
  go_ret
  exact ⟨rfl, fin.out⟩
end Go.Proofs.Ytonghhnodpjkfaa
