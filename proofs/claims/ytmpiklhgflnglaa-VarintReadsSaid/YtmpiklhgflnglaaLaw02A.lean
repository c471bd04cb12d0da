/-
  The walk of the second layer's examples ('awake').
-/
import Derived.Test.YtmpiklhgflnglaaVarG
namespace Go.Proofs.Ytmpiklhgflnglaa
open Go.RowKit

theorem puts_300 : putsV [300] = [172, 2] := by
  rw [putsV_cons, putsV_nil, show (300 : Int).toNat = 300 from rfl, putV_big (by omega), putV_small (by omega)]
  rfl
theorem texts_ab : textsV [[97, 98]] = [2, 97, 98] := by
  rw [textsV_cons, show ([97, 98] : List UInt8).length = 2 from rfl, putV_small (by omega)]
  rfl
theorem rdB_nil (w : World) (B : Nat) : RdB w B none 0 [] := ⟨.inl rfl, Nat.le_refl _, Nat.zero_le _⟩
theorem rdB_block {w : World} {g n : Nat} {cs : Array Value} {l : List UInt8} {t : TypeId} (h : w.heap[g]? = some (.cells cs t (0, 0))) (hl : cs.toList = bytes l) (hn : n = l.length) (hm : l.length ≤ 1000000) : RdB w w.heap.size (some ⟨g, 0, none⟩) n l := by
  subst hn
  exact ⟨hl ▸ (RowAt.of_block h).more (lt_of_block h), Nat.le_refl _, by unfold maxLen; omega⟩
theorem grown_quiet {w w' : World} {n : Nat} (h : w' = w.drewN n) : w.grownBy w' none := h ▸ grownBy_drewN' _ _ _
theorem below_quiet {B : Nat} {w w' : World} {n : Nat} (h : w' = w.drewN n) : Below B w w' := h ▸ below_drewN (Below.refl _ _) _

theorem put_300 (w : World) (g : Nat) (h : w.heap[g]? = some (.cells #[.int .i64 300] 3 (0, 0))) :
    Calls Try.prog 8 #[.slice none 0 0, .slice (some ⟨g, 0, none⟩) 1 1] w (RetB2 w.heap.size w [172, 2]) :=
  (varint_put none 0 w.heap.size [] (some ⟨g, 0, none⟩) 1 1 [300] w rfl (rdB_nil _ _) ((RowAt.of_block h).more (lt_of_block h)) (by intro x hx; simp at hx; omega) (Nat.le_refl _) (by simp)).mono fun e w' hp => by
    rcases hp with ⟨_, hp⟩ | ⟨hno, _⟩
    · rw [puts_300] at hp; exact hp
    · exact absurd hno (by decide)
theorem text_ab (w : World) (g : Nat) (h : w.heap[g]? = some (.cells #[.string (str [97, 98])] 9 (0, 0))) :
    Calls Try.prog 11 #[.slice none 0 0, .slice (some ⟨g, 0, none⟩) 1 1] w (RetB w.heap.size w [2, 97, 98]) := by
  have := varint_text none 0 w.heap.size [] (some ⟨g, 0, none⟩) 1 1 [[97, 98]] w rfl (by simp) (rdB_nil _ _) ((RowAt.of_block h).more (lt_of_block h)) (Nat.le_refl _) (by rw [texts_ab]; simp)
  rw [texts_ab] at this
  exact this
theorem eq_same (w : World) (A : Option Addr) (c n B g : Nat) (l : List UInt8) (cs : Array Value) (t : TypeId) (h : RdB w B A c l) (hg : w.heap[g]? = some (.cells cs t (0, 0))) (hl : cs.toList = bytes l) (hn : n = l.length) (hm : l.length ≤ 1000000) :
    Calls Try.prog 9 #[.slice A n c, .slice (some ⟨g, 0, none⟩) n n] w fun e w' => e = .returned (.bool true) ∧ w.grownBy w' none := by
  refine (ref_eq A (some ⟨g, 0, none⟩) c n n n B w.heap.size l l w hn hn h.row (rdB_block (n := n) hg hl hn hm).row (by omega)).mono fun e w' hp => ?_
  obtain ⟨h1, k, h2⟩ := hp
  exact ⟨by rw [h1]; simp, grown_quiet h2⟩

theorem RdB.quiet {w w' : World} {B c : Nat} {A : Option Addr} {l : List UInt8} (h : RdB w B A c l) (hg : w.grownBy w' none) (hB : B ≤ w.heap.size) : RdB w' B A c l :=
  h.keep fun p hp => World.cell?_of_block (hg.block p.block (by omega) (by simp))
theorem RdAt.quiet {w w' : World} {b : Nat} {l : List UInt8} {e : Int} (h : RdAt w b l e) (hg : w.grownBy w' none) : RdAt w' b l e := h.kept hg (by simp)
theorem num_300 (w : World) (b : Nat) (h : RdAt w b [172, 2] 0) : Calls Try.prog 13 #[.pointer (some ⟨b, 0, none⟩)] w (RdPost w b (.int .i64 300) [] 0) := by
  have e : numR [172, 2] 0 = (300, [], 0) := by
    have h := numR_put 300 [] (by omega)
    have h2 := puts_300
    rw [putsV_cons, putsV_nil] at h2
    rw [show putV 300 ++ [] = [172, 2] from h2] at h
    exact h
  have := rd_number (givenAt_some h) (by simp)
  rw [e] at this
  exact this
theorem end_none (w : World) (b : Nat) (h : RdAt w b [] 0) : Calls Try.prog 15 #[.pointer (some ⟨b, 0, none⟩)] w (RdPost w b (.int .i64 0) [] 0) := rd_end (givenAt_some h)

set_option maxHeartbeats 1000000 in
set_option maxRecDepth 100000 in
theorem awake02 (w : World) :
    Calls Try.prog 6 #[] w fun e w' => e = .returned (.bool true) ∧ Below w.heap.size w w' := by
  go_enter Try.func6, Try.ntmps6
  go_wp2_with fail
  refine (put_300 _ _ (heap_new _ _ _ rfl)).mono ?_; rintro e w1 ⟨v1, rfl, hown1, hb1⟩
  have hb1 := ((Below.refl w.heap.size w).alloc (Nat.le_refl _) (.cells #[.int .i64 300] 3)).trans (hb1.mono (by simp))
  obtain ⟨A1, c1, rfl, hr1⟩ := hown1.read
  clear hown1
  have HB := Lib.hid hb1
  clear hb1
  have hr1 := hr1.quiet (World.grownBy_alloc w1 (.cells #[.string (str [97, 98])] 9) none) (Nat.le_refl _)
  go_wp2_with fail
  refine (text_ab _ _ (heap_new _ _ _ rfl)).mono ?_; rintro e w2 ⟨v2, rfl, hown2, hb2⟩
  obtain ⟨A2, c2, rfl, hr2⟩ := hown2.read
  have hr1 := hr1.quiet (grown_of_below hb2 none) (by simp)
  have HB2 : Hid (Below w.heap.size w w2) := (HB.out.alloc HB.out.size _).trans (hb2.mono (by have := HB.out.size; simp; omega))
  have hs12 : w1.heap.size ≤ w2.heap.size := by have := hb2.size; simp at this; omega
  clear hown2 hb2 HB
  go_wp2_with fail
  refine (varint_new A1 c1 _ [172, 2] w2 hr1).mono ?_; rintro e w3 ⟨rfl, hrd, hb3⟩
  have hr1 := hr1.quiet (grown_of_below hb3 none) hs12
  have hr2 := hr2.quiet (grown_of_below hb3 none) (Nat.le_refl _)
  have HB3 : Hid (Below w.heap.size w w3) := HB2.out.trans (hb3.mono HB2.out.size)
  have hs23 := hb3.size
  have hs02 := HB2.out.size
  have hs13 : w1.heap.size ≤ w3.heap.size := by omega
  clear hb3 HB2 hs12
  have hg4 := World.grownBy_alloc w3 (.cells #[.int .u8 172, .int .u8 2] 5) none
  have hr1 := hr1.quiet hg4 hs13
  have hr2 := hr2.quiet hg4 hs23
  have hrd := hrd.quiet hg4
  have hs4 : w2.heap.size ≤ (w3.alloc (.cells #[.int .u8 172, .int .u8 2] 5)).heap.size := by simp; omega
  clear hg4
  go_wp2_with fail
  refine (eq_same _ A1 c1 2 _ _ [172, 2] _ _ hr1 (heap_new _ _ _ rfl) rfl rfl (by simp)).mono ?_; rintro e w4 ⟨rfl, hg4⟩
  have hr2 := hr2.quiet hg4 hs4
  have hrd := hrd.quiet hg4
  have HB4 : Hid (Below w.heap.size w w4) := (HB3.out.alloc HB3.out.size _).trans ((grown_none hg4).mono (by have := HB3.out.size; simp; omega))
  have hs24 : w2.heap.size ≤ w4.heap.size := Nat.le_trans hs4 hg4.size
  clear hg4 hr1 hs4 HB3
  have hg5 := World.grownBy_alloc w4 (.cells #[.int .u8 2, .int .u8 97, .int .u8 98] 5) none
  have hr2 := hr2.quiet hg5 hs24
  have hrd := hrd.quiet hg5
  clear hg5
  go_wp2_with fail
  refine (eq_same _ A2 c2 3 _ _ [2, 97, 98] _ _ hr2 (heap_new _ _ _ rfl) rfl rfl (by simp)).mono ?_; rintro e w5 ⟨rfl, hg5⟩
  have hrd := hrd.quiet hg5
  have HB5 : Hid (Below w.heap.size w w5) := (HB4.out.alloc HB4.out.size _).trans ((grown_none hg5).mono (by have := HB4.out.size; simp; omega))
  clear hg5 hr2 HB4
  go_wp2_with fail
  refine (num_300 _ _ hrd).mono ?_; rintro e w6 ⟨rfl, hrd6, hg6⟩
  go_wp2_with fail
  refine (end_none _ _ hrd6).mono ?_; rintro e w7 ⟨rfl, _, hg7⟩
  have fin := Lib.hid ((HB5.out.grown hg6 HB5.out.size (fun k hk => by injection hk; omega)).grown hg7 (Nat.le_trans HB5.out.size hg6.size) (fun k hk => by injection hk; omega))
  clear hrd6 hg6 hg7 HB5
  go_wp2
  go_ret
  exact ⟨rfl, fin.out⟩
end Go.Proofs.Ytmpiklhgflnglaa
