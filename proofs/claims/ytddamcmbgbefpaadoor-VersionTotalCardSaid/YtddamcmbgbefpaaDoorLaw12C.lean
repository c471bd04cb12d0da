/-
  The laws of layer 12: VersionTexts.
-/
import Derived.Test.YtddamcmbgbefpaaDoorLaw12B
namespace Go.Proofs.YtddamcmbgbefpaaDoor
open Go.RowKit

set_option maxRecDepth 100000 in
set_option maxHeartbeats 8000000 in
theorem versionTexts_walk (HT : VTextC 12) (HP : VParseC 13) (HS : VSortC 15)
    (a : Vr) (x y : Int) (hx : a.rep = x) (hy : a.cnt = y) (s : List UInt8) (w : World) (hsy : SysAt w) :
    Calls Tryd.prog 4 #[.agg #[.int .i64 x, .int .i64 y], .string (str s)] w fun e w' => e = .returned (.bool true) ∧ Below w.heap.size w w' := by
  have A0 := fun w hsw => Lib.hid (awake12 HT HP HS w hsw)
  have hzU : (str s).size = s.length := str_size s
  obtain ⟨U, hU⟩ : ∃ U, str s = U := ⟨_, rfl⟩
  rw [hU] at hzU ⊢
  obtain ⟨WB, hWB⟩ : ∃ WB, w.alloc (.cells #[.int .i64 x, .int .i64 y] 23) = WB := ⟨_, rfl⟩
  have HB := Lib.hid (show Below w.heap.size w WB from hWB ▸ below_new w (.cells #[.int .i64 x, .int .i64 y] 23))
  have SB := Lib.hid (hsy.below HB.out (Nat.le_refl _))
  clear hsy
  obtain ⟨m0, m1⟩ := vr_new w x y
  rw [hWB] at m0 m1
  have HC := Lib.hid (show CellL WB [(⟨w.heap.size, 0, none⟩, .int .i64 x), (⟨w.heap.size, 1, none⟩, .int .i64 y)] WB from ⟨m0, m1, Below.refl _ _⟩)
  have EQ1 := fun w => eq_vr x y x y true (by simp) w
  have EQ0 := fun w => eq_vr 0 0 0 0 true (by simp) w
  obtain ⟨r, hr⟩ : ∃ r, rightVr a = r := ⟨_, rfl⟩
  have RR := fun w => Lib.hid (ref_vrright a x y hx hy r hr w)
  by_cases hs : U.size ≤ 300
  · cases r
    case false =>
      have T1 := fun w hsw => Lib.hid ((HT a x y hx hy).2 hr w hsw)
      cases hp : readVr s with
      | none =>
        have P2 := fun w hsw => Lib.hid ((HP s U hU (by omega)).2 hp w hsw)
        clear HT HP HS hU hzU hp hx hy hr
        go_enter Tryd.func4, Tryd.ntmps4
        go_wp2_with (first
          | ((with_reducible refine (A0 _ (SB.out.call (cellL_size HC.out))).out.mono ?_); rintro e w9 ⟨rfl, hq⟩; replace HC := Lib.hid (cellL_call hq HC.out); clear hq m0 m1; obtain ⟨m0, m1, -⟩ := HC.out)
          | ((with_reducible refine (T1 _ (SB.out.call (cellL_size HC.out))).out.mono ?_); rintro e w8 ⟨rfl, hq⟩; replace HC := Lib.hid (cellL_call hq HC.out); clear hq m0 m1; obtain ⟨m0, m1, -⟩ := HC.out)
          | ((with_reducible refine (RR _).out.mono ?_); rintro e w7 ⟨rfl, hq⟩; replace HC := Lib.hid (cellL_call hq HC.out); clear hq m0 m1; obtain ⟨m0, m1, -⟩ := HC.out)
          | ((with_reducible refine (P2 _ (SB.out.call (cellL_size HC.out))).out.mono ?_); rintro e w4 ⟨rfl, hq⟩; replace HC := Lib.hid (cellL_call hq HC.out); clear hq m0 m1; obtain ⟨m0, m1, -⟩ := HC.out))
        go_ret
        exact ⟨rfl, (HB.out.trans ((cellL_size HC.out).mono HB.out.size)).alloc (HB.out.trans ((cellL_size HC.out).mono HB.out.size)).size _⟩
      | some b =>
        obtain ⟨h1, h2⟩ := readVr_back hp
        obtain ⟨p, hpp⟩ : ∃ p, b.rep = p := ⟨_, rfl⟩
        obtain ⟨q, hqq⟩ : ∃ q, b.cnt = q := ⟨_, rfl⟩
        have P2 := fun w hsw => Lib.hid ((HP s U hU (by omega)).1 b hp p q hpp hqq w hsw)
        have R2 := fun w => Lib.hid (ref_vrright b p q hpp hqq true h1 w)
        have X2 := fun w => Lib.hid (ref_vrtextN b p q hpp hqq h1 U (by rw [h2]; exact hU) w)
        clear HT HP HS hU hzU hp hx hy hr h1 h2 hpp hqq
        go_enter Tryd.func4, Tryd.ntmps4
        go_wp2_with (first
          | ((with_reducible refine (A0 _ (SB.out.call (cellL_size HC.out))).out.mono ?_); rintro e w9 ⟨rfl, hq⟩; replace HC := Lib.hid (cellL_call hq HC.out); clear hq m0 m1; obtain ⟨m0, m1, -⟩ := HC.out)
          | ((with_reducible refine (T1 _ (SB.out.call (cellL_size HC.out))).out.mono ?_); rintro e w8 ⟨rfl, hq⟩; replace HC := Lib.hid (cellL_call hq HC.out); clear hq m0 m1; obtain ⟨m0, m1, -⟩ := HC.out)
          | ((with_reducible refine (RR _).out.mono ?_); rintro e w7 ⟨rfl, hq⟩; replace HC := Lib.hid (cellL_call hq HC.out); clear hq m0 m1; obtain ⟨m0, m1, -⟩ := HC.out)
          | ((with_reducible refine (P2 _ (SB.out.call (cellL_size HC.out))).out.mono ?_); rintro e w4 ⟨rfl, hq⟩; replace HC := Lib.hid (cellL_call hq HC.out); clear hq m0 m1; obtain ⟨m0, m1, -⟩ := HC.out)
          | ((with_reducible refine (R2 _).out.mono ?_); rintro e w3 ⟨rfl, hq⟩; obtain ⟨hc3, hf3⟩ := bcell hq; replace hq := (below_new w4 (.cells #[.int .i64 p, .int .i64 q] 23)).trans (hq.mono (by simp)); replace HC := Lib.hid (cellL_call hq HC.out); clear hq m0 m1; obtain ⟨m0, m1, -⟩ := HC.out)
          | ((with_reducible refine (X2 _).out.mono ?_); rintro e w2 ⟨rfl, hq⟩; replace HC := Lib.hid (cellL_call hq HC.out); clear hq m0 m1; obtain ⟨m0, m1, -⟩ := HC.out))
        go_ret
        exact ⟨rfl, HB.out.trans ((cellL_size HC.out).mono HB.out.size)⟩
    case true =>
      obtain ⟨V, hV⟩ : ∃ V, str (textVr a) = V := ⟨_, rfl⟩
      have T1 := fun w hsw => Lib.hid ((HT a x y hx hy).1 hr V hV w hsw)
      have P1 := fun w hsw => Lib.hid ((HP (textVr a) V hV (by have := textVr_len a; omega)).1 a (readVr_some hr rfl) x y hx hy w hsw)
      have X1 := fun w => Lib.hid (ref_vrtextN a x y hx hy hr V hV w)
      cases hp : readVr s with
      | none =>
        have P2 := fun w hsw => Lib.hid ((HP s U hU (by omega)).2 hp w hsw)
        clear HT HP HS hU hzU hp hx hy hr hV
        go_enter Tryd.func4, Tryd.ntmps4
        go_wp2_with (first
          | ((with_reducible refine (A0 _ (SB.out.call (cellL_size HC.out))).out.mono ?_); rintro e w9 ⟨rfl, hq⟩; replace HC := Lib.hid (cellL_call hq HC.out); clear hq m0 m1; obtain ⟨m0, m1, -⟩ := HC.out)
          | ((with_reducible refine (T1 _ (SB.out.call (cellL_size HC.out))).out.mono ?_); rintro e w8 ⟨rfl, hq⟩; replace HC := Lib.hid (cellL_call hq HC.out); clear hq m0 m1; obtain ⟨m0, m1, -⟩ := HC.out)
          | ((with_reducible refine (RR _).out.mono ?_); rintro e w7 ⟨rfl, hq⟩; replace HC := Lib.hid (cellL_call hq HC.out); clear hq m0 m1; obtain ⟨m0, m1, -⟩ := HC.out)
          | ((with_reducible refine (P1 _ (SB.out.call (cellL_size HC.out))).out.mono ?_); rintro e w6 ⟨rfl, hq⟩; replace HC := Lib.hid (cellL_call hq HC.out); clear hq m0 m1; obtain ⟨m0, m1, -⟩ := HC.out; have l6 := World.block_lt_of_cell? w6 _ m0; dsimp only at l6)
          | ((with_reducible refine (X1 _).out.mono ?_); rintro e w5 ⟨rfl, hq⟩; obtain ⟨hc5, hf5⟩ := bcell hq; replace hq := (below_new w6 (.cells #[.int .i64 x, .int .i64 y] 23)).trans (hq.mono (by simp)); replace HC := Lib.hid (cellL_call hq HC.out); clear hq)
          | ((with_reducible refine (P2 _ (SB.out.call (cellL_size HC.out))).out.mono ?_); rintro e w4 ⟨rfl, hq⟩; replace HC := Lib.hid (cellL_call hq HC.out); clear hq m0 m1; obtain ⟨m0, m1, -⟩ := HC.out))
        go_ret
        exact ⟨rfl, (HB.out.trans ((cellL_size HC.out).mono HB.out.size)).alloc (HB.out.trans ((cellL_size HC.out).mono HB.out.size)).size _⟩
      | some b =>
        obtain ⟨h1, h2⟩ := readVr_back hp
        obtain ⟨p, hpp⟩ : ∃ p, b.rep = p := ⟨_, rfl⟩
        obtain ⟨q, hqq⟩ : ∃ q, b.cnt = q := ⟨_, rfl⟩
        have P2 := fun w hsw => Lib.hid ((HP s U hU (by omega)).1 b hp p q hpp hqq w hsw)
        have R2 := fun w => Lib.hid (ref_vrright b p q hpp hqq true h1 w)
        have X2 := fun w => Lib.hid (ref_vrtextN b p q hpp hqq h1 U (by rw [h2]; exact hU) w)
        clear HT HP HS hU hzU hp hx hy hr h1 h2 hpp hqq hV
        go_enter Tryd.func4, Tryd.ntmps4
        go_wp2_with (first
          | ((with_reducible refine (A0 _ (SB.out.call (cellL_size HC.out))).out.mono ?_); rintro e w9 ⟨rfl, hq⟩; replace HC := Lib.hid (cellL_call hq HC.out); clear hq m0 m1; obtain ⟨m0, m1, -⟩ := HC.out)
          | ((with_reducible refine (T1 _ (SB.out.call (cellL_size HC.out))).out.mono ?_); rintro e w8 ⟨rfl, hq⟩; replace HC := Lib.hid (cellL_call hq HC.out); clear hq m0 m1; obtain ⟨m0, m1, -⟩ := HC.out)
          | ((with_reducible refine (RR _).out.mono ?_); rintro e w7 ⟨rfl, hq⟩; replace HC := Lib.hid (cellL_call hq HC.out); clear hq m0 m1; obtain ⟨m0, m1, -⟩ := HC.out)
          | ((with_reducible refine (P1 _ (SB.out.call (cellL_size HC.out))).out.mono ?_); rintro e w6 ⟨rfl, hq⟩; replace HC := Lib.hid (cellL_call hq HC.out); clear hq m0 m1; obtain ⟨m0, m1, -⟩ := HC.out; have l6 := World.block_lt_of_cell? w6 _ m0; dsimp only at l6)
          | ((with_reducible refine (X1 _).out.mono ?_); rintro e w5 ⟨rfl, hq⟩; obtain ⟨hc5, hf5⟩ := bcell hq; replace hq := (below_new w6 (.cells #[.int .i64 x, .int .i64 y] 23)).trans (hq.mono (by simp)); replace HC := Lib.hid (cellL_call hq HC.out); clear hq)
          | ((with_reducible refine (P2 _ (SB.out.call (cellL_size HC.out))).out.mono ?_); rintro e w4 ⟨rfl, hq⟩; replace HC := Lib.hid (cellL_call hq HC.out); clear hq m0 m1; obtain ⟨m0, m1, -⟩ := HC.out)
          | ((with_reducible refine (R2 _).out.mono ?_); rintro e w3 ⟨rfl, hq⟩; obtain ⟨hc3, hf3⟩ := bcell hq; replace hq := (below_new w4 (.cells #[.int .i64 p, .int .i64 q] 23)).trans (hq.mono (by simp)); replace HC := Lib.hid (cellL_call hq HC.out); clear hq m0 m1; obtain ⟨m0, m1, -⟩ := HC.out)
          | ((with_reducible refine (X2 _).out.mono ?_); rintro e w2 ⟨rfl, hq⟩; replace HC := Lib.hid (cellL_call hq HC.out); clear hq m0 m1; obtain ⟨m0, m1, -⟩ := HC.out))
        go_ret
        exact ⟨rfl, HB.out.trans ((cellL_size HC.out).mono HB.out.size)⟩
  · clear HT HP HS hU hzU hx hy hr RR
    go_enter Tryd.func4, Tryd.ntmps4
    go_wp2_with (first
      | ((with_reducible refine (A0 _ (SB.out.call (cellL_size HC.out))).out.mono ?_); rintro e w9 ⟨rfl, hq⟩; replace HC := Lib.hid (cellL_call hq HC.out); clear hq m0 m1; obtain ⟨m0, m1, -⟩ := HC.out))
    go_ret
    exact ⟨rfl, HB.out.trans ((cellL_size HC.out).mono HB.out.size)⟩
end Go.Proofs.YtddamcmbgbefpaaDoor
