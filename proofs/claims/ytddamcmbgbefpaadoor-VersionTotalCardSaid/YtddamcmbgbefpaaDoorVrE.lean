/-
  Layer 12 (version), the program: the version of a text.
-/
import Derived.Test.YtddamcmbgbefpaaDoorVrD
namespace Go.Proofs.YtddamcmbgbefpaaDoor
open Go.RowKit

/-- A version in a block. -/
structure VrAt (w : World) (g : Nat) (x y : Int) : Prop where
  c0 : w.cell? ⟨g, 0, none⟩ = some (.int .i64 x)
  c1 : w.cell? ⟨g, 1, none⟩ = some (.int .i64 y)
  fr : ∀ k, w.frozen? ⟨g, k, none⟩ = false
theorem VrAt.lt {w : World} {g : Nat} {x y : Int} (h : VrAt w g x y) : g < w.heap.size := World.block_lt_of_cell? w _ h.c0
theorem VrAt.below {w w' : World} {B g : Nat} {x y : Int} (h : VrAt w g x y) (hb : Below B w w') (hg : g < B) : VrAt w' g x y :=
  ⟨((bcell hb).1 g 0 hg).trans h.c0, ((bcell hb).1 g 1 hg).trans h.c1, fun k => ((bcell hb).2 g k hg).trans (h.fr k)⟩
theorem VrAt.call {w w' : World} {g : Nat} {x y : Int} (h : VrAt w g x y) (hb : Below w.heap.size w w') : VrAt w' g x y := h.below hb h.lt
theorem VrAt.alloc {w : World} {g : Nat} {x y : Int} (h : VrAt w g x y) (o : Obj) : VrAt (w.alloc o) g x y := h.call (below_new w o)
theorem VrAt.new (w : World) (x y : Int) : VrAt (w.alloc (.cells #[.int .i64 x, .int .i64 y] 23)) w.heap.size x y := by
  obtain ⟨h0, h1⟩ := vr_new w x y
  exact ⟨h0, h1, fun k => by unfold World.frozen?; rw [heap_new w _ _ rfl]; simp⟩
theorem cut_len (s : List UInt8) : (Lib.cut s [46]).1.length ≤ s.length ∧ (Lib.cut s [46]).2.1.length ≤ s.length := by
  unfold Lib.cut
  split
  · exact ⟨by rw [List.length_take]; omega, by rw [List.length_drop]; omega⟩
  · exact ⟨Nat.le_refl _, Nat.zero_le _⟩
set_option maxRecDepth 100000 in
set_option maxHeartbeats 2000000 in
theorem k_vparse : VParseC 13 := by
  intro s U hU hs
  obtain ⟨hl1, hl2⟩ := cut_len s
  obtain ⟨X, hX⟩ : ∃ X, str (Lib.cut s [46]).1 = X := ⟨_, rfl⟩
  obtain ⟨Y, hY⟩ : ∃ Y, str (Lib.cut s [46]).2.1 = Y := ⟨_, rfl⟩
  obtain ⟨x, hx⟩ : ∃ x, gV (Lib.cut s [46]).1 = x := ⟨_, rfl⟩
  obtain ⟨y, hy⟩ : ∃ y, gV (Lib.cut s [46]).2.1 = y := ⟨_, rfl⟩
  have C0 := fun w hsw => Lib.hid (vr_cut s U X Y hU hs hX hY w hsw)
  have C1 := fun w hsw => Lib.hid (vr_guess _ X hX (by omega) x hx w hsw)
  have C2 := fun w hsw => Lib.hid (vr_guess _ Y hY (by omega) y hy w hsw)
  obtain ⟨r, hr⟩ : ∃ r, rightVr ⟨x, y⟩ = r := ⟨_, rfl⟩
  constructor
  · intro v hv x' y' hx' hy' w hsy
    obtain ⟨e1, e2⟩ := cut_read hv
    obtain ⟨e3, e4⟩ := readVr_back hv
    obtain rfl : x = x' := by rw [← hx, e1, hx']
    obtain rfl : y = y' := by rw [← hy, e2, hy']
    have C3 := fun w hsw => Lib.hid ((k_vtext v x y hx' hy').1 e3 U (by rw [e4]; exact hU) w hsw)
    have HW := Lib.hid (below_new w (.cells #[.int .i64 0, .int .i64 0] 23))
    have HR := Lib.hid (VrAt.new w 0 0)
    have SY := Lib.hid hsy
    clear hsy hU hs hl1 hl2 hX hY hx hy hv e1 e2 e3 e4 hx' hy' hr
    go_enter Tryd.func13, Tryd.ntmps13
    go_wp2_with (first
      | ((with_reducible refine (C0 _ (SY.out.below HW.out (Nat.le_refl _))).out.mono ?_); rintro e w1 ⟨⟨b, rfl⟩, hq⟩; replace HW := Lib.hid (HW.out.trans (hq.mono HW.out.size)); replace HR := Lib.hid (HR.out.call hq); clear hq)
      | ((with_reducible refine (C1 _ (SY.out.below HW.out (Nat.le_refl _))).out.mono ?_); rintro e w2 ⟨rfl, hq⟩; replace HW := Lib.hid (HW.out.trans (hq.mono HW.out.size)); replace HR := Lib.hid (HR.out.call hq); clear hq)
      | ((with_reducible refine (C2 _ (SY.out.below HW.out (Nat.le_refl _))).out.mono ?_); rintro e w3 ⟨rfl, hq⟩; replace HW := Lib.hid (HW.out.trans (hq.mono HW.out.size)); replace HR := Lib.hid (HR.out.call hq); have HV := Lib.hid (VrAt.new w3 x y); replace HR := Lib.hid (HR.out.alloc (.cells #[.int .i64 x, .int .i64 y] 23)); replace HW := Lib.hid (HW.out.alloc HW.out.size (.cells #[.int .i64 x, .int .i64 y] 23)); clear hq)
      | ((with_reducible refine (C3 _ (SY.out.below HW.out (Nat.le_refl _))).out.mono ?_); rintro e w4 ⟨rfl, hq⟩; replace HW := Lib.hid (HW.out.trans (hq.mono HW.out.size)); replace HR := Lib.hid (HR.out.call hq); replace HV := Lib.hid (HV.out.call hq); obtain ⟨v0, v1, -⟩ := HV.out; obtain ⟨r0, r1, r2⟩ := HR.out; clear hq))
    exact bodyPost_ret (v := .tuple #[.agg #[.int .i64 x, .int .i64 y], .int .i64 0]) (by simp [results, Tryd.results13, go_sem, *]) rfl ⟨rfl, (HW.out.setCell (Nat.le_refl _) _).setCell (Nat.le_refl _) _⟩
  · intro hv w hsy
    have HW := Lib.hid (below_new w (.cells #[.int .i64 0, .int .i64 0] 23))
    have HR := Lib.hid (VrAt.new w 0 0)
    have SY := Lib.hid hsy
    cases r
    · have C3 := fun w hsw => Lib.hid ((k_vtext ⟨x, y⟩ x y rfl rfl).2 hr w hsw)
      clear hsy hU hs hl1 hl2 hX hY hx hy hv hr
      go_enter Tryd.func13, Tryd.ntmps13
      go_wp2_with (first
        | ((with_reducible refine (C0 _ (SY.out.below HW.out (Nat.le_refl _))).out.mono ?_); rintro e w1 ⟨⟨b, rfl⟩, hq⟩; replace HW := Lib.hid (HW.out.trans (hq.mono HW.out.size)); replace HR := Lib.hid (HR.out.call hq); clear hq)
        | ((with_reducible refine (C1 _ (SY.out.below HW.out (Nat.le_refl _))).out.mono ?_); rintro e w2 ⟨rfl, hq⟩; replace HW := Lib.hid (HW.out.trans (hq.mono HW.out.size)); replace HR := Lib.hid (HR.out.call hq); clear hq)
        | ((with_reducible refine (C2 _ (SY.out.below HW.out (Nat.le_refl _))).out.mono ?_); rintro e w3 ⟨rfl, hq⟩; replace HW := Lib.hid (HW.out.trans (hq.mono HW.out.size)); replace HR := Lib.hid (HR.out.call hq); have HV := Lib.hid (VrAt.new w3 x y); replace HR := Lib.hid (HR.out.alloc (.cells #[.int .i64 x, .int .i64 y] 23)); replace HW := Lib.hid (HW.out.alloc HW.out.size (.cells #[.int .i64 x, .int .i64 y] 23)); clear hq)
        | ((with_reducible refine (C3 _ (SY.out.below HW.out (Nat.le_refl _))).out.mono ?_); rintro e w4 ⟨rfl, hq⟩; replace HW := Lib.hid (HW.out.trans (hq.mono HW.out.size)); replace HR := Lib.hid (HR.out.call hq); replace HV := Lib.hid (HV.out.call hq); obtain ⟨v0, v1, -⟩ := HV.out; obtain ⟨r0, r1, r2⟩ := HR.out; clear hq))
      exact bodyPost_ret (v := .tuple #[.agg #[.int .i64 0, .int .i64 0], .int .i64 11]) (by simp [results, Tryd.results13, go_sem, *]) rfl ⟨rfl, (HW.out.setCell (Nat.le_refl _) _).setCell (Nat.le_refl _) _⟩
    · obtain ⟨V, hV⟩ : ∃ V, str (textVr ⟨x, y⟩) = V := ⟨_, rfl⟩
      have C3 := fun w hsw => Lib.hid ((k_vtext ⟨x, y⟩ x y rfl rfl).1 hr V hV w hsw)
      have hne : (V.toList == U.toList) = false := by
        rw [beq_eq_false_iff_ne, ← hV, ← hU, str_toList, str_toList]
        exact readVr_none hv ⟨x, y⟩ hr
      clear hsy hU hs hl1 hl2 hX hY hx hy hv hr hV
      go_enter Tryd.func13, Tryd.ntmps13
      go_wp2_with (first
        | ((with_reducible refine (C0 _ (SY.out.below HW.out (Nat.le_refl _))).out.mono ?_); rintro e w1 ⟨⟨b, rfl⟩, hq⟩; replace HW := Lib.hid (HW.out.trans (hq.mono HW.out.size)); replace HR := Lib.hid (HR.out.call hq); clear hq)
        | ((with_reducible refine (C1 _ (SY.out.below HW.out (Nat.le_refl _))).out.mono ?_); rintro e w2 ⟨rfl, hq⟩; replace HW := Lib.hid (HW.out.trans (hq.mono HW.out.size)); replace HR := Lib.hid (HR.out.call hq); clear hq)
        | ((with_reducible refine (C2 _ (SY.out.below HW.out (Nat.le_refl _))).out.mono ?_); rintro e w3 ⟨rfl, hq⟩; replace HW := Lib.hid (HW.out.trans (hq.mono HW.out.size)); replace HR := Lib.hid (HR.out.call hq); have HV := Lib.hid (VrAt.new w3 x y); replace HR := Lib.hid (HR.out.alloc (.cells #[.int .i64 x, .int .i64 y] 23)); replace HW := Lib.hid (HW.out.alloc HW.out.size (.cells #[.int .i64 x, .int .i64 y] 23)); clear hq)
        | ((with_reducible refine (C3 _ (SY.out.below HW.out (Nat.le_refl _))).out.mono ?_); rintro e w4 ⟨rfl, hq⟩; replace HW := Lib.hid (HW.out.trans (hq.mono HW.out.size)); replace HR := Lib.hid (HR.out.call hq); replace HV := Lib.hid (HV.out.call hq); obtain ⟨v0, v1, -⟩ := HV.out; obtain ⟨r0, r1, r2⟩ := HR.out; clear hq))
      exact bodyPost_ret (v := .tuple #[.agg #[.int .i64 0, .int .i64 0], .int .i64 11]) (by simp [results, Tryd.results13, go_sem, *]) rfl ⟨rfl, (HW.out.setCell (Nat.le_refl _) _).setCell (Nat.le_refl _) _⟩
end Go.Proofs.YtddamcmbgbefpaaDoor
