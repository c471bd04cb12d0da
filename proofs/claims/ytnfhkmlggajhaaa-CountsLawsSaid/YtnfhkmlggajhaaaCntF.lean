/-
  Layer 13 (counts), the program: is a run right, is there a count between two, has a list a count, is a list right.
-/
import Derived.Test.YtnfhkmlggajhaaaCntB
import Derived.Test.YtnfhkmlggajhaaaCntMrg
import Derived.Test.YtnfhkmlggajhaaaRng
namespace Go.Proofs.Ytnfhkmlggajhaaa
open Go.RowKit

/-- A run in a block. -/
def RnAt (w : World) (g : Nat) (X Y : Int) : Prop := w.cell? ⟨g, 0, none⟩ = some (.int .i64 X) ∧ w.cell? ⟨g, 1, none⟩ = some (.int .i64 Y) ∧ ∀ k, w.frozen? ⟨g, k, none⟩ = false
theorem RnAt.lt {w : World} {g : Nat} {X Y : Int} (h : RnAt w g X Y) : g < w.heap.size := World.block_lt_of_cell? w _ h.1
theorem RnAt.below {w w' : World} {g : Nat} {X Y : Int} (h : RnAt w g X Y) (hb : Below w.heap.size w w') : RnAt w' g X Y := by
  obtain ⟨hc, hf⟩ := bcell hb
  have hl := h.lt
  exact ⟨(hc _ _ hl).trans h.1, (hc _ _ hl).trans h.2.1, fun k => (hf _ _ hl).trans (h.2.2 k)⟩
theorem rnAt_new (w : World) (X Y : Int) (t : TypeId) : RnAt (w.alloc (.cells #[.int .i64 X, .int .i64 Y] t)) w.heap.size X Y := by
  have h := heap_new w (.cells #[.int .i64 X, .int .i64 Y] t) _ rfl
  refine ⟨?_, ?_, fun k => ?_⟩
  · rw [cell_of_row _ _ _ _ _ _ h]; rfl
  · rw [cell_of_row _ _ _ _ _ _ h]; rfl
  · unfold World.frozen?; rw [h]; simp
theorem cn_one (r : Rn) (x y : Int) (hx : r.fr = x) (hy : r.to = y) (z : Bool) (hz : oneC r = z) (w : World) :
    Calls Try.prog 23 #[.agg #[.int .i64 x, .int .i64 y]] w fun e w' => e = .returned (.bool z) ∧ Below w.heap.size w w' := by
  unfold oneC at hz
  rw [hx, hy] at hz
  have HB := Lib.hid (below_new w (.cells #[.int .i64 x, .int .i64 y] 26))
  obtain ⟨b1, h1⟩ : ∃ b, decide (1 ≤ x) = b := ⟨_, rfl⟩
  obtain ⟨b2, h2⟩ : ∃ b, decide (x ≤ y) = b := ⟨_, rfl⟩
  obtain ⟨b3, h3⟩ : ∃ b, decide (y ≤ 1099511627776) = b := ⟨_, rfl⟩
  rw [h1, h2, h3] at hz
  subst hz
  clear hx hy
  cases b1
  case' true =>
    cases b2
    case' true =>
      cases b3
  all_goals
    go_enter Try.func23, Try.ntmps23
    go_wp2_with fail
    go_ret
    exact ⟨rfl, HB.out⟩
theorem cn_apart (p r : Rn) (a b c d : Int) (hb : p.to = b) (hc : r.fr = c) (h1 : oneC p = true) (v : Bool) (hv : gapC p r = v) (w : World) :
    Calls Try.prog 24 #[.agg #[.int .i64 a, .int .i64 b], .agg #[.int .i64 c, .int .i64 d]] w fun e w' => e = .returned (.bool v) ∧ Below w.heap.size w w' := by
  have h2 := oneC_iff.1 h1
  have HB := Lib.hid ((below_new w (.cells #[.int .i64 a, .int .i64 b] 26)).alloc (by simp) (.cells #[.int .i64 c, .int .i64 d] 26))
  have hw : IntKind.i64.wrap (b + 1) = b + 1 := IntWalk.i64_in _ (by omega)
  unfold gapC at hv
  rw [hb, hc] at hv
  clear hb hc h1 h2
  go_enter Try.func24, Try.ntmps24
  cases v
  all_goals
    go_wp2_with fail
    go_ret
    exact ⟨rfl, HB.out⟩
set_option maxHeartbeats 2000000 in
theorem cn_has (A : Option Addr) (c n : Nat) (l : List Rn) (x : Int) (hn : n = l.length) (v : Bool) (hv : hasC l x = v) (w : World) (hr : kRn.Rd w w.heap.size A c l) :
    Calls Try.prog 10 #[.slice A n c, .int .i64 x] w fun e w' => e = .returned (.bool v) ∧ Below w.heap.size w w' := by
  have HN := Lib.hid hn
  have HR := Lib.hid hr
  have HV := Lib.hid hv
  have hmx := rd_maxC hr hn
  have hcx : n ≤ c := by rw [hn]; exact hr.room
  clear hn hr hv
  go_enter Try.func10, Try.ntmps10
  go_wp2_with fail
  go_loopw [9] (fun i wr => ∃ k : Nat, k ≤ n ∧ Hid (hasC l x = hasC (l.drop k) x) ∧ i = .int .i64 k ∧ Below w.heap.size w wr) (fun i _ => n - (intOf i).toNat)
  case atStart => exact ⟨0, by omega, rfl, rfl, Below.refl _ _⟩
  case round =>
    obtain ⟨k, hk, HL, rfl, hb⟩ := hrel
    by_cases hlt : k < n
    · obtain ⟨r, hg, hd, -⟩ := cnt_get (l := l) (k := k) (by have := HN.out; omega)
      obtain ⟨b, o, rfl, hb1, hcell⟩ := rns_at (HR.out.below hb) (by have := HN.out; omega)
      obtain ⟨c0, c1⟩ := hcell k r hg
      have hb2 := Nat.lt_of_lt_of_le hb1 hb.size
      obtain ⟨z, hz⟩ : ∃ z, oneC r = z := ⟨_, rfl⟩
      have C := fun w => Lib.hid (cn_one r _ _ rfl rfl z hz w)
      have HL2 := Lib.hid (HL.out.trans (show hasC (l.drop k) x = ((z && (decide (r.fr ≤ x) && decide (x ≤ r.to))) || hasC (l.drop (k + 1)) x) by rw [hd, hasC_cons, inC, hz]))
      obtain ⟨X, hX⟩ : ∃ X, r.fr = X := ⟨_, rfl⟩
      obtain ⟨Y, hY⟩ : ∃ Y, r.to = Y := ⟨_, rfl⟩
      rw [hX, hY] at C HL2
      rw [hX] at c0
      rw [hY] at c1
      obtain ⟨b1, h1⟩ : ∃ b, decide (X ≤ x) = b := ⟨_, rfl⟩
      obtain ⟨b2, h2⟩ : ∃ b, decide (x ≤ Y) = b := ⟨_, rfl⟩
      rw [h1, h2] at HL2
      have HG := Lib.hid (rnAt_new wr X Y 26)
      have HB1 := Lib.hid (hb.alloc hb.size (.cells #[.int .i64 X, .int .i64 Y] 26))
      clear hcell hg hd hX hY hz HL
      cases z
      · go_wp2_with ((with_reducible refine (C _).out.mono ?_); rintro e w2 ⟨rfl, hq⟩; have HB2 := Lib.hid (HB1.out.trans (hq.mono HB1.out.size)); obtain ⟨g0, g1, g2⟩ := HG.out.below hq; clear hq)
        go_roundw
        case rel => exact ⟨k + 1, by omega, HL2, by go_num, HB2.out⟩
        case measure => simp [intOf]; omega
      · cases b1
        · go_wp2_with ((with_reducible refine (C _).out.mono ?_); rintro e w2 ⟨rfl, hq⟩; have HB2 := Lib.hid (HB1.out.trans (hq.mono HB1.out.size)); obtain ⟨g0, g1, g2⟩ := HG.out.below hq; clear hq)
          go_roundw
          case rel => exact ⟨k + 1, by omega, HL2, by go_num, HB2.out⟩
          case measure => simp [intOf]; omega
        · cases b2
          · go_wp2_with ((with_reducible refine (C _).out.mono ?_); rintro e w2 ⟨rfl, hq⟩; have HB2 := Lib.hid (HB1.out.trans (hq.mono HB1.out.size)); obtain ⟨g0, g1, g2⟩ := HG.out.below hq; clear hq)
            go_roundw
            case rel => exact ⟨k + 1, by omega, HL2, by go_num, HB2.out⟩
            case measure => simp [intOf]; omega
          · go_wp2_with ((with_reducible refine (C _).out.mono ?_); rintro e w2 ⟨rfl, hq⟩; have HB2 := Lib.hid (HB1.out.trans (hq.mono HB1.out.size)); obtain ⟨g0, g1, g2⟩ := HG.out.below hq; clear hq)
            go_ret
            exact ⟨ret_bool (HL2.out.symm.trans HV.out), HB2.out⟩
    · have HL2 := Lib.hid (HL.out.trans (show hasC (l.drop k) x = false by rw [List.drop_eq_nil_of_le (by have := HN.out; omega)]; rfl))
      go_wp2_with fail
      go_ret
      exact ⟨ret_bool (HL2.out.symm.trans HV.out), hb⟩
theorem gapC_two (p r : Rn) : decide (p.to + 2 ≤ r.fr) = gapC p r := decide_eq_decide.2 (by omega)
set_option maxHeartbeats 1000000 in
theorem cn_right (A : Option Addr) (c n : Nat) (l : List Rn) (hn : n = l.length) (v : Bool) (hv : rightC l = v) (w : World) (hr : kRn.Rd w w.heap.size A c l) :
    Calls Try.prog 8 #[.slice A n c] w fun e w' => e = .returned (.bool v) ∧ Below w.heap.size w w' := by
  have HN := Lib.hid hn
  have HR := Lib.hid hr
  have hmx := rd_maxC hr hn
  have hcx : n ≤ c := by rw [hn]; exact hr.room
  subst hv
  clear hn hr
  go_enter Try.func8, Try.ntmps8
  go_wp2_with fail
  go_loopw [7] (fun i wr => ∃ k : Nat, k ≤ n ∧ i = .int .i64 k ∧ Hid (k = 0 ∨ ∃ j p, k = j + 1 ∧ l[j]? = some p ∧ oneC p = true ∧ rightC l = contC p (l.drop k)) ∧ Below w.heap.size w wr) (fun i _ => n - (intOf i).toNat)
  case atStart => exact ⟨0, by omega, rfl, .inl rfl, Below.refl _ _⟩
  case round =>
    obtain ⟨k, hk, rfl, HL, hb⟩ := hrel
    by_cases hlt : k < n
    · obtain ⟨r, hg, hd, -⟩ := cnt_get (l := l) (k := k) (by have := HN.out; omega)
      have HR1 := Lib.hid (HR.out.below hb)
      obtain ⟨b, o, rfl, hb1, hcell⟩ := rns_at HR1.out (by have := HN.out; omega)
      obtain ⟨c0, c1⟩ := hcell k r hg
      obtain ⟨d, hdv⟩ : ∃ d, oneC r = d := ⟨_, rfl⟩
      have C := fun w => (cn_one r _ _ rfl rfl d hdv w)
      have hbl := Nat.lt_of_lt_of_le hb1 hb.size
      obtain ⟨X, hX⟩ : ∃ X, r.fr = X := ⟨_, rfl⟩
      obtain ⟨Y, hY⟩ : ∃ Y, r.to = Y := ⟨_, rfl⟩
      have HG := rnAt_new wr X Y 26
      have HB1 := hb.alloc hb.size (.cells #[.int .i64 X, .int .i64 Y] 26)
      have HC : Hid (CellL w [(⟨wr.heap.size, 0, none⟩, .int .i64 X), (⟨wr.heap.size, 1, none⟩, .int .i64 Y)] (wr.alloc (.cells #[.int .i64 X, .int .i64 Y] 26))) := ⟨HG.1, HG.2.1, HB1⟩
      rw [hX, hY] at C
      rw [hX] at c0
      rw [hY] at c1
      cases d
      · have HL2 := Lib.hid (show rightC l = false from by
          rcases HL.out with rfl | ⟨j, p, rfl, hp, h1, h2⟩
          · rw [List.drop_zero] at hd; rw [hd, rightC_cont, hdv]; rfl
          · rw [h2, hd, contC_cons, hdv]; rfl)
        have C := Lib.hid (fun L => cellL_of (a := w) (l := L) C)
        clear hcell hg hd hdv hX hY HG HB1 HL
        go_wp2_with fail
        clear c0 c1
        refine q_region (CellL w [(⟨wr.heap.size, 0, none⟩, .int .i64 X), (⟨wr.heap.size, 1, none⟩, .int .i64 Y)]) (by kernel_rfl) (by kernel_rfl) (cellL_drew HC.out) ?_
        repeat (first
          | go_big_quiet_skip
          | (go_big_quiet_want; (first
            | (refine q_take (v := ?_) ?_ ?_; rotate_left; (focus (intro w hSw; (try simp only [CellL] at hSw); go_split_ands; go_simp; (try (rw [if_neg (by omega)])); (try with_reducible rfl); done)))
            | (refine q_call (C.out _) ?_ ?_; (focus (intro w hSw; (try simp only [CellL] at hSw); go_split_ands; go_simp; (try (rw [if_neg (by omega)])); done)))); (try simp only [Act.put, List.setIfInBounds_toArray, List.set_cons_zero, List.set_cons_succ]); go_big_quiet_on))
        refine wpQuiet_nil ?_
        intro w2 hw2
        go_wp2_with fail
        go_ret
        exact ⟨ret_bool HL2.out.symm, cellL_size hw2⟩
      · have C := Lib.hid (fun L => cellL_of (a := w) (l := L) C)
        cases k with
        | zero =>
          have HL2 := Lib.hid (show (0 : Nat) + 1 = 0 ∨ ∃ j p, 0 + 1 = j + 1 ∧ l[j]? = some p ∧ oneC p = true ∧ rightC l = contC p (l.drop (0 + 1)) from .inr ⟨0, r, rfl, hg, hdv, by rw [List.drop_zero] at hd; rw [hd, rightC_cont, hdv, Bool.true_and]; rfl⟩)
          clear hcell hg hd hdv hX hY HG HB1 HL
          simp only [Nat.zero_mul, Nat.add_zero] at c0 c1
          go_wp2_with fail
          clear c0 c1
          refine q_region (CellL w [(⟨wr.heap.size, 0, none⟩, .int .i64 X), (⟨wr.heap.size, 1, none⟩, .int .i64 Y)]) (by kernel_rfl) (by kernel_rfl) (cellL_drew HC.out) ?_
          repeat (first
            | go_big_quiet_skip
            | (go_big_quiet_want; (first
              | (refine q_take (v := ?_) ?_ ?_; rotate_left; (focus (intro w hSw; (try simp only [CellL] at hSw); go_split_ands; go_simp; (try (rw [if_neg (by omega)])); (try with_reducible rfl); done)))
              | (refine q_call (C.out _) ?_ ?_; (focus (intro w hSw; (try simp only [CellL] at hSw); go_split_ands; go_simp; (try (rw [if_neg (by omega)])); done)))); (try simp only [Act.put, List.setIfInBounds_toArray, List.set_cons_zero, List.set_cons_succ]); go_big_quiet_on))
          refine wpQuiet_nil ?_
          intro w2 hw2
          go_wp2_with fail
          go_roundw
          case rel => exact ⟨1, by omega, rfl, HL2, cellL_size hw2⟩
          case measure => simp [intOf]; omega
        | succ j =>
          obtain ⟨p, hp, hp1, hp2⟩ : ∃ p, l[j]? = some p ∧ oneC p = true ∧ rightC l = contC p (l.drop (j + 1)) := by
            rcases HL.out with h | ⟨j', p, h, h1, h2, h3⟩
            · cases h
            · obtain rfl : j = j' := by omega
              exact ⟨p, h1, h2, h3⟩
          obtain ⟨p0, p1⟩ := hcell j p hp
          obtain ⟨x, hx⟩ : ∃ x, gapC p r = x := ⟨_, rfl⟩
          have CA := fun w => (cn_apart p r p.fr p.to X Y rfl hX hp1 x hx w)
          have CA := Lib.hid (fun L => cellL_of (a := w) (l := L) CA)
          have HL1 := Lib.hid (show rightC l = (x && contC r (l.drop (j + 1 + 1))) from by rw [hp2, hd, contC_cons, hdv, gapC_two, hx, Bool.true_and])
          have HL2 := Lib.hid (fun h : x = true => show j + 1 + 1 = 0 ∨ ∃ j' p', j + 1 + 1 = j' + 1 ∧ l[j']? = some p' ∧ oneC p' = true ∧ rightC l = contC p' (l.drop (j + 1 + 1)) from .inr ⟨j + 1, r, rfl, hg, hdv, by rw [HL1.out, h]; rfl⟩)
          obtain ⟨U, hU⟩ : ∃ U, p.fr = U := ⟨_, rfl⟩
          obtain ⟨V, hV⟩ : ∃ V, p.to = V := ⟨_, rfl⟩
          rw [hU, hV] at CA
          rw [hU] at p0
          rw [hV] at p1
          have HW := alloc_keeps wr (.cells #[.int .i64 X, .int .i64 Y] 26)
          have HC2 : Hid (CellL w [(⟨wr.heap.size, 0, none⟩, .int .i64 X), (⟨wr.heap.size, 1, none⟩, .int .i64 Y), (⟨b, o + j * 2, none⟩, .int .i64 U), (⟨b, o + j * 2 + 1, none⟩, .int .i64 V)] (wr.alloc (.cells #[.int .i64 X, .int .i64 Y] 26))) := ⟨HG.1, HG.2.1, (HW _ _ hbl).trans p0, (HW _ _ hbl).trans p1, HB1⟩
          have hj1 : (0 : Int) < (j : Int) + 1 := by omega
          have hjd : decide ((0 : Int) < (j : Int) + 1) = true := decide_eq_true hj1
          have hjn : (j : Int) < (n : Int) := by omega
          have hj0 : (0 : Int) ≤ (j : Int) := by omega
          have hjw : IntKind.i64.wrap ((j : Int) + 1 - 1) = (j : Int) := by rw [Int.add_sub_cancel]; exact IntWalk.i64_in _ (by omega)
          have hjw2 : IntKind.i64.wrap (j : Int) = (j : Int) := IntWalk.i64_in _ (by omega)
          have HJW := Lib.hid (And.intro hjw hjw2)
          clear hcell hg hd hdv hX hY HG HB1 hp hp1 hp2 hx hU hV HC HW p0 p1 hjw hjw2 HL
          cases x
          all_goals
            go_wp2_with fail
            clear c0 c1
            obtain ⟨hjw, hjw2⟩ := HJW.out
            refine q_region (CellL w [(⟨wr.heap.size, 0, none⟩, .int .i64 X), (⟨wr.heap.size, 1, none⟩, .int .i64 Y), (⟨b, o + j * 2, none⟩, .int .i64 U), (⟨b, o + j * 2 + 1, none⟩, .int .i64 V)]) (by kernel_rfl) (by kernel_rfl) (cellL_drew HC2.out) ?_
            repeat (first
              | go_big_quiet_skip
              | (go_big_quiet_want; (first
                | (refine q_take (v := ?_) ?_ ?_; rotate_left; (focus (intro w hSw; (try simp only [CellL] at hSw); go_split_ands; go_simp; (try (rw [if_neg (by omega)])); (try with_reducible rfl); done)))
                | (refine q_call (C.out _) ?_ ?_; (focus (intro w hSw; (try simp only [CellL] at hSw); go_split_ands; go_simp; (try (rw [if_neg (by omega)])); done)))
                | (refine q_call (CA.out _) ?_ ?_; (focus (intro w hSw; (try simp only [CellL] at hSw); go_split_ands; go_simp; (try (rw [if_neg (by omega)])); done)))); (try simp only [Act.put, List.setIfInBounds_toArray, List.set_cons_zero, List.set_cons_succ]); go_big_quiet_on))
            clear hjw hjw2
            refine wpQuiet_nil ?_
            intro w2 hw2
            go_wp2_with fail
          · go_ret
            exact ⟨ret_bool HL1.out.symm, cellL_size hw2⟩
          · go_roundw
            case rel => exact ⟨j + 2, by omega, by go_num, Lib.hid (by first | exact HL2.out rfl | exact HL2.out trivial), cellL_size hw2⟩
            case measure => simp [intOf]; omega
    · have HL2 := Lib.hid (show rightC l = true from by
        rcases HL.out with rfl | ⟨j, p, rfl, hp, h1, h2⟩
        · rw [show l = [] from List.length_eq_zero_iff.1 (by have := HN.out; omega)]; rfl
        · rw [h2, List.drop_eq_nil_of_le (by have := HN.out; omega)]; rfl)
      clear HL
      go_wp2_with fail
      go_ret
      exact ⟨ret_bool HL2.out.symm, hb⟩
end Go.Proofs.Ytnfhkmlggajhaaa
