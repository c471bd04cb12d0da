/-
  Several texts in one: CntF, VstO, Law13A, Side, VstK, VrOne, Law13B, Law13C, Law13D, Law13E, Sorted, ShelfSortRn.
-/
import Derived.Deep.DeepCutAuto
import Derived.Shelf.SlSortCmp.WholeK
import Derived.Shelf.SlSortCmp.NoneTotal
import Derived.Test.YtaodifpnfejbbaaGreatProg
import Derived.Test.YtaodifpnfejbbaaGreatMg9
/-
  Layer 13 (counts), the program: is a run right, is there a count between two, has a list a count, is a list right.
-/
namespace Go.Proofs.YtaodifpnfejbbaaGreat
open Go.RowKit

theorem cn_one (r : Rn) (x y : Int) (hx : r.fr = x) (hy : r.to = y) (z : Bool) (hz : oneC r = z) (w : World) :
    Calls Tryz.prog 115 #[.agg #[.int .i64 x, .int .i64 y]] w fun e w' => e = .returned (.bool z) ∧ Below w.heap.size w w' := by
  unfold oneC at hz
  rw [hx, hy] at hz
  have HB := Lib.hid (below_new w (.cells #[.int .i64 x, .int .i64 y] 58))
  obtain ⟨b1, h1⟩ : ∃ b, decide (1 ≤ x) = b := ⟨_, rfl⟩
  obtain ⟨b2, h2⟩ : ∃ b, decide (x ≤ y) = b := ⟨_, rfl⟩
  obtain ⟨b3, h3⟩ : ∃ b, decide (y ≤ 1099511627776) = b := ⟨_, rfl⟩
  rw [h1, h2, h3] at hz
  subst hz
  clear hx hy
  cases b1
  case' true =>
    cases b2
    case' true =>
      cases b3
  all_goals
    go_enter Tryz.func115, Tryz.ntmps115
    go_wp2_with fail
    go_ret
    exact ⟨rfl, HB.out⟩
theorem cn_apart (p r : Rn) (a b c d : Int) (hb : p.to = b) (hc : r.fr = c) (h1 : oneC p = true) (v : Bool) (hv : gapC p r = v) (w : World) :
    Calls Tryz.prog 122 #[.agg #[.int .i64 a, .int .i64 b], .agg #[.int .i64 c, .int .i64 d]] w fun e w' => e = .returned (.bool v) ∧ Below w.heap.size w w' := by
  have h2 := oneC_iff.1 h1
  have HB := Lib.hid ((below_new w (.cells #[.int .i64 a, .int .i64 b] 58)).alloc (by simp) (.cells #[.int .i64 c, .int .i64 d] 58))
  have hw : IntKind.i64.wrap (b + 1) = b + 1 := IntWalk.i64_in _ (by omega)
  unfold gapC at hv
  rw [hb, hc] at hv
  clear hb hc h1 h2
  go_enter Tryz.func122, Tryz.ntmps122
  cases v
  all_goals
    go_wp2_with fail
    go_ret
    exact ⟨rfl, HB.out⟩
set_option maxHeartbeats 2000000 in
theorem cn_has (A : Option Addr) (c n : Nat) (l : List Rn) (x : Int) (hn : n = l.length) (v : Bool) (hv : hasC l x = v) (w : World) (hr : kRn.Rd w w.heap.size A c l) :
    Calls Tryz.prog 82 #[.slice A n c, .int .i64 x] w fun e w' => e = .returned (.bool v) ∧ Below w.heap.size w w' := by
  have HN := Lib.hid hn
  have HR := Lib.hid hr
  have HV := Lib.hid hv
  have hmx := rd_maxC hr hn
  have hcx : n ≤ c := by rw [hn]; exact hr.room
  clear hn hr hv
  go_enter Tryz.func82, Tryz.ntmps82
  go_wp2_with fail
  go_loopw [9] (fun i wr => ∃ k : Nat, k ≤ n ∧ Hid (hasC l x = hasC (l.drop k) x) ∧ i = .int .i64 k ∧ Below w.heap.size w wr) (fun i _ => n - (intOf i).toNat)
  case atStart => exact ⟨0, by omega, rfl, rfl, Below.refl _ _⟩
  case round =>
    obtain ⟨k, hk, HL, rfl, hb⟩ := hrel
    by_cases hlt : k < n
    · obtain ⟨r, hg, hd, -⟩ := cnt_get (l := l) (k := k) (by have := HN.out; omega)
      obtain ⟨b, o, rfl, hb1, hcell⟩ := rns_at (HR.out.below hb) (by have := HN.out; omega)
      obtain ⟨c0, c1⟩ := hcell k r hg
      have hb2 := Nat.lt_of_lt_of_le hb1 hb.size
      obtain ⟨z, hz⟩ : ∃ z, oneC r = z := ⟨_, rfl⟩
      have C := fun w => Lib.hid (cn_one r _ _ rfl rfl z hz w)
      have HL2 := Lib.hid (HL.out.trans (show hasC (l.drop k) x = ((z && (decide (r.fr ≤ x) && decide (x ≤ r.to))) || hasC (l.drop (k + 1)) x) by rw [hd, hasC_cons, inC, hz]))
      obtain ⟨X, hX⟩ : ∃ X, r.fr = X := ⟨_, rfl⟩
      obtain ⟨Y, hY⟩ : ∃ Y, r.to = Y := ⟨_, rfl⟩
      rw [hX, hY] at C HL2
      rw [hX] at c0
      rw [hY] at c1
      obtain ⟨b1, h1⟩ : ∃ b, decide (X ≤ x) = b := ⟨_, rfl⟩
      obtain ⟨b2, h2⟩ : ∃ b, decide (x ≤ Y) = b := ⟨_, rfl⟩
      rw [h1, h2] at HL2
      have HG := Lib.hid (rnAt_new wr X Y 58)
      have HB1 := Lib.hid (hb.alloc hb.size (.cells #[.int .i64 X, .int .i64 Y] 58))
      clear hcell hg hd hX hY hz HL
      cases z
      · go_wp2_with ((with_reducible refine (C _).out.mono ?_); rintro e w2 ⟨rfl, hq⟩; have HB2 := Lib.hid (HB1.out.trans (hq.mono HB1.out.size)); obtain ⟨g0, g1, g2⟩ := HG.out.below hq; clear hq)
        go_roundw
        case rel => exact ⟨k + 1, by omega, HL2, by go_num, HB2.out⟩
        case measure => simp [intOf]; omega
      · cases b1
        · go_wp2_with ((with_reducible refine (C _).out.mono ?_); rintro e w2 ⟨rfl, hq⟩; have HB2 := Lib.hid (HB1.out.trans (hq.mono HB1.out.size)); obtain ⟨g0, g1, g2⟩ := HG.out.below hq; clear hq)
          go_roundw
          case rel => exact ⟨k + 1, by omega, HL2, by go_num, HB2.out⟩
          case measure => simp [intOf]; omega
        · cases b2
          · go_wp2_with ((with_reducible refine (C _).out.mono ?_); rintro e w2 ⟨rfl, hq⟩; have HB2 := Lib.hid (HB1.out.trans (hq.mono HB1.out.size)); obtain ⟨g0, g1, g2⟩ := HG.out.below hq; clear hq)
            go_roundw
            case rel => exact ⟨k + 1, by omega, HL2, by go_num, HB2.out⟩
            case measure => simp [intOf]; omega
          · go_wp2_with ((with_reducible refine (C _).out.mono ?_); rintro e w2 ⟨rfl, hq⟩; have HB2 := Lib.hid (HB1.out.trans (hq.mono HB1.out.size)); obtain ⟨g0, g1, g2⟩ := HG.out.below hq; clear hq)
            go_ret
            exact ⟨ret_bool (HL2.out.symm.trans HV.out), HB2.out⟩
    · have HL2 := Lib.hid (HL.out.trans (show hasC (l.drop k) x = false by rw [List.drop_eq_nil_of_le (by have := HN.out; omega)]; rfl))
      go_wp2_with fail
      go_ret
      exact ⟨ret_bool (HL2.out.symm.trans HV.out), hb⟩
theorem gapC_two (p r : Rn) : decide (p.to + 2 ≤ r.fr) = gapC p r := decide_eq_decide.2 (by omega)
set_option maxHeartbeats 1000000 in
theorem cn_right (A : Option Addr) (c n : Nat) (l : List Rn) (hn : n = l.length) (v : Bool) (hv : rightC l = v) (w : World) (hr : kRn.Rd w w.heap.size A c l) :
    Calls Tryz.prog 131 #[.slice A n c] w fun e w' => e = .returned (.bool v) ∧ Below w.heap.size w w' := by
  have HN := Lib.hid hn
  have HR := Lib.hid hr
  have hmx := rd_maxC hr hn
  have hcx : n ≤ c := by rw [hn]; exact hr.room
  subst hv
  clear hn hr
  go_enter Tryz.func131, Tryz.ntmps131
  go_wp2_with fail
  go_loopw [7] (fun i wr => ∃ k : Nat, k ≤ n ∧ i = .int .i64 k ∧ Hid (k = 0 ∨ ∃ j p, k = j + 1 ∧ l[j]? = some p ∧ oneC p = true ∧ rightC l = contC p (l.drop k)) ∧ Below w.heap.size w wr) (fun i _ => n - (intOf i).toNat)
  case atStart => exact ⟨0, by omega, rfl, .inl rfl, Below.refl _ _⟩
  case round =>
    obtain ⟨k, hk, rfl, HL, hb⟩ := hrel
    by_cases hlt : k < n
    · obtain ⟨r, hg, hd, -⟩ := cnt_get (l := l) (k := k) (by have := HN.out; omega)
      have HR1 := Lib.hid (HR.out.below hb)
      obtain ⟨b, o, rfl, hb1, hcell⟩ := rns_at HR1.out (by have := HN.out; omega)
      obtain ⟨c0, c1⟩ := hcell k r hg
      obtain ⟨d, hdv⟩ : ∃ d, oneC r = d := ⟨_, rfl⟩
      have C := fun w => (cn_one r _ _ rfl rfl d hdv w)
      have hbl := Nat.lt_of_lt_of_le hb1 hb.size
      obtain ⟨X, hX⟩ : ∃ X, r.fr = X := ⟨_, rfl⟩
      obtain ⟨Y, hY⟩ : ∃ Y, r.to = Y := ⟨_, rfl⟩
      have HG := rnAt_new wr X Y 58
      have HB1 := hb.alloc hb.size (.cells #[.int .i64 X, .int .i64 Y] 58)
      have HC : Hid (CellL w [(⟨wr.heap.size, 0, none⟩, .int .i64 X), (⟨wr.heap.size, 1, none⟩, .int .i64 Y)] (wr.alloc (.cells #[.int .i64 X, .int .i64 Y] 58))) := ⟨HG.1, HG.2.1, HB1⟩
      rw [hX, hY] at C
      rw [hX] at c0
      rw [hY] at c1
      cases d
      · have HL2 := Lib.hid (show rightC l = false from by
          rcases HL.out with rfl | ⟨j, p, rfl, hp, h1, h2⟩
          · rw [List.drop_zero] at hd; rw [hd, rightC_cont, hdv]; rfl
          · rw [h2, hd, contC_cons, hdv]; rfl)
        have C := Lib.hid (fun L => cellL_of (a := w) (l := L) C)
        clear hcell hg hd hdv hX hY HG HB1 HL
        go_wp2_with fail
        clear c0 c1
        refine q_region (CellL w [(⟨wr.heap.size, 0, none⟩, .int .i64 X), (⟨wr.heap.size, 1, none⟩, .int .i64 Y)]) (by kernel_rfl) (by kernel_rfl) (cellL_drew HC.out) ?_
        repeat (first
          | go_big_quiet_skip
          | (go_big_quiet_want; (first
            | (refine q_take (v := ?_) ?_ ?_; rotate_left; (focus (intro w hSw; (try simp only [CellL] at hSw); go_split_ands; go_simp; (try (rw [if_neg (by omega)])); (try with_reducible rfl); done)))
            | (refine q_call (C.out _) ?_ ?_; (focus (intro w hSw; (try simp only [CellL] at hSw); go_split_ands; go_simp; (try (rw [if_neg (by omega)])); done)))); (try simp only [Act.put, List.setIfInBounds_toArray, List.set_cons_zero, List.set_cons_succ]); go_big_quiet_on))
        refine wpQuiet_nil ?_
        intro w2 hw2
        go_wp2_with fail
        go_ret
        exact ⟨ret_bool HL2.out.symm, cellL_size hw2⟩
      · have C := Lib.hid (fun L => cellL_of (a := w) (l := L) C)
        cases k with
        | zero =>
          have HL2 := Lib.hid (show (0 : Nat) + 1 = 0 ∨ ∃ j p, 0 + 1 = j + 1 ∧ l[j]? = some p ∧ oneC p = true ∧ rightC l = contC p (l.drop (0 + 1)) from .inr ⟨0, r, rfl, hg, hdv, by rw [List.drop_zero] at hd; rw [hd, rightC_cont, hdv, Bool.true_and]; rfl⟩)
          clear hcell hg hd hdv hX hY HG HB1 HL
          simp only [Nat.zero_mul, Nat.add_zero] at c0 c1
          go_wp2_with fail
          clear c0 c1
          refine q_region (CellL w [(⟨wr.heap.size, 0, none⟩, .int .i64 X), (⟨wr.heap.size, 1, none⟩, .int .i64 Y)]) (by kernel_rfl) (by kernel_rfl) (cellL_drew HC.out) ?_
          repeat (first
            | go_big_quiet_skip
            | (go_big_quiet_want; (first
              | (refine q_take (v := ?_) ?_ ?_; rotate_left; (focus (intro w hSw; (try simp only [CellL] at hSw); go_split_ands; go_simp; (try (rw [if_neg (by omega)])); (try with_reducible rfl); done)))
              | (refine q_call (C.out _) ?_ ?_; (focus (intro w hSw; (try simp only [CellL] at hSw); go_split_ands; go_simp; (try (rw [if_neg (by omega)])); done)))); (try simp only [Act.put, List.setIfInBounds_toArray, List.set_cons_zero, List.set_cons_succ]); go_big_quiet_on))
          refine wpQuiet_nil ?_
          intro w2 hw2
          go_wp2_with fail
          go_roundw
          case rel => exact ⟨1, by omega, rfl, HL2, cellL_size hw2⟩
          case measure => simp [intOf]; omega
        | succ j =>
          obtain ⟨p, hp, hp1, hp2⟩ : ∃ p, l[j]? = some p ∧ oneC p = true ∧ rightC l = contC p (l.drop (j + 1)) := by
            rcases HL.out with h | ⟨j', p, h, h1, h2, h3⟩
            · cases h
            · obtain rfl : j = j' := by omega
              exact ⟨p, h1, h2, h3⟩
          obtain ⟨p0, p1⟩ := hcell j p hp
          obtain ⟨x, hx⟩ : ∃ x, gapC p r = x := ⟨_, rfl⟩
          have CA := fun w => (cn_apart p r p.fr p.to X Y rfl hX hp1 x hx w)
          have CA := Lib.hid (fun L => cellL_of (a := w) (l := L) CA)
          have HL1 := Lib.hid (show rightC l = (x && contC r (l.drop (j + 1 + 1))) from by rw [hp2, hd, contC_cons, hdv, gapC_two, hx, Bool.true_and])
          have HL2 := Lib.hid (fun h : x = true => show j + 1 + 1 = 0 ∨ ∃ j' p', j + 1 + 1 = j' + 1 ∧ l[j']? = some p' ∧ oneC p' = true ∧ rightC l = contC p' (l.drop (j + 1 + 1)) from .inr ⟨j + 1, r, rfl, hg, hdv, by rw [HL1.out, h]; rfl⟩)
          obtain ⟨U, hU⟩ : ∃ U, p.fr = U := ⟨_, rfl⟩
          obtain ⟨V, hV⟩ : ∃ V, p.to = V := ⟨_, rfl⟩
          rw [hU, hV] at CA
          rw [hU] at p0
          rw [hV] at p1
          have HW := alloc_keeps wr (.cells #[.int .i64 X, .int .i64 Y] 58)
          have HC2 : Hid (CellL w [(⟨wr.heap.size, 0, none⟩, .int .i64 X), (⟨wr.heap.size, 1, none⟩, .int .i64 Y), (⟨b, o + j * 2, none⟩, .int .i64 U), (⟨b, o + j * 2 + 1, none⟩, .int .i64 V)] (wr.alloc (.cells #[.int .i64 X, .int .i64 Y] 58))) := ⟨HG.1, HG.2.1, (HW _ _ hbl).trans p0, (HW _ _ hbl).trans p1, HB1⟩
          have hj1 : (0 : Int) < (j : Int) + 1 := by omega
          have hjd : decide ((0 : Int) < (j : Int) + 1) = true := decide_eq_true hj1
          have hjn : (j : Int) < (n : Int) := by omega
          have hj0 : (0 : Int) ≤ (j : Int) := by omega
          have hjw : IntKind.i64.wrap ((j : Int) + 1 - 1) = (j : Int) := by rw [Int.add_sub_cancel]; exact IntWalk.i64_in _ (by omega)
          have hjw2 : IntKind.i64.wrap (j : Int) = (j : Int) := IntWalk.i64_in _ (by omega)
          have HJW := Lib.hid (And.intro hjw hjw2)
          clear hcell hg hd hdv hX hY HG HB1 hp hp1 hp2 hx hU hV HC HW p0 p1 hjw hjw2 HL
          cases x
          all_goals
            go_wp2_with fail
            clear c0 c1
            obtain ⟨hjw, hjw2⟩ := HJW.out
            refine q_region (CellL w [(⟨wr.heap.size, 0, none⟩, .int .i64 X), (⟨wr.heap.size, 1, none⟩, .int .i64 Y), (⟨b, o + j * 2, none⟩, .int .i64 U), (⟨b, o + j * 2 + 1, none⟩, .int .i64 V)]) (by kernel_rfl) (by kernel_rfl) (cellL_drew HC2.out) ?_
            repeat (first
              | go_big_quiet_skip
              | (go_big_quiet_want; (first
                | (refine q_take (v := ?_) ?_ ?_; rotate_left; (focus (intro w hSw; (try simp only [CellL] at hSw); go_split_ands; go_simp; (try (rw [if_neg (by omega)])); (try with_reducible rfl); done)))
                | (refine q_call (C.out _) ?_ ?_; (focus (intro w hSw; (try simp only [CellL] at hSw); go_split_ands; go_simp; (try (rw [if_neg (by omega)])); done)))
                | (refine q_call (CA.out _) ?_ ?_; (focus (intro w hSw; (try simp only [CellL] at hSw); go_split_ands; go_simp; (try (rw [if_neg (by omega)])); done)))); (try simp only [Act.put, List.setIfInBounds_toArray, List.set_cons_zero, List.set_cons_succ]); go_big_quiet_on))
            clear hjw hjw2
            refine wpQuiet_nil ?_
            intro w2 hw2
            go_wp2_with fail
          · go_ret
            exact ⟨ret_bool HL1.out.symm, cellL_size hw2⟩
          · go_roundw
            case rel => exact ⟨j + 2, by omega, by go_num, Lib.hid (by first | exact HL2.out rfl | exact HL2.out trivial), cellL_size hw2⟩
            case measure => simp [intOf]; omega
    · have HL2 := Lib.hid (show rightC l = true from by
        rcases HL.out with rfl | ⟨j, p, rfl, hp, h1, h2⟩
        · rw [show l = [] from List.length_eq_zero_iff.1 (by have := HN.out; omega)]; rfl
        · rw [h2, List.drop_eq_nil_of_le (by have := HN.out; omega)]; rfl)
      clear HL
      go_wp2_with fail
      go_ret
      exact ⟨ret_bool HL2.out.symm, hb⟩
end Go.Proofs.YtaodifpnfejbbaaGreat

/-
  Layer 14 (vset), the program: is a set right?
-/
namespace Go.Proofs.YtaodifpnfejbbaaGreat
open Go.RowKit

/-- May the counts of a replica stand in a right set? -/
def oneR (k : Kn) : Bool := (decide (1 ≤ k.rep) && decide (k.rep ≤ 16)) && (!(k.runs.length == 0) && rightC k.runs)
theorem upS_one0 (k : Kn) (s : List Kn) : upS 0 (k :: s) = (oneR k && upS k.rep s) := by
  rw [upS_bool]
  unfold oneR
  have e : decide (0 < k.rep) = decide (1 ≤ k.rep) := decide_eq_decide.2 (by omega)
  rw [e]
  cases decide (1 ≤ k.rep) <;> cases decide (k.rep ≤ 16) <;> cases (k.runs.length == 0) <;> cases rightC k.runs <;> rfl
theorem upS_one1 {Z : Int} (hZ : 1 ≤ Z) (k : Kn) (s : List Kn) : upS Z (k :: s) = (oneR k && ((!decide (Z ≥ k.rep)) && upS k.rep s)) := by
  rw [upS_bool]
  unfold oneR
  have e : decide (Z < k.rep) = !decide (Z ≥ k.rep) := by
    by_cases h : Z < k.rep
    · rw [decide_eq_true h, decide_eq_false (by omega)]; rfl
    · rw [decide_eq_false h, decide_eq_true (by omega)]; rfl
  rw [e]
  by_cases h : 1 ≤ k.rep
  · rw [decide_eq_true h]
    cases decide (Z ≥ k.rep) <;> cases decide (k.rep ≤ 16) <;> cases (k.runs.length == 0) <;> cases rightC k.runs <;> rfl
  · rw [decide_eq_false h, decide_eq_true (show Z ≥ k.rep by omega)]; rfl
set_option maxRecDepth 100000 in
theorem vs_right1 (x : Kn) (A : Option Addr) (c n : Nat) (hn : n = x.runs.length) (X : Int) (hX : x.rep = X) (v : Bool) (hv : oneR x = v) (w : World) (hr : kRn.Rd w w.heap.size A c x.runs) :
    Calls Tryz.prog 111 #[.agg #[.int .i64 X, .slice A n c]] w fun e w' => e = .returned (.bool v) ∧ Below w.heap.size w w' := by
  have hb := below_new w (.cells #[.int .i64 X, .slice A n c] 61)
  obtain ⟨z, hz⟩ : ∃ z, rightC x.runs = z := ⟨_, rfl⟩
  obtain ⟨p, hp⟩ : ∃ p, (decide (1 ≤ X) && decide (X ≤ 16)) = p := ⟨_, rfl⟩
  obtain ⟨q, hq⟩ : ∃ q, (n == 0) = q := ⟨_, rfl⟩
  have C1 := fun w => Lib.hid (vs_rep X p hp w)
  have C2 := Lib.hid (cn_right A c n x.runs hn z hz _ (hr.call hb))
  have HB := Lib.hid hb
  have hmx := rd_maxC hr hn
  unfold oneR at hv
  rw [hX, ← hn, hz, hp, hq] at hv
  have h3 : decide ((n : Int) > 0) = !q := by
    rw [← hq]
    by_cases h : n = 0
    · subst h; rfl
    · rw [decide_eq_true (by omega), beq_eq_false_iff_ne.2 h]; rfl
  have h4 : decide ((0 : Int) < (n : Int)) = !q := h3
  have h5 : decide (0 < n) = !q := by
    rw [← h3]; exact decide_eq_decide.2 (by omega)
  subst hv
  clear hn hr hz hp hX hb hq
  cases p <;> cases q
  all_goals
    go_enter Tryz.func111, Tryz.ntmps111
    go_wp2_with (first
      | ((with_reducible refine (C1 _).out.mono ?_); rintro e w1 ⟨rfl, rfl⟩)
      | ((with_reducible refine C2.out.mono ?_); rintro e w1 ⟨rfl, hq⟩; have HQ := Lib.hid hq; clear hq))
    go_ret
    first
      | exact ⟨rfl, HB.out⟩
      | exact ⟨rfl, HB.out.trans (HQ.out.mono HB.out.size)⟩
set_option maxRecDepth 100000 in
set_option maxHeartbeats 8000000 in
theorem vs_right (A : Option Addr) (c n : Nat) (s : List Kn) (hn : n = s.length) (v : Bool) (hv : rightS s = v) (w : World) (hr : RdK w w.heap.size A c s) :
    Calls Tryz.prog 75 #[.slice A n c] w fun e w' => e = .returned (.bool v) ∧ Below w.heap.size w w' := by
  have HN := Lib.hid hn
  have HR := Lib.hid hr
  have HV := Lib.hid hv
  have hmx := rdk_max hr hn
  have hcx : n ≤ c := by rw [hn]; exact hr.room
  clear hn hr hv
  go_enter Tryz.func75, Tryz.ntmps75
  go_wp2_with fail
  go_loopw [7] (fun i wr => ∃ k : Nat, k ≤ n ∧ i = .int .i64 k ∧ Hid ((k = 0 ∧ upS 0 s = v) ∨ ∃ j p, k = j + 1 ∧ s[j]? = some p ∧ 1 ≤ p.rep ∧ upS p.rep (s.drop k) = v) ∧ Hid (Below w.heap.size w wr)) (fun i _ => n - (intOf i).toNat)
  case atStart => exact ⟨0, by omega, rfl, .inl ⟨rfl, HV.out⟩, Below.refl _ _⟩
  case round =>
    obtain ⟨k, hk, rfl, HL, HW⟩ := hrel
    by_cases hlt : k < n
    · obtain ⟨r, hg, hd, -⟩ := cnt_get (l := s) (k := k) (by have := HN.out; omega)
      obtain ⟨b, o, rfl, hb1, hcell⟩ := knowns_at (HR.out.below HW.out) (by have := HN.out; omega)
      obtain ⟨A1, n1, c1, hn1, hr1, q0, q1⟩ := hcell k r hg
      obtain ⟨X, hX⟩ : ∃ X, r.rep = X := ⟨_, rfl⟩
      obtain ⟨z, hz⟩ : ∃ z, oneR r = z := ⟨_, rfl⟩
      have hz1 : z = true → 1 ≤ X := fun h => by
        rw [h] at hz
        unfold oneR at hz
        rw [Bool.and_eq_true, Bool.and_eq_true, decide_eq_true_eq] at hz
        rw [← hX]; exact hz.1.1
      obtain ⟨wb, hwb⟩ : ∃ wb, wr.alloc (.cells #[.int .i64 X, .slice A1 n1 c1] 61) = wb := ⟨_, rfl⟩
      have hbb : Below wr.heap.size wr wb := by rw [← hwb]; exact below_new _ _
      have CS := Lib.hid (fun (L : List (Addr × Value)) => fun (W : World) (hC : CellL wb L W) => (vs_right1 r A1 c1 n1 hn1 X hX z hz W (((hr1.more HW.out.size).call hbb).call (cellL_size hC))).mono fun (e' : Ending) (W' : World) ⟨h1, h2⟩ => (⟨h1, cellL_call h2 hC⟩ : e' = Ending.returned (.bool z) ∧ CellL wb L W'))
      rw [hX] at q0
      have hnew := heap_new wr (.cells #[.int .i64 X, .slice A1 n1 c1] 61) _ rfl
      have t0 : wb.cell? ⟨wr.heap.size, 0, none⟩ = some (.int .i64 X) := by rw [← hwb, cell_of_row _ _ _ _ _ _ hnew]; rfl
      have t1 : wb.cell? ⟨wr.heap.size, 1, none⟩ = some (.slice A1 n1 c1) := by rw [← hwb, cell_of_row _ _ _ _ _ _ hnew]; rfl
      have HWB := Lib.hid (HW.out.trans (hbb.mono HW.out.size))
      have hk0 : (0 : Int) ≤ (k : Int) := by omega
      have hkn : (k : Int) < (n : Int) := by omega
      rcases HL.out with ⟨h0, hL⟩ | ⟨j, p, hj, hgj, hp1, hL⟩
      · subst h0
        rw [List.drop_zero] at hd
        have HF := Lib.hid (show (z && upS X (s.drop (0 + 1))) = v by rw [hd, upS_one0, hX, hz] at hL; exact hL)
        have HNX := Lib.hid (fun (h1 : z = true) (h : upS X (s.drop (0 + 1)) = v) => show (0 + 1 = 0 ∧ upS 0 s = v) ∨ ∃ j p, 0 + 1 = j + 1 ∧ s[j]? = some p ∧ 1 ≤ p.rep ∧ upS p.rep (s.drop (0 + 1)) = v from .inr ⟨0, r, rfl, hg, by rw [hX]; exact hz1 h1, by rw [hX]; exact h⟩)
        rw [Nat.zero_mul, Nat.add_zero] at q0 q1
        have HC := Lib.hid (show CellL wb [(⟨wr.heap.size, 0, none⟩, .int .i64 X), (⟨wr.heap.size, 1, none⟩, .slice A1 n1 c1)] wb from ⟨t0, t1, Below.refl _ _⟩)
        clear hcell hg hd hX hz hz1 hL HL hr1 hn1 t0 t1 hnew hbb
        cases z
        all_goals
          go_upto_region 4 with fail
          refine q_region (CellL wb [(⟨wr.heap.size, 0, none⟩, .int .i64 X), (⟨wr.heap.size, 1, none⟩, .slice A1 n1 c1)]) (by kernel_rfl) (by kernel_rfl) (cellL_drew HC.out) ?_
          repeat (first
            | go_big_quiet_skip
            | (go_big_quiet_want; (first
              | (refine q_take (v := ?_) ?_ ?_; rotate_left; (focus (intro w hSw; (try simp only [CellL] at hSw); go_split_ands; go_simp; (try (rw [if_neg (by omega)])); (try with_reducible rfl); done)))
              | (refine q_call (CS.out _) ?_ ?_; (focus (intro w hSw; (try simp only [CellL] at hSw); go_split_ands; go_simp; (try (rw [if_neg (by omega)])); done)))); (try simp only [Act.put, List.setIfInBounds_toArray, List.set_cons_zero, List.set_cons_succ]); go_big_quiet_on))
          refine wpQuiet_nil ?_
          intro w2 hw2
          have HB2 := Lib.hid (HWB.out.trans ((cellL_size hw2).mono HWB.out.size))
          clear hw2
          go_wp2_with fail
          first
            | (go_ret; exact ⟨ret_bool (show false = v from HF.out), HB2.out⟩)
            | (go_roundw
               case rel => exact ⟨0 + 1, by omega, by go_num, HNX.out rfl HF.out, HB2⟩
               case measure => simp [intOf]; omega)
      · subst hj
        obtain ⟨A2, n2, c2, hn2, hr2, u0, u1⟩ := hcell j p hgj
        obtain ⟨Z, hZ⟩ : ∃ Z, p.rep = Z := ⟨_, rfl⟩
        rw [hZ] at u0 hp1 hL
        obtain ⟨y, hy⟩ : ∃ y, decide (Z ≥ X) = y := ⟨_, rfl⟩
        have hy2 : decide (X ≤ Z) = y := hy
        have HF := Lib.hid (show (z && ((!y) && upS X (s.drop (j + 1 + 1)))) = v by rw [hd, upS_one1 hp1, hX, hz, hy] at hL; exact hL)
        have HNX := Lib.hid (fun (h1 : z = true) (h : upS X (s.drop (j + 1 + 1)) = v) => show (j + 1 + 1 = 0 ∧ upS 0 s = v) ∨ ∃ j' p, j + 1 + 1 = j' + 1 ∧ s[j']? = some p ∧ 1 ≤ p.rep ∧ upS p.rep (s.drop (j + 1 + 1)) = v from .inr ⟨j + 1, r, rfl, hg, by rw [hX]; exact hz1 h1, by rw [hX]; exact h⟩)
        have hk1 : (0 : Int) ≤ (j : Int) + 1 := by omega
        have hkn1 : (j : Int) + 1 < (n : Int) := by omega
        have hj0 : (0 : Int) ≤ (j : Int) := by omega
        have hjn : (j : Int) < (n : Int) := by omega
        have hjd : decide ((j : Int) < 0) = false := decide_eq_false (by omega)
        have hjg : decide ((0 : Int) < (j : Int) + 1) = true := decide_eq_true (by omega)
        have hjg2 : decide ((j : Int) + 1 > 0) = true := hjg
        have hjw : IntKind.i64.wrap ((j : Int) + 1 - 1) = (j : Int) := by rw [Int.add_sub_cancel]; exact IntWalk.i64_in _ (by omega)
        have hjw2 : IntKind.i64.wrap (j : Int) = (j : Int) := IntWalk.i64_in _ (by omega)
        have u2 : wb.cell? ⟨b, o + j * 2, none⟩ = some (.int .i64 Z) := ((bcell hbb).1 _ _ (World.block_lt_of_cell? wr _ u0)).trans u0
        have HC := Lib.hid (show CellL wb [(⟨wr.heap.size, 0, none⟩, .int .i64 X), (⟨wr.heap.size, 1, none⟩, .slice A1 n1 c1), (⟨b, o + j * 2, none⟩, .int .i64 Z)] wb from ⟨t0, t1, u2, Below.refl _ _⟩)
        clear hcell hg hgj hd hX hZ hz hz1 hL HL hr1 hn1 hr2 hn2 t0 t1 u0 u1 u2 hnew hbb
        cases z <;> cases y
        all_goals
          go_upto_region 4 with fail
          refine q_region (CellL wb [(⟨wr.heap.size, 0, none⟩, .int .i64 X), (⟨wr.heap.size, 1, none⟩, .slice A1 n1 c1), (⟨b, o + j * 2, none⟩, .int .i64 Z)]) (by kernel_rfl) (by kernel_rfl) (cellL_drew HC.out) ?_
          repeat (first
            | go_big_quiet_skip
            | (go_big_quiet_want; (first
              | (refine q_take (v := ?_) ?_ ?_; rotate_left; (focus (intro w hSw; (try simp only [CellL] at hSw); go_split_ands; go_simp; (try (rw [if_neg (by omega)])); (try with_reducible rfl); done)))
              | (refine q_call (CS.out _) ?_ ?_; (focus (intro w hSw; (try simp only [CellL] at hSw); go_split_ands; go_simp; (try (rw [if_neg (by omega)])); done)))); (try simp only [Act.put, List.setIfInBounds_toArray, List.set_cons_zero, List.set_cons_succ]); go_big_quiet_on))
          refine wpQuiet_nil ?_
          intro w2 hw2
          have HB2 := Lib.hid (HWB.out.trans ((cellL_size hw2).mono HWB.out.size))
          clear hw2
          go_wp2_with fail
          first
            | (go_ret; exact ⟨ret_bool (show false = v from HF.out), HB2.out⟩)
            | (go_roundw
               case rel => exact ⟨j + 1 + 1, by omega, by go_num, HNX.out rfl HF.out, HB2⟩
               case measure => simp [intOf]; omega)
    · have HF := Lib.hid (show true = v by
        rcases HL.out with ⟨h0, hL⟩ | ⟨j, p, hj, hgj, hp1, hL⟩
        · have : s = [] := List.eq_nil_of_length_eq_zero (by have := HN.out; omega)
          rw [← hL, this]; rfl
        · rw [← hL, List.drop_eq_nil_of_le (by have := HN.out; omega)]; rfl)
      go_wp2_with fail
      go_ret
      exact ⟨ret_bool HF.out, HW.out⟩
end Go.Proofs.YtaodifpnfejbbaaGreat

/-
  The laws of layer 13: what they ask of the program's functions; the chapter's example.
-/
namespace Go.Proofs.YtaodifpnfejbbaaGreat
open Go.RowKit

def CRightC (F : FuncId) : Prop := ∀ (A : Option Addr) (c n : Nat) (l : List Rn), n = l.length → n ≤ 100000 → ∀ v, rightC l = v → ∀ w, kRn.Rd w w.heap.size A c l → Calls Tryz.prog F #[.slice A n c] w fun e w' => e = .returned (.bool v) ∧ Below w.heap.size w w'
def CHasC (F : FuncId) : Prop := ∀ (A : Option Addr) (c n : Nat) (l : List Rn) (x : Int), n = l.length → n ≤ 100000 → ∀ v, hasC l x = v → ∀ w, kRn.Rd w w.heap.size A c l → Calls Tryz.prog F #[.slice A n c, .int .i64 x] w fun e w' => e = .returned (.bool v) ∧ Below w.heap.size w w'
def COfC (F : FuncId) : Prop := ∀ (A : Option Addr) (c n : Nat) (l : List Rn), n = l.length → n ≤ 100000 → ∀ U, ofC l = U → ∀ N, U.length = N → ∀ w, kRn.Rd w w.heap.size A c l → Calls Tryz.prog F #[.slice A n c] w (RetC w N U)
def CAddC (F : FuncId) : Prop := ∀ (A B : Option Addr) (c d n m : Nat) (l : List Rn) (cs : List Int), n = l.length → m = cs.length → n ≤ 100000 → m ≤ 100000 → ∀ U, ofC (l ++ cs.map runC) = U → ∀ N, U.length = N → ∀ w, kRn.Rd w w.heap.size A c l → kIt.Rd w w.heap.size B d cs →
  Calls Tryz.prog F #[.slice A n c, .slice B m d] w (RetC w N U)
def CSetC (F : FuncId) (op : Int) : Prop := ∀ (A B : Option Addr) (c d n m : Nat) (a b : List Rn), n = a.length → m = b.length → n ≤ 100000 → m ≤ 100000 → ∀ U, makeC op a b = U → ∀ N, U.length = N → ∀ w, kRn.Rd w w.heap.size A c a → kRn.Rd w w.heap.size B d b →
  Calls Tryz.prog F #[.slice A n c, .slice B m d] w (RetC w N U)
def CNumC (F : FuncId) (f : List Rn → Int) : Prop := ∀ (A : Option Addr) (c n : Nat) (l : List Rn), n = l.length → n ≤ 100000 → ∀ z, f l = z → ∀ w, kRn.Rd w w.heap.size A c l → Calls Tryz.prog F #[.slice A n c] w fun e w' => e = .returned (.int .i64 z) ∧ Below w.heap.size w w'
theorem csame_is (A B : Option Addr) (c d n m : Nat) (a : List Rn) (hn : n = a.length) (hm : m = a.length) (w : World) (ha : kRn.Rd w w.heap.size A c a) (hb : kRn.Rd w w.heap.size B d a) :
    Calls Tryz.prog 48 #[.slice A n c, .slice B m d] w fun e w' => e = .returned (.bool true) ∧ Below w.heap.size w w' := by
  have hnm : n = m := hn.trans hm.symm
  subst hnm
  exact (ref_csame A B c d n a hn w ha hb).mono fun _ _ h => h
theorem size13 (w : World) (o : Obj) : (w.alloc o).heap.size = w.heap.size + 1 := by simp
noncomputable def awk13 (w : World) : World := (w.alloc (.cells #[.int .i64 8, .int .i64 9, .int .i64 1, .int .i64 4] 58)).alloc (.cells #[.int .i64 5] 3)
theorem awk13_rows (w : World) : kRn.Rd (awk13 w) (awk13 w).heap.size (some ⟨w.heap.size, 0, none⟩) 2 [⟨8, 9⟩, ⟨1, 4⟩] ∧ kIt.Rd (awk13 w) (awk13 w).heap.size (some ⟨w.heap.size + 1, 0, none⟩) 1 [5] ∧ Below w.heap.size w (awk13 w) := by
  have h1 := Kind.rd_new (k := kRn) (w := w) (cs := #[.int .i64 8, .int .i64 9, .int .i64 1, .int .i64 4]) (t := 58) (l := [⟨8, 9⟩, ⟨1, 4⟩]) (n := 2) rfl rfl (by simp)
  have h2 := Kind.rd_new (k := kIt) (w := w.alloc (.cells #[.int .i64 8, .int .i64 9, .int .i64 1, .int .i64 4] 58)) (cs := #[.int .i64 5]) (t := 3) (l := [5]) (n := 1) rfl rfl (by simp)
  rw [← size13 w (.cells #[.int .i64 8, .int .i64 9, .int .i64 1, .int .i64 4] 58)] at h1
  rw [← size13 _ (.cells #[.int .i64 5] 3), size13 w] at h2
  exact ⟨h1.call (below_new _ _), h2, (below_new _ _).trans ((below_new _ _).mono (by simp))⟩
end Go.Proofs.YtaodifpnfejbbaaGreat

/-
  A list that is swept, in its block: whether it has what stands from here on, and what is left of its edges.
-/
namespace Go.Proofs.YtaodifpnfejbbaaGreat
open Go.RowKit

/-- A list that is swept, in its block. -/
structure SdAt (w : World) (g : Nat) (v : Bool) (s : Value) : Prop where
  c0 : w.cell? ⟨g, 0, none⟩ = some (.bool v)
  c1 : w.cell? ⟨g, 1, none⟩ = some s
  fr : ∀ k, w.frozen? ⟨g, k, none⟩ = false
theorem SdAt.lt {w : World} {g : Nat} {v : Bool} {s : Value} (h : SdAt w g v s) : g < w.heap.size := World.block_lt_of_cell? w _ h.c0
theorem SdAt.below {w w' : World} {g : Nat} {v : Bool} {s : Value} (h : SdAt w g v s) (hb : Below w.heap.size w w') : SdAt w' g v s := by
  obtain ⟨hc, hf⟩ := bcell hb
  have hl := h.lt
  exact ⟨(hc _ _ hl).trans h.c0, (hc _ _ hl).trans h.c1, fun k => (hf _ _ hl).trans (h.fr k)⟩
theorem SdAt.drew {w : World} {g : Nat} {v : Bool} {s : Value} (h : SdAt w g v s) : SdAt w.drew g v s := ⟨h.c0, h.c1, h.fr⟩
theorem SdAt.kept {w w' : World} {row : Option Nat} {g : Nat} {v : Bool} {s : Value} (h : SdAt w g v s) (hg : w.grownBy w' row) (hne : some g ≠ row) : SdAt w' g v s :=
  ⟨hg.cell h.c0 hne, hg.cell h.c1 hne, fun k => (hg.frozen_far ⟨g, k, none⟩ h.lt hne).trans (h.fr k)⟩
theorem SdAt.other {w : World} {g g' k : Nat} {v : Bool} {s u : Value} (h : SdAt w g v s) (hne : g' ≠ g) : SdAt (w.setCell ⟨g', k, none⟩ u) g v s :=
  ⟨set_other h.c0 (addr_block hne) u, set_other h.c1 (addr_block hne) u, fun j => by rw [World.frozen?_setCell]; exact h.fr j⟩
theorem SdAt.set {w : World} {g : Nat} {v v' : Bool} {s s' : Value} (h : SdAt w g v s) : SdAt ((w.setCell ⟨g, 0, none⟩ (.bool v')).setCell ⟨g, 1, none⟩ s') g v' s' :=
  ⟨set_other (set_same h.c0 _) (addr_off (by decide)) _, set_same (set_other h.c1 (addr_off (by decide)) _) _, fun j => by rw [World.frozen?_setCell, World.frozen?_setCell]; exact h.fr j⟩
theorem SdAt.low {w w' : World} {x : Obj} {g B : Nat} {v : Bool} {s : Value} (h : SdAt w g v s) (hb : Below B (w.alloc x) w') (hg : g < B) : SdAt w' g v s := by
  have h2 := h.below (below_new w x)
  obtain ⟨hc, hf⟩ := bcell hb
  exact ⟨(hc _ _ hg).trans h2.c0, (hc _ _ hg).trans h2.c1, fun k => (hf _ _ hg).trans (h2.fr k)⟩
theorem sdAt_new (w : World) (v : Bool) (s : Value) (t : TypeId) : SdAt (w.alloc (.cells #[.bool v, s] t)) w.heap.size v s := by
  have h := heap_new w (.cells #[.bool v, s] t) _ rfl
  refine ⟨?_, ?_, fun k => ?_⟩
  · rw [cell_of_row _ _ _ _ _ _ h]; rfl
  · rw [cell_of_row _ _ _ _ _ _ h]; rfl
  · unfold World.frozen?; rw [h]; simp
theorem sdAt_new1 (w : World) (x : Obj) (v : Bool) (s : Value) (t : TypeId) : SdAt ((w.alloc x).alloc (.cells #[.bool v, s] t)) (w.heap.size + 1) v s := by
  have := sdAt_new (w.alloc x) v s t
  rwa [size1] at this
theorem below_of_drew {w w' : World} (h : Below w.drew.heap.size w.drew w') : Below w.heap.size w w' := ⟨h.os, h.tape, h.output, h.size, h.block⟩
end Go.Proofs.YtaodifpnfejbbaaGreat

/-
  Layer 14 (vset), the program: two sets' rows held against each other.
-/
namespace Go.Proofs.YtaodifpnfejbbaaGreat
open Go.RowKit

/-- What a call hands back that is handed two lists on, of the call's own. -/
def CTwoC (F : FuncId) (op : Int) : Prop := ∀ (A B : Option Addr) (c d n m : Nat) (a b : List Rn), n = a.length → m = b.length → n ≤ 100000 → m ≤ 100000 → ∀ U, makeC op a b = U → ∀ N, U.length = N → ∀ w, kRn.Rd w w.heap.size A c a → kRn.Rd w w.heap.size B d b →
  Calls Tryz.prog F #[.slice A n c, .slice B m d] w (RetOC w N U)
theorem RowsG.rds {w : World} {base : Nat} {A : Nat → Option Addr} {N c : Nat → Nat} {L : Nat → List Rn} (h : RowsG w base (slV A N c) L) : ∀ k, k < 16 → kRn.Rd w w.heap.size (A k) (c k) (L k) := fun k hk => (h.own k hk).rd
theorem RowsG.rdSs {w : World} {base : Nat} {A : Nat → Option Addr} {N c : Nat → Nat} {L : Nat → List Rn} (h : RowsG w base (slV A N c) L) (hN : ∀ k, (L k).length = N k) : ∀ k, k < 16 → kRn.RdS w (fun g => base ≤ g) (A k) (c k) (L k) := fun k hk => (h.own k hk).rdS (hN k).symm
theorem vs_set_sl (T : Nat → Prop) (A : Nat → Option Addr) (N c : Nat → Nat) (L : Nat → List Rn) (hL : ∀ k, (L k).length = N k) (f : Int → List Rn) (hf : ∀ k : Nat, f ((k : Int) + 1) = L k) (U : List Kn) (hU : colS f 16 = U) (NU : Nat) (hN : U.length = NU) (w : World) (hr : ∀ k, k < 16 → kRn.RdS w T (A k) (c k) (L k)) :
    Calls Tryz.prog 93 #[grV (slV A N c)] w (dKn.Ret w T NU U) :=
  vs_set_new T (slV A N c) L (fun k _ => ⟨A k, c k, by rw [hL]⟩) f hf U hU NU hN w fun k A' n' c' hk e => by
    injection e with e1 e2 e3
    subst e1 e3
    exact hr k hk
/-- How the rows stand while they are made, one behind the other, in block g. -/
structure MkAt (w0 w : World) (k : Nat) (V : Nat → Value) (L : Nat → List Rn) : Prop where
  all : GrAt w w0.heap.size V
  rows : RowsG w (w0.heap.size + 1) V (fun j => if j < k then L j else [])
  low : Below w0.heap.size w0 w
theorem mkAt_new (w : World) (t : TypeId) (L : Nat → List Rn) : MkAt w (w.alloc (grO (fun _ => .slice none 0 0) t)) 0 (fun _ => .slice none 0 0) L :=
  ⟨grAt_new w _ t, (rowsG_nil _ _).congr fun k _ => if_neg (by omega), below_new w _⟩
theorem MkAt.next {w0 w w' : World} {k : Nat} {V : Nat → Value} {L : Nat → List Rn} {v' : Value} (h : MkAt w0 w k V L) (hk : k < 16) (ho : kRn.Own w' w.heap.size v' (L k)) (hb : Below w.heap.size w w') : MkAt w0 (w'.setCell ⟨w0.heap.size, k, none⟩ v') (k + 1) (upd V k v') L := by
  have hl := h.all.lt
  have hr := h.rows.new hk ho hb hl
  refine ⟨(h.all.below hb).set hk _, (hr.set (hr.low (by omega)) _).congr fun j _ => ?_, (h.low.trans (hb.mono h.low.size)).setCell (p := ⟨w0.heap.size, k, none⟩) (Nat.le_refl _) _⟩
  by_cases e : j = k
  · subst e; rw [upd_at]; exact if_pos (by omega)
  · rw [upd_far _ _ e]
    by_cases h1 : j < k
    · show (if j < k + 1 then L j else []) = if j < k then L j else []
      rw [if_pos h1, if_pos (by omega)]
    · show (if j < k + 1 then L j else []) = if j < k then L j else []
      rw [if_neg h1, if_neg (by omega)]
theorem MkAt.fin {w0 w : World} {V : Nat → Value} {L : Nat → List Rn} (h : MkAt w0 w 16 V L) (N : Nat → Nat) (hN : ∀ k, (L k).length = N k) : ∃ A c, GrAt w w0.heap.size (slV A N c) ∧ ∀ k, k < 16 → kRn.RdS w (fun g => w0.heap.size + 1 ≤ g) (A k) (c k) (L k) := by
  have hr := h.rows.congr (M := L) fun k hk => (if_pos hk).symm
  obtain ⟨A, c, e⟩ := hr.form N hN
  exact ⟨A, c, h.all.congr e, (hr.congrV e).rdSs hN⟩
set_option maxRecDepth 100000 in
set_option maxHeartbeats 8000000 in
theorem vs_both_new (F : FuncId) (op : Int) (HK : CTwoC F op) (eg : ∀ args w, (callFunc F args).run Tryz.prog w = .ok (.enter F args) w) (A B : Option Addr) (c d n m : Nat) (a b : List Kn) (hn : n = a.length) (hm : m = b.length) (hnl : ∀ r, (runsV a r).length ≤ 100000) (hml : ∀ r, (runsV b r).length ≤ 100000) (U : List Kn) (hU : makeS op a b = U) (N : Nat) (hN : U.length = N) (w : World) (ha : RdK w w.heap.size A c a) (hb : RdK w w.heap.size B d b) :
    Calls Tryz.prog 129 #[.slice A n c, .slice B m d, .func (.func F) #[] #[]] w (RetKF w N U) := by
  obtain ⟨NA, hNA⟩ : ∃ NA : Nat → Nat, ∀ k : Nat, (runsV a ((k : Int) + 1)).length = NA k := ⟨_, fun _ => rfl⟩
  obtain ⟨NB, hNB⟩ : ∃ NB : Nat → Nat, ∀ k : Nat, (runsV b ((k : Int) + 1)).length = NB k := ⟨_, fun _ => rfl⟩
  obtain ⟨M, hM⟩ : ∃ M : Nat → List Rn, ∀ k : Nat, makeC op (runsV a ((k : Int) + 1)) (runsV b ((k : Int) + 1)) = M k := ⟨_, fun _ => rfl⟩
  obtain ⟨NM, hNM⟩ : ∃ NM : Nat → Nat, ∀ k : Nat, (M k).length = NM k := ⟨_, fun _ => rfl⟩
  have C1 := Lib.hid (vs_gather A c n a hn (fun r => by have := hnl r; omega) NA hNA w ha)
  have C2 := fun w h => Lib.hid (vs_gather B d m b hm (fun r => by have := hml r; omega) NB hNB w h)
  have KK := Lib.hid (fun (k : Nat) (A B : Option Addr) (c d : Nat) W h1 h2 => HK A B c d (NA k) (NB k) (runsV a ((k : Int) + 1)) (runsV b ((k : Int) + 1)) (hNA k).symm (hNB k).symm (by rw [← hNA]; exact hnl _) (by rw [← hNB]; exact hml _) (M k) (hM k) (NM k) (hNM k) W h1 h2)
  have KS := Lib.hid (fun (AA : Nat → Option Addr) (cc : Nat → Nat) W h => vs_set_sl (fun g => w.heap.size ≤ g) AA NM cc M hNM (fun r => makeC op (runsV a r) (runsV b r)) hM U hU N hN W h)
  have HNM := Lib.hid hNM
  have HB0 := Lib.hid hb
  clear ha hb hn hm hnl hml hU hN hNA hNB hM hNM HK
  go_enter Tryz.func129, Tryz.ntmps129
  go_upto_region 2 with (first
    | ((with_reducible refine C1.out.mono ?_); rintro e w1 ⟨A1, c1, rfl, hrd, hq⟩; have HGA := Lib.hid hrd; have HW1 := Lib.hid hq; replace HB0 := Lib.hid (HB0.out.call hq); clear hrd hq)
    | ((with_reducible refine (C2 _ HB0.out).out.mono ?_); rintro e w2 ⟨A2, c2, rfl, hrd, hq⟩; have HGB := Lib.hid hrd; have HW2 := Lib.hid hq; clear hrd hq))
  clear C1 C2 HB0
  obtain ⟨w5, hw5⟩ : ∃ w5, w5 = (w2.alloc (grO (slV A1 NA c1) 106)).alloc (grO (slV A2 NB c2) 106) := ⟨_, rfl⟩
  have hb5 : Below w2.heap.size w2 w5 := by rw [hw5]; exact (below_new _ _).trans ((below_new _ _).mono (by simp))
  have HA5 := Lib.hid (show GrAt w5 w2.heap.size (slV A1 NA c1) by rw [hw5]; exact (grAt_new _ _ _).alloc _)
  have HB5 := Lib.hid (show GrAt w5 (w2.heap.size + 1) (slV A2 NB c2) by rw [hw5, ← size1 w2 (grO (slV A1 NA c1) 106)]; exact grAt_new _ _ _)
  have HRA := Lib.hid (fun k hk => (((HGA.out.rds k hk).call HW2.out).call hb5))
  have HRB := Lib.hid (fun k hk => ((HGB.out.rds k hk).call hb5))
  have HW5 := Lib.hid ((HW1.out.trans (HW2.out.mono HW1.out.size)).trans (hb5.mono (Nat.le_trans HW1.out.size HW2.out.size)))
  rw [← hw5]
  clear hb5 hw5 HGA HGB HW1 HW2
  go_wp2_with fail
  go_loopw [15] (fun i wr => ∃ (k : Nat) (V : Nat → Value), k ≤ 16 ∧ i = .int .i64 k ∧ Hid (MkAt w5 wr k V M)) (fun i _ => 16 - (intOf i).toNat)
  case atStart => exact ⟨0, _, by omega, rfl, mkAt_new w5 _ M⟩
  case round =>
    obtain ⟨k, V, hk, rfl, HG⟩ := hrel
    by_cases hlt : k < 16
    · have hd : decide ((k : Int) < 16) = true := decide_eq_true (by omega)
      have hk0 : (0 : Int) ≤ (k : Int) := by omega
      have hk1 : (k : Int) < 16 := by omega
      have qa : wr.cell? ⟨w2.heap.size, k, none⟩ = some (.slice (A1 k) (NA k) (c1 k)) := (HA5.out.below HG.out.low).cell k hlt
      have qb : wr.cell? ⟨w2.heap.size + 1, k, none⟩ = some (.slice (A2 k) (NB k) (c2 k)) := (HB5.out.below HG.out.low).cell k hlt
      have K := Lib.hid (KK.out k (A1 k) (A2 k) (c1 k) (c2 k) wr.drew ((HRA.out k hlt).call HG.out.low.drew) ((HRB.out k hlt).call HG.out.low.drew))
      go_upto_region 6 with fail
      go_region_law (first
        | ((try go_simp); (with_reducible refine K.out.mono ?_); rintro e w7 ⟨A7, c7, rfl, ho, hq⟩; (try replace hq := below_of_drew hq); have HO7 := Lib.hid ho; have HQ7 := Lib.hid hq; have q3 := (HG.out.all.below hq).cell k hlt; have f3 := (HG.out.all.below hq).free k; clear ho hq))
      all_goals
        have HN7 := Lib.hid (HG.out.next hlt HO7.out HQ7.out)
        clear HO7 HQ7 q3 f3 qa qb K
        go_wp2_with fail
        go_roundw
        case rel => exact ⟨k + 1, upd V k (.slice A7 (NM k) c7), by omega, by go_num, HN7⟩
        case measure => simp [intOf]; omega
    · have hd : decide ((k : Int) < 16) = false := decide_eq_false (by omega)
      obtain rfl : k = 16 := by omega
      obtain ⟨AA, cc, hgr, hrd⟩ := HG.out.fin NM HNM.out
      have K := Lib.hid (KS.out AA cc wr fun k hk => (hrd k hk).mono fun g hg => by have := HW5.out.size; omega)
      have a0 : wr.cell? ⟨w5.heap.size, 0, none⟩ = some (.slice (AA 0) (NM 0) (cc 0)) := hgr.cell 0 (by omega)
      have a1 : wr.cell? ⟨w5.heap.size, 1, none⟩ = some (.slice (AA 1) (NM 1) (cc 1)) := hgr.cell 1 (by omega)
      have a2 : wr.cell? ⟨w5.heap.size, 2, none⟩ = some (.slice (AA 2) (NM 2) (cc 2)) := hgr.cell 2 (by omega)
      have a3 : wr.cell? ⟨w5.heap.size, 3, none⟩ = some (.slice (AA 3) (NM 3) (cc 3)) := hgr.cell 3 (by omega)
      have a4 : wr.cell? ⟨w5.heap.size, 4, none⟩ = some (.slice (AA 4) (NM 4) (cc 4)) := hgr.cell 4 (by omega)
      have a5 : wr.cell? ⟨w5.heap.size, 5, none⟩ = some (.slice (AA 5) (NM 5) (cc 5)) := hgr.cell 5 (by omega)
      have a6 : wr.cell? ⟨w5.heap.size, 6, none⟩ = some (.slice (AA 6) (NM 6) (cc 6)) := hgr.cell 6 (by omega)
      have a7 : wr.cell? ⟨w5.heap.size, 7, none⟩ = some (.slice (AA 7) (NM 7) (cc 7)) := hgr.cell 7 (by omega)
      have a8 : wr.cell? ⟨w5.heap.size, 8, none⟩ = some (.slice (AA 8) (NM 8) (cc 8)) := hgr.cell 8 (by omega)
      have a9 : wr.cell? ⟨w5.heap.size, 9, none⟩ = some (.slice (AA 9) (NM 9) (cc 9)) := hgr.cell 9 (by omega)
      have a10 : wr.cell? ⟨w5.heap.size, 10, none⟩ = some (.slice (AA 10) (NM 10) (cc 10)) := hgr.cell 10 (by omega)
      have a11 : wr.cell? ⟨w5.heap.size, 11, none⟩ = some (.slice (AA 11) (NM 11) (cc 11)) := hgr.cell 11 (by omega)
      have a12 : wr.cell? ⟨w5.heap.size, 12, none⟩ = some (.slice (AA 12) (NM 12) (cc 12)) := hgr.cell 12 (by omega)
      have a13 : wr.cell? ⟨w5.heap.size, 13, none⟩ = some (.slice (AA 13) (NM 13) (cc 13)) := hgr.cell 13 (by omega)
      have a14 : wr.cell? ⟨w5.heap.size, 14, none⟩ = some (.slice (AA 14) (NM 14) (cc 14)) := hgr.cell 14 (by omega)
      have a15 : wr.cell? ⟨w5.heap.size, 15, none⟩ = some (.slice (AA 15) (NM 15) (cc 15)) := hgr.cell 15 (by omega)
      clear hgr hrd
      go_wp2_with ((with_reducible refine K.out.mono ?_); rintro e w8 ⟨A8, c8, rfl, hrd, hq⟩; have H8 := Lib.hid hrd; have HQ8 := Lib.hid hq; clear hrd hq)
      go_ret
      exact ⟨A8, c8, rfl, H8.out.mono (fun g hg => by have h1 := HW5.out.size; have h2 := HG.out.low.size; rcases hg with hg | hg <;> omega), (HW5.out.trans (HG.out.low.mono HW5.out.size)).trans (HQ8.out.mono (Nat.le_trans HW5.out.size HG.out.low.size))⟩
theorem vs_both (F : FuncId) (op : Int) (HK : CTwoC F op) (eg : ∀ args w, (callFunc F args).run Tryz.prog w = .ok (.enter F args) w) (A B : Option Addr) (c d n m : Nat) (a b : List Kn) (hn : n = a.length) (hm : m = b.length) (hnl : ∀ r, (runsV a r).length ≤ 100000) (hml : ∀ r, (runsV b r).length ≤ 100000) (U : List Kn) (hU : makeS op a b = U) (N : Nat) (hN : U.length = N) (w : World) (ha : RdK w w.heap.size A c a) (hb : RdK w w.heap.size B d b) :
    Calls Tryz.prog 129 #[.slice A n c, .slice B m d, .func (.func F) #[] #[]] w (RetK w N U) :=
  (vs_both_new F op HK eg A B c d n m a b hn hm hnl hml U hU N hN w ha hb).mono fun _ _ h => h.to
end Go.Proofs.YtaodifpnfejbbaaGreat

/-
  Layer 12 (version), the program: is a version right?
-/
namespace Go.Proofs.YtaodifpnfejbbaaGreat
open Go.RowKit

def VRightC (F : FuncId) : Prop := ∀ (v : Vr) (x y : Int), v.rep = x → v.cnt = y → ∀ z, rightVr v = z → ∀ w, Calls Tryz.prog F #[.agg #[.int .i64 x, .int .i64 y]] w fun e w' => e = .returned (.bool z) ∧ Below w.heap.size w w'
set_option maxRecDepth 100000 in
theorem k_vright : VRightC 79 := by
  intro v x y hx hy z hz w
  unfold rightVr at hz
  rw [hx, hy] at hz
  have HB := Lib.hid (below_new w (.cells #[.int .i64 x, .int .i64 y] 24))
  obtain ⟨b1, h1⟩ : ∃ b, decide (1 ≤ x) = b := ⟨_, rfl⟩
  obtain ⟨b2, h2⟩ : ∃ b, decide (x ≤ 16) = b := ⟨_, rfl⟩
  obtain ⟨b3, h3⟩ : ∃ b, decide (1 ≤ y) = b := ⟨_, rfl⟩
  obtain ⟨b4, h4⟩ : ∃ b, decide (y ≤ 1099511627776) = b := ⟨_, rfl⟩
  rw [h1, h2, h3, h4] at hz
  subst hz
  clear hx hy
  cases b1
  case' true =>
    cases b2
    case' true =>
      cases b3
      case' true =>
        cases b4
  all_goals
    go_enter Tryz.func79, Tryz.ntmps79
    go_wp2_with fail
    go_ret
    exact ⟨rfl, HB.out⟩
end Go.Proofs.YtaodifpnfejbbaaGreat

/-
  The laws of layer 13: CountsSets.
-/
namespace Go.Proofs.YtaodifpnfejbbaaGreat
open Go.RowKit

end Go.Proofs.YtaodifpnfejbbaaGreat

/-
  The laws of layer 13: CountsLaws.
-/
namespace Go.Proofs.YtaodifpnfejbbaaGreat
open Go.RowKit

theorem makeC_back1 (a b : List Rn) : makeC 1 b a = makeC 1 a b := (makeC_unique (makeC_right 1 a b) fun n => by rw [makeC_has, gC1, gC1, Bool.or_comm]).symm
theorem makeC_back2 (a b : List Rn) : makeC 2 b a = makeC 2 a b := (makeC_unique (makeC_right 2 a b) fun n => by rw [makeC_has, gC2, gC2, Bool.and_comm]).symm
theorem makeC_parts (a b : List Rn) : makeC 1 (makeC 3 a b) (makeC 2 a b) = ofC a := (makeC_unique (ofC_right a) fun n => by
  rw [makeC_has, makeC_has, gC1, gC2, gC3, ofC_has]
  cases hasC a n <;> cases hasC b n <;> rfl).symm
theorem makeC_joined (a b : List Rn) : makeC 1 (makeC 3 a b) b = makeC 1 a b := (makeC_unique (makeC_right 1 a b) fun n => by
  rw [makeC_has, makeC_has, gC1, gC1, gC3]
  cases hasC a n <;> cases hasC b n <;> rfl).symm
theorem makeC_apart (a b : List Rn) : makeC 2 (makeC 3 a b) b = [] := (makeC_unique (by rfl) fun n => by
  rw [hasC_nil, makeC_has, gC2, gC3]
  cases hasC a n <;> cases hasC b n <;> rfl).symm
theorem manyC_range (l : List Rn) : 0 ≤ manyC l ∧ manyC l ≤ 1099511627776 := by
  have h1 := many_ok l
  have h2 := base_ok l
  have h3 := most_ok l
  omega
end Go.Proofs.YtaodifpnfejbbaaGreat

/-
  The laws of layer 13: CountsTell.
-/
namespace Go.Proofs.YtaodifpnfejbbaaGreat
open Go.RowKit

theorem ofC_idem (l : List Rn) : ofC (ofC l) = ofC l := (ofC_unique (ofC_right l) fun _ => rfl).symm
theorem manyC_of (l : List Rn) : manyC (ofC l) = manyC l := by unfold manyC; rw [ofC_idem]
theorem it_new (w : World) (x : Int) : kIt.Rd (w.alloc (.cells #[.int .i64 x] 3)) (w.alloc (.cells #[.int .i64 x] 3)).heap.size (some ⟨w.heap.size, 0, none⟩) 1 [x] := by
  rw [size13]
  exact Kind.rd_new (k := kIt) (l := [x]) rfl rfl (by simp)
end Go.Proofs.YtaodifpnfejbbaaGreat

/-
  The laws of layer 13: CountsOf.
-/
namespace Go.Proofs.YtaodifpnfejbbaaGreat
open Go.RowKit

theorem cown_new (w : World) : kRn.Own (w.alloc (.cells #[] 58)) w.heap.size (.slice (some ⟨w.heap.size, 0, none⟩) 0 0) [] := own_none w _ _
end Go.Proofs.YtaodifpnfejbbaaGreat

/-
  A row of the call's own, sorted by the library (slices.SortFunc at elements of several cells): what is asked of it, and what it holds behind.
-/
namespace Go.Proofs.YtaodifpnfejbbaaGreat
open Go.RowKit Go.Sort

theorem grown_sortK {α : Type} [Inhabited α] {enc : α → List Value} {k : Nat} {w : World} {g m : Nat} {os : Array Obj} (d : Array α) : w.grownBy (sortWorldK enc k w g 0 m d os) (some g) := by
  unfold sortWorldK putRowK
  refine ⟨rfl, rfl, rfl, by simp, fun j hj hne => ?_⟩
  rw [heap_grow_old _ _ (by simpa using hj)]
  have : g ≠ j := fun e => hne (by rw [e])
  simp [putRow, mapBlock, Sort.ahead, Array.getElem?_modify, this]
theorem heap_sortK {α : Type} [Inhabited α] {enc : α → List Value} {k : Nat} {w : World} {g m : Nat} {os : Array Obj} {cur : Array Value} {e : TypeId} {fr : Nat × Nat} (d : Array α) (hb : w.heap[g]? = some (.cells cur e fr)) :
    (sortWorldK enc k w g 0 m d os).heap[g]? = some (.cells (putCells id 0 (flatK enc k d) cur) e fr) := by
  have hg : g < w.heap.size := (Array.getElem?_eq_some_iff.1 hb).1
  unfold sortWorldK putRowK
  rw [heap_grow_old _ _ (by simpa using hg)]
  simp [putRow, mapBlock, Sort.ahead, Array.getElem?_modify, hb, onCells]
theorem take_putCells_id (cur F : Array Value) (h : F.size ≤ cur.size) : (putCells id 0 F cur).toList.take F.size = F.toList := by
  apply List.ext_getElem?
  intro j
  by_cases hj : j < F.size
  · rw [List.getElem?_take_of_lt hj, Array.getElem?_toList, Array.getElem?_toList]
    simp [putCells, hj, show j < cur.size by omega]
  · rw [List.getElem?_take_eq_none (by omega), List.getElem?_eq_none (by simp; omega)]
namespace Kind
variable {P : Program} {α : Type} [Inhabited α] (K : Kind P α)
theorem flat_row (d : Array α) : (flatK K.cells K.size d).toList = K.row d.toList := by
  apply List.ext_getElem (by rw [K.row_len]; simp)
  intro t h1 h2
  have ht : t < d.size * K.size := by simpa using h1
  have hk : 0 < K.size := K.pos
  have hq : t / K.size < d.size := Nat.div_lt_of_lt_mul (by rw [Nat.mul_comm]; exact ht)
  have hr : t % K.size < K.size := Nat.mod_lt _ hk
  have e : t / K.size * K.size + t % K.size = t := by rw [Nat.mul_comm]; exact Nat.div_add_mod t K.size
  have hx : d.toList[t / K.size]? = some d[t / K.size]! := by rw [Array.getElem?_toList, getElem!_pos d _ hq, Array.getElem?_eq_getElem hq]
  have := K.row_get hx hr
  rw [e, List.getElem?_eq_getElem h2, List.getElem?_eq_getElem (by rw [K.len]; exact hr)] at this
  injection this with this
  rw [this]
  simp only [flatK, Array.toList_map, Array.toList_range, List.getElem_map, List.getElem_range]
  rw [getElem!_pos _ _ (by rw [K.len]; exact hr)]
variable {K}
theorem Own.holdsK {w : World} {base g n c : Nat} {l : List α} (h : K.Own w base (.slice (some ⟨g, 0, none⟩) n c) l) : HoldsK K.cells K.size w g 0 l.toArray ∧ (l ≠ [] → g < w.heap.size) := by
  rcases h.2 with ⟨h0, _⟩ | ⟨g', cap, cur, hv, hg, hb, hc, _, hz, ht⟩
  · cases h0
  · injection hv with hA
    injection hA with hA
    injection hA with hA
    subst hA
    refine ⟨fun j hj => ?_, fun _ => lt_of_block hb⟩
    have hj' : j < l.length * K.size := by simpa using hj
    refine ⟨?_, by simp [World.frozen?, hb]⟩
    rw [cell_of_row _ _ _ cur _ (0, 0) hb, ← Array.getElem?_toList, Nat.zero_add]
    have h1 : (cur.toList.take (l.length * K.size))[j]? = (K.row l)[j]? := by rw [ht]
    rw [List.getElem?_take_of_lt hj'] at h1
    have h2 := K.flat_row l.toArray
    rw [List.toList_toArray] at h2
    rw [h1, ← h2, Array.getElem?_toList, Array.getElem?_eq_getElem hj, getElem!_pos (flatK K.cells K.size l.toArray) j hj]
    rfl
theorem Own.sorted {w : World} {base g n c m : Nat} {l : List α} {os : Array Obj} (h : K.Own w base (.slice (some ⟨g, 0, none⟩) n c) l) (d : Array α) (hd : d.size = l.length) (hn : n = l.length) :
    K.Own (sortWorldK K.cells K.size w g 0 m d os) base (.slice (some ⟨g, 0, none⟩) n c) d.toList := by
  subst hn
  rcases h.2 with ⟨h0, _⟩ | ⟨g', cap, cur, hv, hg, hb, hc, hm, hz, ht⟩
  · cases h0
  · injection hv with hA h5 h6
    injection hA with hA
    injection hA with hA
    subst hA h6
    have e : d.toList.length = l.length := by rw [Array.length_toList, hd]
    refine ⟨by rw [K.row_len], .inr ⟨g, c, _, by rw [e], hg, heap_sortK d hb, by rw [e]; exact hc, hm, by simp [putCells, hz], ?_⟩⟩
    rw [e, ← K.flat_row, ← hd, ← size_flatK K.cells K.size d]
    refine take_putCells_id _ _ ?_
    rw [size_flatK, hz, hd]
    exact Nat.mul_le_mul_right _ hc
end Kind
theorem perm_of_permIn {α : Type} [Inhabited α] {l : List α} {d : Array α} (h : PermIn 0 l.toArray.size l.toArray d) : d.toList.Perm l := by
  obtain ⟨h1, _, h3⟩ := h
  rw [← h1, Array.extract_size, h1, Array.extract_size] at h3
  simpa using h3
theorem pairs_of_sortedIn {α : Type} [Inhabited α] {lt : α → α → Bool} {d : Array α} (h : SortedIn lt 0 d.size d) : d.toList.Pairwise fun a b => lt b a = false := by
  rw [List.pairwise_iff_getElem]
  intro i j hi hj hij
  have hi' : i < d.size := by simpa using hi
  have hj' : j < d.size := by simpa using hj
  have := h i j (Nat.zero_le _) hij hj'
  rw [getElem!_pos d i hi', getElem!_pos d j hj'] at this
  simpa using this
end Go.Proofs.YtaodifpnfejbbaaGreat

/-
  The shelf's contracts at this program, in plain words (made by wip/tools/shelf.py).
-/
namespace Go.Proofs
open Go.Shelf
def Tryz.sortRn_ren : Go.Shelf.Ren := ⟨fun | 6 => 134 | 15 => 138 | 14 => 146 | 28 => 156 | 29 => 157 | 20 => 170 | 21 => 171 | 22 => 172 | 23 => 173 | 24 => 174 | 25 => 175 | 26 => 176 | 27 => 177 | 46 => 186 | 47 => 179 | 48 => 180 | 49 => 187 | 50 => 188 | 57 => 191 | n => n, fun | 22 => 59 | 24 => 58 | 25 => 143 | 3 => 3 | 39 => 146 | 0 => 0 | 53 => 161 | 55 => 163 | 4 => 4 | 46 => 154 | 45 => 153 | 50 => 158 | 5 => 5 | 9 => 9 | 66 => 179 | 70 => 183 | 76 => 189 | 77 => 190 | n => n, fun | n => n⟩
theorem Tryz.sortRn : Go.Proofs.SlLaysF0.n6 Tryz.prog Tryz.sortRn_ren := {
  mixed := by kernel_rfl
  f6 := ⟨Tryz.f134.name, by decide, Tryz.func134.trans (congrArg some (by kernel_rfl))⟩
  f14 := ⟨Tryz.f146.name, by decide, Tryz.func146.trans (congrArg some (by kernel_rfl))⟩
  f15 := Tryz.func138.trans (congrArg some (by kernel_rfl))
  f20 := ⟨Tryz.f170.name, by decide, Tryz.func170.trans (congrArg some (by kernel_rfl))⟩
  f21 := ⟨Tryz.f171.name, by decide, Tryz.func171.trans (congrArg some (by kernel_rfl))⟩
  f22 := ⟨Tryz.f172.name, by decide, Tryz.func172.trans (congrArg some (by kernel_rfl))⟩
  f23 := ⟨Tryz.f173.name, by decide, Tryz.func173.trans (congrArg some (by kernel_rfl))⟩
  f24 := ⟨Tryz.f174.name, by decide, Tryz.func174.trans (congrArg some (by kernel_rfl))⟩
  f25 := ⟨Tryz.f175.name, by decide, Tryz.func175.trans (congrArg some (by kernel_rfl))⟩
  f26 := ⟨Tryz.f176.name, by decide, Tryz.func176.trans (congrArg some (by kernel_rfl))⟩
  f27 := ⟨Tryz.f177.name, by decide, Tryz.func177.trans (congrArg some (by kernel_rfl))⟩
  f28 := Tryz.func156.trans (congrArg some (by kernel_rfl))
  f29 := Tryz.func157.trans (congrArg some (by kernel_rfl))
  f46 := ⟨Tryz.f186.name, by decide, Tryz.func186.trans (congrArg some (by kernel_rfl))⟩
  f47 := Tryz.func179.trans (congrArg some (by kernel_rfl))
  f48 := Tryz.func180.trans (congrArg some (by kernel_rfl))
  f49 := ⟨Tryz.f187.name, by decide, Tryz.func187.trans (congrArg some (by kernel_rfl))⟩
  f50 := ⟨Tryz.f188.name, by decide, Tryz.func188.trans (congrArg some (by kernel_rfl))⟩
  f57 := ⟨Tryz.f191.name, by decide, Tryz.func191.trans (congrArg some (by kernel_rfl))⟩
  t0 := Tryz.underlying0
  a0 := Tryz.isAgg0
  z0 := Tryz.sizeOf0
  v0 := Tryz.zeroValue0
  t3 := Tryz.underlying3
  a3 := Tryz.isAgg3
  z3 := Tryz.sizeOf3
  v3 := Tryz.zeroValue3
  t4 := Tryz.underlying4
  a4 := Tryz.isAgg4
  z4 := Tryz.sizeOf4
  v4 := Tryz.zeroValue4
  t5 := Tryz.underlying5
  a5 := Tryz.isAgg5
  z5 := Tryz.sizeOf5
  v5 := Tryz.zeroValue5
  t9 := Tryz.underlying9
  a9 := Tryz.isAgg9
  z9 := Tryz.sizeOf9
  v9 := Tryz.zeroValue9
  t22 := Tryz.underlying59
  a22 := Tryz.isAgg59
  z22 := Tryz.sizeOf59
  v22 := Tryz.zeroValue59
  t25 := Tryz.underlying143
  a25 := Tryz.isAgg143
  z25 := Tryz.sizeOf143
  v25 := Tryz.zeroValue143
  t39 := Tryz.underlying146
  a39 := Tryz.isAgg146
  z39 := Tryz.sizeOf146
  v39 := Tryz.zeroValue146
  t45 := Tryz.underlying153
  a45 := Tryz.isAgg153
  z45 := Tryz.sizeOf153
  v45 := Tryz.zeroValue153
  t46 := Tryz.underlying154
  a46 := Tryz.isAgg154
  z46 := Tryz.sizeOf154
  v46 := Tryz.zeroValue154
  t50 := Tryz.underlying158
  a50 := Tryz.isAgg158
  z50 := Tryz.sizeOf158
  v50 := Tryz.zeroValue158
  t53 := Tryz.underlying161
  a53 := Tryz.isAgg161
  z53 := Tryz.sizeOf161
  v53 := Tryz.zeroValue161
  t55 := Tryz.underlying163
  a55 := Tryz.isAgg163
  z55 := Tryz.sizeOf163
  v55 := Tryz.zeroValue163
  t66 := Tryz.underlying179
  a66 := Tryz.isAgg179
  z66 := Tryz.sizeOf179
  v66 := Tryz.zeroValue179
  t70 := Tryz.underlying183
  a70 := Tryz.isAgg183
  z70 := Tryz.sizeOf183
  v70 := Tryz.zeroValue183
  t76 := Tryz.underlying189
  a76 := Tryz.isAgg189
  z76 := Tryz.sizeOf189
  v76 := Tryz.zeroValue189
  t77 := Tryz.underlying190
  a77 := Tryz.isAgg190
  z77 := Tryz.sizeOf190
  v77 := Tryz.zeroValue190 }
end Go.Proofs
