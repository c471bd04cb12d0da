/-
  The laws of layer 12: VersionOrder, VersionTotal.
-/
import Derived.Test.YtddamcmbgbefpaaDoorLaw12A
namespace Go.Proofs.YtddamcmbgbefpaaDoor
open Go.RowKit

theorem vr_new (w : World) (x y : Int) : (w.alloc (.cells #[.int .i64 x, .int .i64 y] 23)).cell? ⟨w.heap.size, 0, none⟩ = some (.int .i64 x) ∧ (w.alloc (.cells #[.int .i64 x, .int .i64 y] 23)).cell? ⟨w.heap.size, 1, none⟩ = some (.int .i64 y) := by
  have hg := heap_new w (.cells #[.int .i64 x, .int .i64 y] 23) _ rfl
  exact ⟨by rw [cell_of_row _ _ _ _ _ _ hg]; rfl, by rw [cell_of_row _ _ _ _ _ _ hg]; rfl⟩
theorem cell_keep {w : World} {p : Addr} {v : Value} (h : w.cell? p = some v) (o : Obj) : (w.alloc o).cell? p = some v := ((below_new w o).cell (p := p) (World.block_lt_of_cell? w p h)).trans h
set_option maxRecDepth 100000 in
set_option maxHeartbeats 4000000 in
theorem versionOrder_walk (HR : VRightC 9) (HC0 : VCmpC 11) (HT : VTextC 12) (HP : VParseC 13) (HS : VSortC 15)
    (a b : Vr) (x y u v : Int) (hx : a.rep = x) (hy : a.cnt = y) (hu : b.rep = u) (hv : b.cnt = v) (w : World) (hsy : SysAt w) :
    Calls Tryd.prog 3 #[.agg #[.int .i64 x, .int .i64 y], .agg #[.int .i64 u, .int .i64 v]] w fun e w' => e = .returned (.bool true) ∧ Below w.heap.size w w' := by
  have A0 := fun w hsw => Lib.hid (awake12 HT HP HS w hsw)
  obtain ⟨r, hr⟩ : ∃ r, rightVr a = r := ⟨_, rfl⟩
  obtain ⟨z, hz⟩ : ∃ z, cmpVr a b = z := ⟨_, rfl⟩
  obtain ⟨z', hz'⟩ : ∃ z, cmpVr b a = z := ⟨_, rfl⟩
  obtain ⟨l1, hl1⟩ : ∃ l, lessVr a b = l := ⟨_, rfl⟩
  obtain ⟨l2, hl2⟩ : ∃ l, lessVr b a = l := ⟨_, rfl⟩
  have KEY := cmpVr_three a b
  rw [hz, hz', hl1, hl2] at KEY
  have L1 := fun w => Lib.hid (ref_vrless a b x y u v hx hy hu hv l1 hl1 w)
  have L2 := fun w => Lib.hid (ref_vrless b a u v x y hu hv hx hy l2 hl2 w)
  obtain ⟨WB, hWB⟩ : ∃ WB, (w.alloc (.cells #[.int .i64 x, .int .i64 y] 23)).alloc (.cells #[.int .i64 u, .int .i64 v] 23) = WB := ⟨_, rfl⟩
  have HB := Lib.hid (show Below w.heap.size w WB from hWB ▸ ((below_new w (.cells #[.int .i64 x, .int .i64 y] 23)).alloc (by simp) _))
  have SB := Lib.hid (hsy.below HB.out (Nat.le_refl _))
  have CR := fun w => HR a x y hx hy r hr w
  have CR := Lib.hid (fun L => cellL_of (a := WB) (l := L) CR)
  have CRR := fun w => ref_vrright a x y hx hy r hr w
  have CRR := Lib.hid (fun L => cellL_of (a := WB) (l := L) CRR)
  have CC1 := fun w => HC0 a b x y u v hx hy hu hv z hz w
  have CC1 := Lib.hid (fun L => cellL_of (a := WB) (l := L) CC1)
  have CC2 := fun w => HC0 b a u v x y hu hv hx hy z' hz' w
  have CC2 := Lib.hid (fun L => cellL_of (a := WB) (l := L) CC2)
  obtain ⟨n0, n1⟩ := vr_new w x y
  have m0 := cell_keep n0 (.cells #[.int .i64 u, .int .i64 v] 23)
  have m1 := cell_keep n1 (.cells #[.int .i64 u, .int .i64 v] 23)
  obtain ⟨k0, k1⟩ := vr_new (w.alloc (.cells #[.int .i64 x, .int .i64 y] 23)) u v
  rw [size1] at k0 k1
  rw [hWB] at m0 m1 k0 k1
  have HC := Lib.hid (show CellL WB [(⟨w.heap.size, 0, none⟩, .int .i64 x), (⟨w.heap.size, 1, none⟩, .int .i64 y), (⟨w.heap.size + 1, 0, none⟩, .int .i64 u), (⟨w.heap.size + 1, 1, none⟩, .int .i64 v)] WB from ⟨m0, m1, k0, k1, Below.refl _ _⟩)
  clear hsy HR HC0 HT HP HS hx hy hu hv hr hz hz' hl1 hl2 n0 n1
  rcases KEY with ⟨rfl, rfl, rfl, rfl⟩ | ⟨rfl, rfl, rfl, rfl⟩ | ⟨rfl, rfl, rfl, rfl, -⟩
  all_goals
    go_enter Tryd.func3, Tryd.ntmps3
    go_wp2_with (first
      | ((with_reducible refine (A0 _ SB.out).out.mono ?_); rintro e w9 ⟨rfl, hq⟩; replace HC := Lib.hid (cellL_call hq HC.out); clear hq m0 m1 k0 k1; obtain ⟨m0, m1, k0, k1, -⟩ := HC.out)
      | ((with_reducible refine (L1 _).out.mono ?_); rintro e w9 ⟨rfl, hq⟩; replace HC := Lib.hid (cellL_call hq HC.out); clear hq m0 m1 k0 k1; obtain ⟨m0, m1, k0, k1, -⟩ := HC.out)
      | ((with_reducible refine (L2 _).out.mono ?_); rintro e w9 ⟨rfl, hq⟩; replace HC := Lib.hid (cellL_call hq HC.out); clear hq m0 m1 k0 k1; obtain ⟨m0, m1, k0, k1, -⟩ := HC.out))
    clear m0 m1 k0 k1
    refine q_region (CellL WB [(⟨w.heap.size, 0, none⟩, .int .i64 x), (⟨w.heap.size, 1, none⟩, .int .i64 y), (⟨w.heap.size + 1, 0, none⟩, .int .i64 u), (⟨w.heap.size + 1, 1, none⟩, .int .i64 v)]) (by kernel_rfl) (by kernel_rfl) (cellL_drew HC.out) ?_
    repeat (first
      | go_big_quiet_skip
      | (go_big_quiet_want; (first
        | (refine q_take (v := ?_) ?_ ?_; rotate_left; (focus (intro w hSw; (try simp only [CellL] at hSw); go_split_ands; go_simp; (try (rw [if_neg (by omega)])); (try with_reducible rfl); done)))
        | (refine q_call (CR.out _) ?_ ?_; (focus (intro w hSw; (try simp only [CellL] at hSw); go_split_ands; go_simp; (try (rw [if_neg (by omega)])); done)))
        | (refine q_call (CRR.out _) ?_ ?_; (focus (intro w hSw; (try simp only [CellL] at hSw); go_split_ands; go_simp; (try (rw [if_neg (by omega)])); done)))
        | (refine q_call (CC1.out _) ?_ ?_; (focus (intro w hSw; (try simp only [CellL] at hSw); go_split_ands; go_simp; (try (rw [if_neg (by omega)])); done)))
        | (refine q_call (CC2.out _) ?_ ?_; (focus (intro w hSw; (try simp only [CellL] at hSw); go_split_ands; go_simp; (try (rw [if_neg (by omega)])); done)))); (try simp only [Act.put, List.setIfInBounds_toArray, List.set_cons_zero, List.set_cons_succ]); go_big_quiet_on))
    refine wpQuiet_nil ?_
    intro w2 hw2
    have HB2 := Lib.hid (HB.out.trans ((cellL_size hw2).mono HB.out.size))
    clear hw2
    go_wp2_with fail
    go_ret
    exact ⟨rfl, HB2.out⟩
theorem cmp_total (a b c : Vr) : (cmpVr a b = -1 ∧ cmpVr b c = -1 ∧ cmpVr a c = -1) ∨ (cmpVr a b = -1 ∧ cmpVr b c = 0 ∧ cmpVr a c = -1) ∨ (cmpVr a b = 0 ∧ cmpVr b c = -1 ∧ cmpVr a c = -1) ∨ (cmpVr a b = 0 ∧ cmpVr b c = 0 ∧ cmpVr a c = 0) ∨
    (cmpVr a b = 1 ∧ cmpVr b c = 1 ∧ cmpVr a c = 1) ∨ (cmpVr a b = 1 ∧ cmpVr b c = 0 ∧ cmpVr a c = 1) ∨ (cmpVr a b = 0 ∧ cmpVr b c = 1 ∧ cmpVr a c = 1) ∨
    (cmpVr a b = -1 ∧ cmpVr b c = 1 ∧ (cmpVr a c = -1 ∨ cmpVr a c = 0 ∨ cmpVr a c = 1)) ∨ (cmpVr a b = 1 ∧ cmpVr b c = -1 ∧ (cmpVr a c = -1 ∨ cmpVr a c = 0 ∨ cmpVr a c = 1)) := by
  have h1 := cmpVr_num a b
  have h2 := cmpVr_num b c
  have h3 := cmpVr_num a c
  generalize cmpVr a b = X at *
  generalize cmpVr b c = Y at *
  generalize cmpVr a c = Z at *
  rcases h1 with ⟨rfl, h1⟩ | ⟨rfl, h1⟩ | ⟨rfl, h1⟩ <;> rcases h2 with ⟨rfl, h2⟩ | ⟨rfl, h2⟩ | ⟨rfl, h2⟩ <;> rcases h3 with ⟨rfl, h3⟩ | ⟨rfl, h3⟩ | ⟨rfl, h3⟩ <;> first | (simp; done) | (exfalso; omega)
set_option maxRecDepth 100000 in
set_option maxHeartbeats 8000000 in
theorem versionTotal_walk (HC0 : VCmpC 11) (HT : VTextC 12) (HP : VParseC 13) (HS : VSortC 15)
    (a b c : Vr) (x y u v p q : Int) (hx : a.rep = x) (hy : a.cnt = y) (hu : b.rep = u) (hv : b.cnt = v) (hp : c.rep = p) (hq' : c.cnt = q) (w : World) (hsy : SysAt w) :
    Calls Tryd.prog 6 #[.agg #[.int .i64 x, .int .i64 y], .agg #[.int .i64 u, .int .i64 v], .agg #[.int .i64 p, .int .i64 q]] w fun e w' => e = .returned (.bool true) ∧ Below w.heap.size w w' := by
  have A0 := fun w hsw => Lib.hid (awake12 HT HP HS w hsw)
  obtain ⟨X, hX⟩ : ∃ z, cmpVr a b = z := ⟨_, rfl⟩
  obtain ⟨Y, hY⟩ : ∃ z, cmpVr b c = z := ⟨_, rfl⟩
  obtain ⟨Z, hZ⟩ : ∃ z, cmpVr a c = z := ⟨_, rfl⟩
  obtain ⟨X', hX'⟩ : ∃ z, cmpVr b a = z := ⟨_, rfl⟩
  have KEY := cmp_total a b c
  have hneg : X' = -X := by rw [← hX', ← hX]; exact cmpVr_back a b
  have h3 : X = -1 ∨ X = 0 ∨ X = 1 := by rcases cmpVr_num a b with h | h | h <;> rw [hX] at h <;> omega
  have hw : IntKind.i64.wrap (-X) = X' := by rw [hneg]; exact IntWalk.i64_in _ (by omega)
  have hw2 : wrap64 (-X) = X' := by rw [hneg]; unfold wrap64; omega
  obtain ⟨g, hg⟩ : ∃ g, (X == 0) = g := ⟨_, rfl⟩
  have EQ := fun w => eq_vr x y u v g (by
    rw [← hg]
    have hz := cmpVr_zero (a := a) (b := b)
    rw [hX] at hz
    rw [Bool.eq_iff_iff, Bool.and_eq_true, beq_iff_eq, beq_iff_eq, beq_iff_eq, hz]
    constructor
    · rintro ⟨h1, h2⟩; exact vr_ext (by omega) (by omega)
    · intro h; subst h; omega) w
  rw [hX, hY, hZ] at KEY
  obtain ⟨WB, hWB⟩ : ∃ WB, ((w.alloc (.cells #[.int .i64 x, .int .i64 y] 23)).alloc (.cells #[.int .i64 u, .int .i64 v] 23)).alloc (.cells #[.int .i64 p, .int .i64 q] 23) = WB := ⟨_, rfl⟩
  have HB := Lib.hid (show Below w.heap.size w WB from hWB ▸ (((below_new w (.cells #[.int .i64 x, .int .i64 y] 23)).alloc (by simp) _).alloc (by simp; omega) _))
  have SB := Lib.hid (hsy.below HB.out (Nat.le_refl _))
  have CC1 := fun w => HC0 a b x y u v hx hy hu hv X hX w
  have CC1 := Lib.hid (fun L => cellL_of (a := WB) (l := L) CC1)
  have CC2 := fun w => HC0 b c u v p q hu hv hp hq' Y hY w
  have CC2 := Lib.hid (fun L => cellL_of (a := WB) (l := L) CC2)
  have CC3 := fun w => HC0 a c x y p q hx hy hp hq' Z hZ w
  have CC3 := Lib.hid (fun L => cellL_of (a := WB) (l := L) CC3)
  have CC4 := fun w => HC0 b a u v x y hu hv hx hy X' hX' w
  have CC4 := Lib.hid (fun L => cellL_of (a := WB) (l := L) CC4)
  obtain ⟨n0, n1⟩ := vr_new w x y
  have n0 := cell_keep (cell_keep n0 (.cells #[.int .i64 u, .int .i64 v] 23)) (.cells #[.int .i64 p, .int .i64 q] 23)
  have n1 := cell_keep (cell_keep n1 (.cells #[.int .i64 u, .int .i64 v] 23)) (.cells #[.int .i64 p, .int .i64 q] 23)
  obtain ⟨k0, k1⟩ := vr_new (w.alloc (.cells #[.int .i64 x, .int .i64 y] 23)) u v
  have k0 := cell_keep k0 (.cells #[.int .i64 p, .int .i64 q] 23)
  have k1 := cell_keep k1 (.cells #[.int .i64 p, .int .i64 q] 23)
  obtain ⟨j0, j1⟩ := vr_new ((w.alloc (.cells #[.int .i64 x, .int .i64 y] 23)).alloc (.cells #[.int .i64 u, .int .i64 v] 23)) p q
  rw [size1, size1] at j0 j1
  rw [size1] at k0 k1
  rw [hWB] at n0 n1 k0 k1 j0 j1
  have HC := Lib.hid (show CellL WB [(⟨w.heap.size, 0, none⟩, .int .i64 x), (⟨w.heap.size, 1, none⟩, .int .i64 y), (⟨w.heap.size + 1, 0, none⟩, .int .i64 u), (⟨w.heap.size + 1, 1, none⟩, .int .i64 v), (⟨w.heap.size + 1 + 1, 0, none⟩, .int .i64 p), (⟨w.heap.size + 1 + 1, 1, none⟩, .int .i64 q)] WB from ⟨n0, n1, k0, k1, j0, j1, Below.refl _ _⟩)
  have HK := Lib.hid KEY
  have HN := Lib.hid hneg
  clear hsy HC0 HT HP HS hx hy hu hv hp hq' hX hY hZ hX' n0 n1 k0 k1 j0 j1 KEY h3 hneg
  go_enter Tryd.func6, Tryd.ntmps6
  go_wp2_with ((with_reducible refine (A0 _ SB.out).out.mono ?_); rintro e w9 ⟨rfl, hq⟩; replace HC := Lib.hid (cellL_call hq HC.out); clear hq)
  refine q_region (CellL WB [(⟨w.heap.size, 0, none⟩, .int .i64 x), (⟨w.heap.size, 1, none⟩, .int .i64 y), (⟨w.heap.size + 1, 0, none⟩, .int .i64 u), (⟨w.heap.size + 1, 1, none⟩, .int .i64 v), (⟨w.heap.size + 1 + 1, 0, none⟩, .int .i64 p), (⟨w.heap.size + 1 + 1, 1, none⟩, .int .i64 q)]) (by kernel_rfl) (by kernel_rfl) (cellL_drew HC.out) ?_
  repeat (first
    | go_big_quiet_skip
    | (go_big_quiet_want; (first
      | (refine q_take (v := ?_) ?_ ?_; rotate_left; (focus (intro w hSw; (try simp only [CellL] at hSw); go_split_ands; go_simp; (try (rw [if_neg (by omega)])); (try with_reducible rfl); done)))
      | (refine q_call (CC1.out _) ?_ ?_; (focus (intro w hSw; (try simp only [CellL] at hSw); go_split_ands; go_simp; (try (rw [if_neg (by omega)])); done)))
      | (refine q_call (CC2.out _) ?_ ?_; (focus (intro w hSw; (try simp only [CellL] at hSw); go_split_ands; go_simp; (try (rw [if_neg (by omega)])); done)))
      | (refine q_call (CC3.out _) ?_ ?_; (focus (intro w hSw; (try simp only [CellL] at hSw); go_split_ands; go_simp; (try (rw [if_neg (by omega)])); done)))); (try simp only [Act.put, List.setIfInBounds_toArray, List.set_cons_zero, List.set_cons_succ]); go_big_quiet_on))
  refine wpQuiet_nil ?_
  intro w2 hw2
  replace HC := Lib.hid hw2
  clear hw2
  go_wp2_with fail
  refine q_region (CellL WB [(⟨w.heap.size, 0, none⟩, .int .i64 x), (⟨w.heap.size, 1, none⟩, .int .i64 y), (⟨w.heap.size + 1, 0, none⟩, .int .i64 u), (⟨w.heap.size + 1, 1, none⟩, .int .i64 v), (⟨w.heap.size + 1 + 1, 0, none⟩, .int .i64 p), (⟨w.heap.size + 1 + 1, 1, none⟩, .int .i64 q)]) (by kernel_rfl) (by kernel_rfl) (cellL_drew HC.out) ?_
  repeat (first
    | go_big_quiet_skip
    | (go_big_quiet_want; (first
      | (refine q_take (v := ?_) ?_ ?_; rotate_left; (focus (intro w hSw; (try simp only [CellL] at hSw); go_split_ands; go_simp; (try (rw [if_neg (by omega)])); (try with_reducible rfl); done)))
      | (refine q_call (CC1.out _) ?_ ?_; (focus (intro w hSw; (try simp only [CellL] at hSw); go_split_ands; go_simp; (try (rw [if_neg (by omega)])); done)))
      | (refine q_call (CC4.out _) ?_ ?_; (focus (intro w hSw; (try simp only [CellL] at hSw); go_split_ands; go_simp; (try (rw [if_neg (by omega)])); done)))); (try simp only [Act.put, List.setIfInBounds_toArray, List.set_cons_zero, List.set_cons_succ]); go_big_quiet_on))
  refine wpQuiet_nil ?_
  intro w3 hw3
  have HB2 := Lib.hid (HB.out.trans ((cellL_size hw3).mono HB.out.size))
  clear hw3 hg hw hw2
  rcases HK.out with ⟨rfl, rfl, rfl⟩ | ⟨rfl, rfl, rfl⟩ | ⟨rfl, rfl, rfl⟩ | ⟨rfl, rfl, rfl⟩ | ⟨rfl, rfl, rfl⟩ | ⟨rfl, rfl, rfl⟩ | ⟨rfl, rfl, rfl⟩ | ⟨rfl, rfl, rfl | rfl | rfl⟩ | ⟨rfl, rfl, rfl | rfl | rfl⟩
  all_goals
    go_wp2_with fail
    go_ret
    exact ⟨rfl, HB2.out⟩
end Go.Proofs.YtddamcmbgbefpaaDoor
