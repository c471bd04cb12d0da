/-
  The laws of layer 12: VersionSorted.
-/
import Derived.Test.YtddamcmbgbefpaaDoorLaw12C
namespace Go.Proofs.YtddamcmbgbefpaaDoor
open Go.RowKit

theorem vr_get {l : List Vr} {k : Nat} (h : k < l.length) : ∃ v, l[k]? = some v ∧ v ∈ l := ⟨l[k], List.getElem?_eq_getElem h, List.getElem_mem h⟩
set_option maxRecDepth 100000 in
set_option maxHeartbeats 8000000 in
theorem versionSorted_walk (HT : VTextC 12) (HP : VParseC 13) (HS : VSortC 15)
    (A : Option Addr) (c n : Nat) (l : List Vr) (hn : n = l.length) (w : World) (hsy : SysAt w) (ha : kVr.Rd w w.heap.size A c l) :
    Calls Tryd.prog 5 #[.slice A n c] w fun e w' => e = .returned (.bool true) ∧ Below w.heap.size w w' := by
  have A0 := fun w hsw => Lib.hid (awake12 HT HP HS w hsw)
  have SY := Lib.hid hsy
  clear hsy
  have HA := Lib.hid ha
  have HW := Lib.hid (Below.refl w.heap.size w)
  have HN := Lib.hid hn
  have hnc : n ≤ c := by rw [hn]; exact ha.room
  by_cases h60 : n ≤ 60
  · have S1 := fun w hr => Lib.hid (HS A c n l hn (by omega) w hr)
    clear HT HP HS hn ha
    go_enter Tryd.func5, Tryd.ntmps5
    go_wp2_with (first
      | ((with_reducible refine (A0 _ SY.out).out.mono ?_); rintro e w9 ⟨rfl, hq⟩; replace HW := Lib.hid (HW.out.trans (hq.mono HW.out.size)); replace HA := Lib.hid (HA.out.call hq); clear hq)
      | ((with_reducible refine (S1 _ HA.out).out.mono ?_); rintro e w1 ⟨r, A1, c1, N, hN, hs, rfl, hrd, hq⟩; replace HW := Lib.hid (HW.out.trans (hq.mono HW.out.size)); replace HA := Lib.hid (HA.out.call hq); have HR := Lib.hid hrd; have HSR := Lib.hid hs; have HNN := Lib.hid hN; have hNc : N ≤ c1 := (by rw [hN]; exact hrd.room); have hN9 : N ≤ 9223372036854775807 := (by have h2 := hrd.cap; unfold maxLen at h2; omega); clear hrd hs hN hq))
    clear A0 S1
    go_loopw [17] (fun i wr => ∃ k : Nat, k ≤ N ∧ i = .int .i64 k ∧ Hid (Below w1.heap.size w1 wr)) (fun i _ => N - (intOf i).toNat)
    case atStart => exact ⟨0, by omega, rfl, Below.refl _ _⟩
    case round =>
      obtain ⟨k, hk, rfl, HB⟩ := hrel
      by_cases hlt : k < N
      · obtain ⟨a, hg, hm⟩ := vr_get (l := r) (k := k) (by have := HNN.out; omega)
        obtain ⟨b, o, rfl, hb1, hcell⟩ := vrs_at (HR.out.call HB.out) (by have := HNN.out; omega)
        obtain ⟨c0, c1'⟩ := hcell k a hg
        obtain ⟨hml, hrt⟩ := (HSR.out.mem a).1 hm
        obtain ⟨x, hx⟩ : ∃ x, a.rep = x := ⟨_, rfl⟩
        obtain ⟨y, hy⟩ : ∃ y, a.cnt = y := ⟨_, rfl⟩
        rw [hx] at c0
        rw [hy] at c1'
        obtain ⟨WB, hWB⟩ : ∃ WB, wr.alloc (.cells #[.int .i64 x, .int .i64 y] 23) = WB := ⟨_, rfl⟩
        have HB1 := Lib.hid (show Below w1.heap.size w1 WB from hWB ▸ HB.out.alloc HB.out.size _)
        obtain ⟨m0, m1⟩ := vr_new wr x y
        rw [hWB] at m0 m1
        have CRR := fun w => ref_vrright a x y hx hy true hrt w
        have CRR := Lib.hid (fun L => cellL_of (a := WB) (l := L) CRR)
        have CH := Lib.hid (fun (L : List (Addr × Value)) => fun (W : World) (hC : CellL WB L W) => (ref_vrhas A c n l a x y hx hy HN.out true (hasVr_iff.2 hml) W (HA.out.call (HB1.out.trans ((cellL_size hC).mono HB1.out.size)))).mono fun (e : Ending) (W' : World) ⟨h1, h2⟩ => (⟨h1, cellL_call h2 hC⟩ : e = Ending.returned (.bool true) ∧ CellL WB L W'))
        cases k with
        | zero =>
          rw [Nat.zero_mul, Nat.add_zero] at c0 c1'
          have HC := Lib.hid (show CellL WB [(⟨wr.heap.size, 0, none⟩, .int .i64 x), (⟨wr.heap.size, 1, none⟩, .int .i64 y)] WB from ⟨m0, m1, Below.refl _ _⟩)
          clear hcell hg hm hml hrt hx hy HB
          go_wp2_with fail
          clear hWB m0 m1 c0 c1'
          refine q_region (CellL WB [(⟨wr.heap.size, 0, none⟩, .int .i64 x), (⟨wr.heap.size, 1, none⟩, .int .i64 y)]) (by kernel_rfl) (by kernel_rfl) (cellL_drew HC.out) ?_
          repeat (first
            | go_big_quiet_skip
            | (go_big_quiet_want; (first
              | (refine q_take (v := ?_) ?_ ?_; rotate_left; (focus (intro w hSw; (try simp only [CellL] at hSw); go_split_ands; go_simp; (try (rw [if_neg (by omega)])); (try with_reducible rfl); done)))
              | (refine q_call (CRR.out _) ?_ ?_; (focus (intro w hSw; (try simp only [CellL] at hSw); go_split_ands; go_simp; (try (rw [if_neg (by omega)])); done)))
              | (refine q_call (CH.out _) ?_ ?_; (focus (intro w hSw; (try simp only [CellL] at hSw); go_split_ands; go_simp; (try (rw [if_neg (by omega)])); done)))); (try simp only [Act.put, List.setIfInBounds_toArray, List.set_cons_zero, List.set_cons_succ]); go_big_quiet_on))
          refine wpQuiet_nil ?_
          intro w2 hw2
          have HB2 := Lib.hid (HB1.out.trans ((cellL_size hw2).mono HB1.out.size))
          clear hw2
          go_wp2_with fail
          go_roundw
          case rel => exact ⟨1, by omega, by go_num, HB2⟩
          case measure => simp [intOf]; omega
        | succ j =>
          obtain ⟨a', hg', -⟩ := vr_get (l := r) (k := j) (by have := HNN.out; omega)
          obtain ⟨d0, d1⟩ := hcell j a' hg'
          obtain ⟨u, hu⟩ : ∃ u, a'.rep = u := ⟨_, rfl⟩
          obtain ⟨v, hv⟩ : ∃ v, a'.cnt = v := ⟨_, rfl⟩
          rw [hu] at d0
          rw [hv] at d1
          have CL := fun w => ref_vrless a' a u v x y hu hv hx hy true (HSR.out.next hg' hg) w
          have CL := Lib.hid (fun L => cellL_of (a := WB) (l := L) CL)
          have e0 := cell_keep d0 (.cells #[.int .i64 x, .int .i64 y] 23)
          have e1 := cell_keep d1 (.cells #[.int .i64 x, .int .i64 y] 23)
          rw [hWB] at e0 e1
          have HC := Lib.hid (show CellL WB [(⟨wr.heap.size, 0, none⟩, .int .i64 x), (⟨wr.heap.size, 1, none⟩, .int .i64 y), (⟨b, o + j * 2, none⟩, .int .i64 u), (⟨b, o + j * 2 + 1, none⟩, .int .i64 v)] WB from ⟨m0, m1, e0, e1, Below.refl _ _⟩)
          have hj0 : (0 : Int) ≤ (j : Int) := by omega
          have hjn : (j : Int) < (N : Int) := by omega
          have hjd : decide ((j : Int) < 0) = false := decide_eq_false (by omega)
          have hjg : decide ((0 : Int) < (j : Int) + 1) = true := decide_eq_true (by omega)
          have hjw : IntKind.i64.wrap ((j : Int) + 1 - 1) = (j : Int) := by rw [Int.add_sub_cancel]; exact IntWalk.i64_in _ (by omega)
          have hjw2 : IntKind.i64.wrap (j : Int) = (j : Int) := IntWalk.i64_in _ (by omega)
          clear hcell hg hm hml hrt hx hy HB hg' hu hv d0 d1 e0 e1
          go_wp2_with fail
          clear hWB m0 m1 c0 c1'
          refine q_region (CellL WB [(⟨wr.heap.size, 0, none⟩, .int .i64 x), (⟨wr.heap.size, 1, none⟩, .int .i64 y), (⟨b, o + j * 2, none⟩, .int .i64 u), (⟨b, o + j * 2 + 1, none⟩, .int .i64 v)]) (by kernel_rfl) (by kernel_rfl) (cellL_drew HC.out) ?_
          repeat (first
            | go_big_quiet_skip
            | (go_big_quiet_want; (first
              | (refine q_take (v := ?_) ?_ ?_; rotate_left; (focus (intro w hSw; (try simp only [CellL] at hSw); go_split_ands; go_simp; (try (rw [if_neg (by omega)])); (try with_reducible rfl); done)))
              | (refine q_call (CRR.out _) ?_ ?_; (focus (intro w hSw; (try simp only [CellL] at hSw); go_split_ands; go_simp; (try (rw [if_neg (by omega)])); done)))
              | (refine q_call (CH.out _) ?_ ?_; (focus (intro w hSw; (try simp only [CellL] at hSw); go_split_ands; go_simp; (try (rw [if_neg (by omega)])); done)))
              | (refine q_call (CL.out _) ?_ ?_; (focus (intro w hSw; (try simp only [CellL] at hSw); go_split_ands; go_simp; (try (rw [if_neg (by omega)])); done)))); (try simp only [Act.put, List.setIfInBounds_toArray, List.set_cons_zero, List.set_cons_succ]); go_big_quiet_on))
          refine wpQuiet_nil ?_
          intro w2 hw2
          have HB2 := Lib.hid (HB1.out.trans ((cellL_size hw2).mono HB1.out.size))
          clear hw2
          go_wp2_with fail
          go_roundw
          case rel => exact ⟨j + 1 + 1, by omega, by go_num, HB2⟩
          case measure => simp [intOf]; omega
      · go_wp2_with fail
        go_loopw [48] (fun i wr => ∃ k : Nat, k ≤ n ∧ i = .int .i64 k ∧ Hid (Below w1.heap.size w1 wr)) (fun i _ => n - (intOf i).toNat)
        case atStart => exact ⟨0, by omega, rfl, HB⟩
        case round =>
          clear HB
          obtain ⟨k2, hk2, rfl, HB⟩ := hrel
          by_cases hlt2 : k2 < n
          · obtain ⟨a, hg, hm⟩ := vr_get (l := l) (k := k2) (by have := HN.out; omega)
            obtain ⟨b, o, rfl, hb1, hcell⟩ := vrs_at (HA.out.call HB.out) (by have := HN.out; omega)
            obtain ⟨c0, c1'⟩ := hcell k2 a hg
            obtain ⟨x, hx⟩ : ∃ x, a.rep = x := ⟨_, rfl⟩
            obtain ⟨y, hy⟩ : ∃ y, a.cnt = y := ⟨_, rfl⟩
            obtain ⟨z, hz⟩ : ∃ z, rightVr a = z := ⟨_, rfl⟩
            have RR := fun w => Lib.hid (ref_vrright a x y hx hy z hz w)
            have HB1 := Lib.hid (HB.out.alloc HB.out.size (.cells #[.int .i64 x, .int .i64 y] 23))
            rw [hx] at c0
            rw [hy] at c1'
            cases z
            · clear hcell hg hm hx hy hz
              go_wp2_with ((with_reducible refine (RR _).out.mono ?_); rintro e w5 ⟨rfl, hq⟩; have HB2 := Lib.hid (HB1.out.trans (hq.mono HB1.out.size)); clear hq)
              go_roundw
              case rel => exact ⟨k2 + 1, by omega, by go_num, HB2⟩
              case measure => simp [intOf]; omega
            · have RH := fun w hr => Lib.hid (ref_vrhas A1 c1 N r a x y hx hy HNN.out true (hasVr_iff.2 ((HSR.out.mem a).2 ⟨hm, hz⟩)) w hr)
              clear hcell hg hm hx hy hz
              go_wp2_with (first
                | ((with_reducible refine (RR _).out.mono ?_); rintro e w5 ⟨rfl, hq⟩; have HB2 := Lib.hid (HB1.out.trans (hq.mono HB1.out.size)); obtain ⟨hc5, hf5⟩ := bcell hq; clear hq)
                | ((with_reducible refine (RH _ (HR.out.call HB2.out)).out.mono ?_); rintro e w6 ⟨rfl, hq⟩; have HB3 := Lib.hid (HB2.out.trans (hq.mono HB2.out.size)); clear hq))
              go_roundw
              case rel => exact ⟨k2 + 1, by omega, by go_num, HB3⟩
              case measure => simp [intOf]; omega
          · go_wp2_with fail
            go_ret
            exact ⟨rfl, HW.out.trans (HB.out.mono HW.out.size)⟩
  · clear HT HP HS hn ha
    go_enter Tryd.func5, Tryd.ntmps5
    go_wp2_with ((with_reducible refine (A0 _ SY.out).out.mono ?_); rintro e w9 ⟨rfl, hq⟩; replace HW := Lib.hid (HW.out.trans (hq.mono HW.out.size)); clear hq)
    go_ret
    exact ⟨rfl, HW.out⟩
end Go.Proofs.YtddamcmbgbefpaaDoor
