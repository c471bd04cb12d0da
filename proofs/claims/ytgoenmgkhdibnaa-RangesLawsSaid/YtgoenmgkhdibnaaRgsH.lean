/-
  Layer 8 (ranges), the program: is a list right.
-/
import Derived.Test.YtgoenmgkhdibnaaRgsG
namespace Go.Proofs.Ytgoenmgkhdibnaa
open Go.RowKit

set_option maxHeartbeats 1000000 in
theorem rgs_right (A : Option Addr) (c n : Nat) (l : List Rng) (hn : n = l.length) (v : Bool) (hv : rightL l = v) (w : World) (hr : kRng.Rd w w.heap.size A c l) :
    Calls Try.prog 10 #[.slice A n c] w fun e w' => e = .returned (.bool v) ∧ Below w.heap.size w w' := by
  have HN := Lib.hid hn
  have HR := Lib.hid hr
  have hmx : n ≤ 9223372036854775807 := rd_max hr hn
  have hcx : n ≤ c := by rw [hn]; exact hr.room
  subst hv
  clear hn hr
  go_enter Try.func10, Try.ntmps10
  go_wp2_with fail
  go_loopw [7] (fun i wr => ∃ k : Nat, k ≤ n ∧ Hid (rightL l = rightF (prevR l k) (l.drop k)) ∧ i = .int .i64 k ∧ Below w.heap.size w wr) (fun i _ => n - (intOf i).toNat)
  case atStart => exact ⟨0, by omega, (rightF_none l).symm, rfl, Below.refl _ _⟩
  case round =>
    obtain ⟨k, hk, HL, rfl, hb⟩ := hrel
    by_cases hlt : k < n
    · obtain ⟨r, hg, hd, -⟩ := get_some (l := l) (k := k) (by have := HN.out; omega)
      have HR1 := Lib.hid (HR.out.below hb)
      obtain ⟨b, o, rfl, hb1, hcell⟩ := rngs_at HR1.out (by have := HN.out; omega)
      obtain ⟨c0, c1, c2⟩ := hcell k r hg
      obtain ⟨d, hdv⟩ : ∃ d, rightR r = d := ⟨_, rfl⟩
      have C := fun w => (span_right r _ _ _ d (IsR.mk' r) hdv w)
      have hbl := Nat.lt_of_lt_of_le hb1 hb.size
      obtain ⟨S, hS⟩ : ∃ S, str r.lo = S := ⟨_, rfl⟩
      obtain ⟨T, hT⟩ : ∃ T, str r.hi = T := ⟨_, rfl⟩
      obtain ⟨q, hq⟩ : ∃ q, r.op = q := ⟨_, rfl⟩
      have HG := rgAt_new wr S T q 35
      have HB1 := hb.alloc hb.size (.cells #[.string S, .string T, .bool q] 35)
      have HC : Hid (CellL w [(⟨wr.heap.size, 0, none⟩, .string S), (⟨wr.heap.size, 1, none⟩, .string T), (⟨wr.heap.size, 2, none⟩, .bool q)] (wr.alloc (.cells #[.string S, .string T, .bool q] 35))) := ⟨HG.1, HG.2.1, HG.2.2.1, HB1⟩
      rw [hS, hT, hq] at C
      rw [hS] at c0
      rw [hT] at c1
      rw [hq] at c2
      cases d
      · have HL2 := Lib.hid (HL.out.trans (show rightF (prevR l k) (l.drop k) = false by rw [hd]; cases prevR l k <;> simp [rightF, hdv]))
        have C := Lib.hid (fun L => cellL_of (a := w) (l := L) C)
        clear hcell hg hd hdv hS hT hq HG HB1
        go_wp2_with fail
        clear c0 c1 c2
        refine q_region (CellL w [(⟨wr.heap.size, 0, none⟩, .string S), (⟨wr.heap.size, 1, none⟩, .string T), (⟨wr.heap.size, 2, none⟩, .bool q)]) (by kernel_rfl) (by kernel_rfl) (cellL_drew HC.out) ?_
        repeat (first
          | go_big_quiet_skip
          | (go_big_quiet_want; (first
            | (refine q_take (v := ?_) ?_ ?_; rotate_left; (focus (intro w hSw; (try simp only [CellL] at hSw); go_split_ands; go_simp; (try with_reducible rfl); done)))
            | (refine q_call (C.out _) ?_ ?_; (focus (intro w hSw; (try simp only [CellL] at hSw); go_split_ands; go_simp; done)))); (try simp only [Act.put, List.setIfInBounds_toArray, List.set_cons_zero, List.set_cons_succ]); go_big_quiet_on))
        refine wpQuiet_nil ?_
        intro w2 hw2
        go_wp2_with fail
        go_ret
        exact ⟨ret_bool HL2.out.symm, cellL_size hw2⟩
      · have C := Lib.hid (fun L => cellL_of (a := w) (l := L) C)
        cases k with
        | zero =>
          have HL2 := Lib.hid (HL.out.trans (show rightF (prevR l 0) (l.drop 0) = rightF (prevR l 1) (l.drop 1) by rw [hd]; show rightF none _ = rightF l[0]? _; rw [hg]; simp [rightF, hdv]))
          clear hcell hg hd hdv hS hT hq HG HB1
          simp only [Nat.zero_mul, Nat.add_zero] at c0 c1 c2
          go_wp2_with fail
          clear c0 c1 c2
          refine q_region (CellL w [(⟨wr.heap.size, 0, none⟩, .string S), (⟨wr.heap.size, 1, none⟩, .string T), (⟨wr.heap.size, 2, none⟩, .bool q)]) (by kernel_rfl) (by kernel_rfl) (cellL_drew HC.out) ?_
          repeat (first
            | go_big_quiet_skip
            | (go_big_quiet_want; (first
              | (refine q_take (v := ?_) ?_ ?_; rotate_left; (focus (intro w hSw; (try simp only [CellL] at hSw); go_split_ands; go_simp; (try with_reducible rfl); done)))
              | (refine q_call (C.out _) ?_ ?_; (focus (intro w hSw; (try simp only [CellL] at hSw); go_split_ands; go_simp; done)))); (try simp only [Act.put, List.setIfInBounds_toArray, List.set_cons_zero, List.set_cons_succ]); go_big_quiet_on))
          refine wpQuiet_nil ?_
          intro w2 hw2
          go_wp2_with fail
          go_roundw
          case rel => exact ⟨1, by omega, HL2, rfl, cellL_size hw2⟩
          case measure => simp [intOf]; omega
        | succ j =>
          obtain ⟨p, hp, -, -⟩ := get_some (l := l) (k := j) (by have := HN.out; omega)
          obtain ⟨p0, p1, p2⟩ := hcell j p hp
          obtain ⟨x, hx⟩ : ∃ x, gapR p r = x := ⟨_, rfl⟩
          have CA := fun w => (rg_apart p r _ _ S T _ q x (IsR.mk' p) ⟨hS, hT, hq⟩ hx w)
          have CA := Lib.hid (fun L => cellL_of (a := w) (l := L) CA)
          have HL2 := Lib.hid (HL.out.trans (show rightF (prevR l (j + 1)) (l.drop (j + 1)) = (x && rightF (prevR l (j + 2)) (l.drop (j + 2))) by rw [hd]; show rightF l[j]? _ = (_ && rightF l[j + 1]? _); rw [hp, hg]; simp [rightF, hdv, hx]))
          obtain ⟨U, hU⟩ : ∃ U, str p.lo = U := ⟨_, rfl⟩
          obtain ⟨V, hV⟩ : ∃ V, str p.hi = V := ⟨_, rfl⟩
          obtain ⟨m, hm⟩ : ∃ m, p.op = m := ⟨_, rfl⟩
          rw [hU, hV, hm] at CA
          rw [hU] at p0
          rw [hV] at p1
          rw [hm] at p2
          have HW := alloc_keeps wr (.cells #[.string S, .string T, .bool q] 35)
          have HC2 : Hid (CellL w [(⟨wr.heap.size, 0, none⟩, .string S), (⟨wr.heap.size, 1, none⟩, .string T), (⟨wr.heap.size, 2, none⟩, .bool q), (⟨b, o + j * 3, none⟩, .string U), (⟨b, o + j * 3 + 1, none⟩, .string V), (⟨b, o + j * 3 + 2, none⟩, .bool m)] (wr.alloc (.cells #[.string S, .string T, .bool q] 35))) := ⟨HG.1, HG.2.1, HG.2.2.1, (HW _ _ hbl).trans p0, (HW _ _ hbl).trans p1, (HW _ _ hbl).trans p2, HB1⟩
          have hj1 : (0 : Int) < (j : Int) + 1 := by omega
          have hjd : decide ((0 : Int) < (j : Int) + 1) = true := decide_eq_true hj1
          have hjn : (j : Int) < (n : Int) := by omega
          have hj0 : (0 : Int) ≤ (j : Int) := by omega
          have hjw : IntKind.i64.wrap ((j : Int) + 1 - 1) = (j : Int) := by rw [Int.add_sub_cancel]; exact IntWalk.i64_in _ (by omega)
          have hjw2 : IntKind.i64.wrap (j : Int) = (j : Int) := IntWalk.i64_in _ (by omega)
          have HJW := Lib.hid (And.intro hjw hjw2)
          clear hcell hg hd hdv hS hT hq HG HB1 hp hx hU hV hm HC HW p0 p1 p2 hjw hjw2
          cases x
          all_goals
            go_wp2_with fail
            clear c0 c1 c2
            obtain ⟨hjw, hjw2⟩ := HJW.out
            refine q_region (CellL w [(⟨wr.heap.size, 0, none⟩, .string S), (⟨wr.heap.size, 1, none⟩, .string T), (⟨wr.heap.size, 2, none⟩, .bool q), (⟨b, o + j * 3, none⟩, .string U), (⟨b, o + j * 3 + 1, none⟩, .string V), (⟨b, o + j * 3 + 2, none⟩, .bool m)]) (by kernel_rfl) (by kernel_rfl) (cellL_drew HC2.out) ?_
            repeat (first
              | go_big_quiet_skip
              | (go_big_quiet_want; (first
                | (refine q_take (v := ?_) ?_ ?_; rotate_left; (focus (intro w hSw; (try simp only [CellL] at hSw); go_split_ands; go_simp; (try with_reducible rfl); done)))
                | (refine q_call (C.out _) ?_ ?_; (focus (intro w hSw; (try simp only [CellL] at hSw); go_split_ands; go_simp; done)))
                | (refine q_call (CA.out _) ?_ ?_; (focus (intro w hSw; (try simp only [CellL] at hSw); go_split_ands; go_simp; done)))); (try simp only [Act.put, List.setIfInBounds_toArray, List.set_cons_zero, List.set_cons_succ]); go_big_quiet_on))
            clear hjw hjw2
            refine wpQuiet_nil ?_
            intro w2 hw2
            go_wp2_with fail
          · go_ret
            exact ⟨ret_bool HL2.out.symm, cellL_size hw2⟩
          · go_roundw
            case rel => exact ⟨j + 2, by omega, HL2, by go_num, cellL_size hw2⟩
            case measure => simp [intOf]; omega
    · have HL2 := Lib.hid (HL.out.trans (show rightF (prevR l k) (l.drop k) = true by rw [List.drop_eq_nil_of_le (by have := HN.out; omega)]; cases prevR l k <;> rfl))
      go_wp2_with fail
      go_ret
      exact ⟨ret_bool HL2.out.symm, hb⟩
end Go.Proofs.Ytgoenmgkhdibnaa
