/-
  Layer 13 (counts), the document's words: is a list right; all edges of two lists.
-/
import Derived.Test.YtnfhkmlggajhaaaCntA
namespace Go.Proofs.Ytnfhkmlggajhaaa
open Go.RowKit

/-- Right runs behind one, each at least two above the end of the one ahead. -/
def contC : Rn → List Rn → Bool
  | _, [] => true
  | p, r :: l => oneC r && (decide (p.to + 2 ≤ r.fr) && contC r l)
theorem contC_cons (p r : Rn) (l : List Rn) : contC p (r :: l) = (oneC r && (decide (p.to + 2 ≤ r.fr) && contC r l)) := rfl
theorem rightC_cont : ∀ (r : Rn) (l : List Rn), rightC (r :: l) = (oneC r && contC r l)
  | r, [] => by show oneC r = _; rw [contC, Bool.and_true]
  | r, t :: l => by
    have h := rightC_cont t l
    rw [show rightC (r :: t :: l) = (oneC r && decide (r.to + 2 ≤ t.fr) && rightC (t :: l)) from rfl, h, contC_cons]
    cases oneC r <;> cases oneC t <;> cases decide (r.to + 2 ≤ t.fr) <;> rfl
set_option maxHeartbeats 4000000 in
theorem ref_cright (A : Option Addr) (c n : Nat) (l : List Rn) (hn : n = l.length) (v : Bool) (hv : rightC l = v) (w : World) (hr : kRn.Rd w w.heap.size A c l) :
    Calls Try.prog 9 #[.slice A n c] w fun e w' => e = .returned (.bool v) ∧ Below w.heap.size w w' := by
  have HN := Lib.hid hn
  have HR := Lib.hid hr
  have HV := Lib.hid hv
  have hmx := rd_maxC hr hn
  have hcx : n ≤ c := by rw [hn]; exact hr.room
  clear hn hr hv
  go_enter Try.func9, Try.ntmps9
  go_wp2_with fail
  go_loopw [3] (fun i wr => ∃ k : Nat, k ≤ n ∧ i = .int .i64 k ∧ Hid (k = 0 ∨ ∃ j p, k = j + 1 ∧ l[j]? = some p ∧ oneC p = true ∧ rightC l = contC p (l.drop k)) ∧ Below w.heap.size w wr) (fun i _ => n - (intOf i).toNat)
  case atStart => exact ⟨0, by omega, rfl, .inl rfl, Below.refl _ _⟩
  case round =>
    obtain ⟨k, hk, rfl, HL, hb⟩ := hrel
    by_cases hlt : k < n
    · obtain ⟨r, hg, hd, -⟩ := cnt_get (l := l) (k := k) (by have := HN.out; omega)
      obtain ⟨b, o, rfl, hb1, hcell⟩ := rns_at (HR.out.below hb) (by have := HN.out; omega)
      obtain ⟨c0, c1⟩ := hcell k r hg
      obtain ⟨z, hz⟩ : ∃ z, oneC r = z := ⟨_, rfl⟩
      have C := fun w => ref_one r _ _ rfl rfl z hz w
      have C := Lib.hid (fun L => cellL_of (a := wr) (l := L) C)
      obtain ⟨X, hX⟩ : ∃ X, r.fr = X := ⟨_, rfl⟩
      obtain ⟨Y, hY⟩ : ∃ Y, r.to = Y := ⟨_, rfl⟩
      rw [hX, hY] at C
      rw [hX] at c0
      rw [hY] at c1
      have hk0 : (0 : Int) ≤ (k : Int) := by omega
      have hkn : (k : Int) < (n : Int) := by omega
      rcases HL.out with h0 | ⟨j, p, hkj, hgj, hop, hcj⟩
      · have e0 : l = r :: l.drop (k + 1) := by rw [← hd, h0]; rfl
        have hg0 : decide ((0 : Int) < (k : Int)) = false := decide_eq_false (by omega)
        have hg1 : decide (0 < k) = false := decide_eq_false (by omega)
        have HC := Lib.hid (show CellL wr [(⟨b, o + k * 2, none⟩, .int .i64 X), (⟨b, o + k * 2 + 1, none⟩, .int .i64 Y)] wr from ⟨c0, c1, Below.refl _ _⟩)
        have HF := Lib.hid (fun h : z = false => show false = v by rw [← HV.out, e0, rightC_cont, hz, h]; rfl)
        have HT := Lib.hid (fun h : z = true => show k + 1 = 0 ∨ ∃ j p, k + 1 = j + 1 ∧ l[j]? = some p ∧ oneC p = true ∧ rightC l = contC p (l.drop (k + 1)) from .inr ⟨k, r, rfl, hg, hz.trans h, by
          conv => lhs; rw [e0]
          rw [rightC_cont, hz, h, Bool.true_and]⟩)
        clear hcell hg hd hX hY hz HL c0 c1 h0 e0
        cases z
        · replace HF := Lib.hid (HF.out rfl)
          clear HT
          go_wp2_with fail
          refine q_region (CellL wr [(⟨b, o + k * 2, none⟩, .int .i64 X), (⟨b, o + k * 2 + 1, none⟩, .int .i64 Y)]) (by kernel_rfl) (by kernel_rfl) (cellL_drew HC.out) ?_
          repeat (first
            | go_big_quiet_skip
            | (go_big_quiet_want; (first
              | (refine q_take (v := ?_) ?_ ?_; rotate_left; (focus (intro w hSw; (try simp only [CellL] at hSw); go_split_ands; go_simp; (try (rw [if_neg (by omega)])); (try with_reducible rfl); done)))
              | (refine q_call (C.out _) ?_ ?_; (focus (intro w hSw; (try simp only [CellL] at hSw); go_split_ands; go_simp; (try (rw [if_neg (by omega)])); done)))); (try simp only [Act.put, List.setIfInBounds_toArray, List.set_cons_zero, List.set_cons_succ]); go_big_quiet_on))
          refine wpQuiet_nil ?_
          intro w2 hw2
          have HB2 := Lib.hid (hb.trans ((cellL_size hw2).mono hb.size))
          clear hw2
          go_wp2_with fail
          go_ret
          exact ⟨ret_bool HF.out, HB2.out⟩
        · replace HT := Lib.hid (HT.out rfl)
          clear HF
          go_wp2_with fail
          refine q_region (CellL wr [(⟨b, o + k * 2, none⟩, .int .i64 X), (⟨b, o + k * 2 + 1, none⟩, .int .i64 Y)]) (by kernel_rfl) (by kernel_rfl) (cellL_drew HC.out) ?_
          repeat (first
            | go_big_quiet_skip
            | (go_big_quiet_want; (first
              | (refine q_take (v := ?_) ?_ ?_; rotate_left; (focus (intro w hSw; (try simp only [CellL] at hSw); go_split_ands; go_simp; (try (rw [if_neg (by omega)])); (try with_reducible rfl); done)))
              | (refine q_call (C.out _) ?_ ?_; (focus (intro w hSw; (try simp only [CellL] at hSw); go_split_ands; go_simp; (try (rw [if_neg (by omega)])); done)))); (try simp only [Act.put, List.setIfInBounds_toArray, List.set_cons_zero, List.set_cons_succ]); go_big_quiet_on))
          refine wpQuiet_nil ?_
          intro w2 hw2
          have HB2 := Lib.hid (hb.trans ((cellL_size hw2).mono hb.size))
          clear hw2
          go_wp2_with fail
          go_roundw
          case rel => exact ⟨k + 1, by omega, by go_num, HT, HB2.out⟩
          case measure => simp [intOf]; omega
      · obtain ⟨d0, d1⟩ := hcell j p hgj
        obtain ⟨P, hP⟩ : ∃ P, p.to = P := ⟨_, rfl⟩
        rw [hP] at d1
        have hp9 := (oneC_iff.1 hop).2.2
        have hp1 := (oneC_iff.1 hop)
        rw [hP] at hp9
        have hP1 : 1 ≤ P := by rw [← hP]; omega
        have hg0 : decide ((0 : Int) < (k : Int)) = true := decide_eq_true (by omega)
        have hg1 : decide (0 < k) = true := decide_eq_true (by omega)
        have hj0 : (0 : Int) ≤ (j : Int) := by omega
        have hjn : (j : Int) < (n : Int) := by omega
        have hjd : decide ((j : Int) < 0) = false := decide_eq_false (by omega)
        have hjw : IntKind.i64.wrap ((k : Int) - 1) = (j : Int) := by rw [show (k : Int) - 1 = (j : Int) by omega]; exact IntWalk.i64_in _ (by omega)
        have hpw : IntKind.i64.wrap (P + 2) = P + 2 := IntWalk.i64_in _ (by omega)
        obtain ⟨g, hg2⟩ : ∃ g, decide (X < P + 2) = g := ⟨_, rfl⟩
        have hgg : decide (p.to + 2 ≤ r.fr) = !g := by
          rw [hP, hX, ← hg2]
          by_cases h : X < P + 2
          · rw [decide_eq_true h, decide_eq_false (by omega)]; rfl
          · rw [decide_eq_false h, decide_eq_true (by omega)]; rfl
        have HC := Lib.hid (show CellL wr [(⟨b, o + k * 2, none⟩, .int .i64 X), (⟨b, o + k * 2 + 1, none⟩, .int .i64 Y), (⟨b, o + j * 2 + 1, none⟩, .int .i64 P)] wr from ⟨c0, c1, d1, Below.refl _ _⟩)
        have HE := Lib.hid (show rightC l = (z && (!g && contC r (l.drop (k + 1)))) by rw [hcj, hd, contC_cons, hz, hgg])
        have HG := Lib.hid hg
        have HZ := Lib.hid hz
        clear hcell hg hd hX hY hz HL c0 c1 d0 d1 hkj hgj hop hcj hgg hP hp1
        cases z
        · have HF := Lib.hid (show false = v by rw [← HV.out, HE.out]; rfl)
          go_wp2_with fail
          refine q_region (CellL wr [(⟨b, o + k * 2, none⟩, .int .i64 X), (⟨b, o + k * 2 + 1, none⟩, .int .i64 Y), (⟨b, o + j * 2 + 1, none⟩, .int .i64 P)]) (by kernel_rfl) (by kernel_rfl) (cellL_drew HC.out) ?_
          repeat (first
            | go_big_quiet_skip
            | (go_big_quiet_want; (first
              | (refine q_take (v := ?_) ?_ ?_; rotate_left; (focus (intro w hSw; (try simp only [CellL] at hSw); go_split_ands; go_simp; (try (rw [if_neg (by omega)])); (try with_reducible rfl); done)))
              | (refine q_call (C.out _) ?_ ?_; (focus (intro w hSw; (try simp only [CellL] at hSw); go_split_ands; go_simp; (try (rw [if_neg (by omega)])); done)))); (try simp only [Act.put, List.setIfInBounds_toArray, List.set_cons_zero, List.set_cons_succ]); go_big_quiet_on))
          refine wpQuiet_nil ?_
          intro w2 hw2
          have HB2 := Lib.hid (hb.trans ((cellL_size hw2).mono hb.size))
          clear hw2
          go_wp2_with fail
          go_ret
          exact ⟨ret_bool HF.out, HB2.out⟩
        · cases g
          · have HT := Lib.hid (show k + 1 = 0 ∨ ∃ j p, k + 1 = j + 1 ∧ l[j]? = some p ∧ oneC p = true ∧ rightC l = contC p (l.drop (k + 1)) from .inr ⟨k, r, rfl, HG.out, HZ.out, by rw [HE.out]; rfl⟩)
            go_wp2_with fail
            refine q_region (CellL wr [(⟨b, o + k * 2, none⟩, .int .i64 X), (⟨b, o + k * 2 + 1, none⟩, .int .i64 Y), (⟨b, o + j * 2 + 1, none⟩, .int .i64 P)]) (by kernel_rfl) (by kernel_rfl) (cellL_drew HC.out) ?_
            repeat (first
              | go_big_quiet_skip
              | (go_big_quiet_want; (first
                | (refine q_take (v := ?_) ?_ ?_; rotate_left; (focus (intro w hSw; (try simp only [CellL] at hSw); go_split_ands; go_simp; (try (rw [if_neg (by omega)])); (try with_reducible rfl); done)))
                | (refine q_call (C.out _) ?_ ?_; (focus (intro w hSw; (try simp only [CellL] at hSw); go_split_ands; go_simp; (try (rw [if_neg (by omega)])); done)))); (try simp only [Act.put, List.setIfInBounds_toArray, List.set_cons_zero, List.set_cons_succ]); go_big_quiet_on))
            refine wpQuiet_nil ?_
            intro w2 hw2
            have HB2 := Lib.hid (hb.trans ((cellL_size hw2).mono hb.size))
            clear hw2
            go_wp2_with fail
            go_roundw
            case rel => exact ⟨k + 1, by omega, by go_num, HT, HB2.out⟩
            case measure => simp [intOf]; omega
          · have HF := Lib.hid (show false = v by rw [← HV.out, HE.out]; rfl)
            go_wp2_with fail
            refine q_region (CellL wr [(⟨b, o + k * 2, none⟩, .int .i64 X), (⟨b, o + k * 2 + 1, none⟩, .int .i64 Y), (⟨b, o + j * 2 + 1, none⟩, .int .i64 P)]) (by kernel_rfl) (by kernel_rfl) (cellL_drew HC.out) ?_
            repeat (first
              | go_big_quiet_skip
              | (go_big_quiet_want; (first
                | (refine q_take (v := ?_) ?_ ?_; rotate_left; (focus (intro w hSw; (try simp only [CellL] at hSw); go_split_ands; go_simp; (try (rw [if_neg (by omega)])); (try with_reducible rfl); done)))
                | (refine q_call (C.out _) ?_ ?_; (focus (intro w hSw; (try simp only [CellL] at hSw); go_split_ands; go_simp; (try (rw [if_neg (by omega)])); done)))); (try simp only [Act.put, List.setIfInBounds_toArray, List.set_cons_zero, List.set_cons_succ]); go_big_quiet_on))
            refine wpQuiet_nil ?_
            intro w2 hw2
            have HB2 := Lib.hid (hb.trans ((cellL_size hw2).mono hb.size))
            clear hw2
            go_wp2_with fail
            go_ret
            exact ⟨ret_bool HF.out, HB2.out⟩
    · have HF := Lib.hid (show true = v by
        rw [← HV.out]
        rcases HL.out with h0 | ⟨j, p, _, _, _, hcj⟩
        · have : l = [] := List.eq_nil_of_length_eq_zero (by have := HN.out; omega)
          rw [this]; rfl
        · rw [hcj, List.drop_eq_nil_of_le (by have := HN.out; omega)]; rfl)
      clear HL
      go_wp2_with fail
      go_ret
      exact ⟨ret_bool HF.out, hb⟩
end Go.Proofs.Ytnfhkmlggajhaaa
