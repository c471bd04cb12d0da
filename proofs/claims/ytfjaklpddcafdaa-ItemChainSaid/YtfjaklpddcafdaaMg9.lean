/-
  Several texts in one: Law08A, RgsJ, ItpH, ItpI, Law18H, OpenRngs.
-/
import Derived.Deep.RegionHeld3
import Derived.Deep.Strs
import Derived.Test.YtfjaklpddcafdaaMg8
namespace Go.Proofs.Ytfjaklpddcafdaa
open Go.RowKit

end Go.Proofs.Ytfjaklpddcafdaa

namespace Go.Proofs.Ytfjaklpddcafdaa
open Go.RowKit

theorem own_last {w : World} {base g n c D : Nat} {dn : List Rng} {p : Rng} (h : kRng.Own w base (.slice (some ⟨g, 0, none⟩) n c) (dn ++ [p])) (hn : n = (dn ++ [p]).length) (hD : dn.length = D) (x : List UInt8) (T : ByteArray) (hT : str x = T) (o q : Bool) (hq : o = q) :
    kRng.Own ((w.setCell ⟨g, D * 3 + 1, none⟩ (.string T)).setCell ⟨g, D * 3 + 2, none⟩ (.bool q)) base (.slice (some ⟨g, 0, none⟩) n c) (dn ++ [⟨p.lo, x, o⟩]) := by
  subst hD hT hq
  have g1 : (dn ++ [p])[dn.length]? = some p := by rw [List.getElem?_append_right (Nat.le_refl _), Nat.sub_self]; rfl
  have h1 := h.stored (j := 1) (y := ⟨p.lo, x, p.op⟩) (v := .string (str x)) hn g1 (by decide) rfl
  rw [show (dn ++ [p]).set dn.length ⟨p.lo, x, p.op⟩ = dn ++ [⟨p.lo, x, p.op⟩] from by simp] at h1
  have g2 : (dn ++ [(⟨p.lo, x, p.op⟩ : Rng)])[dn.length]? = some ⟨p.lo, x, p.op⟩ := by rw [List.getElem?_append_right (Nat.le_refl _), Nat.sub_self]; rfl
  have h2 := h1.stored (j := 2) (y := ⟨p.lo, x, o⟩) (v := .bool o) (by rw [hn]; simp) g2 (by decide) rfl
  rw [show (dn ++ [(⟨p.lo, x, p.op⟩ : Rng)]).set dn.length ⟨p.lo, x, o⟩ = dn ++ [⟨p.lo, x, o⟩] from by simp] at h2
  exact h2
def LastOk (o : Option Rng) (l : List Rng) : Prop := ∀ p, o = some p → rightR p = true ∧ ∀ t ∈ l, ltB t.lo p.lo = false
theorem LastOk.none (l : List Rng) : LastOk .none l := fun p h => by cases h
theorem LastOk.new {r : Rng} {l : List Rng} (hr : rightR r = true) (hs : SortedL (r :: l)) : LastOk (some r) l := fun p h => by
  injection h with h; subst h
  exact ⟨hr, (List.pairwise_cons.1 hs).1⟩
theorem LastOk.stay {p r : Rng} {l : List Rng} (h : LastOk (some p) (r :: l)) : LastOk (some p) l := fun p' h' => by
  obtain ⟨h1, h2⟩ := h p' h'
  exact ⟨h1, fun t ht => h2 t (List.mem_cons_of_mem _ ht)⟩
theorem LastOk.more {p r : Rng} {l : List Rng} (h : LastOk (some p) (r :: l)) (hr : rightR r = true) : LastOk (some ⟨p.lo, r.hi, r.op⟩) l := fun p' h' => by
  injection h' with h'; subst h'
  obtain ⟨h1, h2⟩ := h p rfl
  exact ⟨more_right h1 hr (h2 r (List.mem_cons_self ..)), fun t ht => h2 t (List.mem_cons_of_mem _ ht)⟩
theorem SortedL.from {l : List Rng} (h : SortedL l) (k : Nat) : SortedL (l.drop k) := List.Pairwise.sublist (List.drop_sublist k l) h
theorem ends_test {p r : Rng} (hp : rightR p = true) (hr : rightR r = true) : ∃ v : Int, endsR p r = v ∧ decide (v < 0) = endLt p r := by
  refine ⟨_, rfl, ?_⟩
  cases h : endLt p r with
  | true => rw [endsR_lt hp hr h]; rfl
  | false => cases h' : endLt r p with
    | true => rw [endsR_gt hp hr h']; rfl
    | false => rw [endsR_eq h h']; rfl
def RetO (w : World) (l : List Rng) (e : Ending) (w' : World) : Prop := ∃ v, e = .returned v ∧ kRng.Own w' w.heap.size v l ∧ Below w.heap.size w w'
set_option maxHeartbeats 4000000 in
theorem rgs_of_own (A : Option Addr) (c n : Nat) (l : List Rng) (hn : n = l.length) (hnl : n ≤ 1000) (w : World) (hr : kRng.Rd w w.heap.size A c l) :
    Calls Try.prog 38 #[.slice A n c] w (RetO w (normV l)) := by
  have B0 := Lib.hid (rgs_byBeginning A c n l hn (by omega) w hr)
  have HN := Lib.hid hn
  clear hn hr
  go_enter Try.func38, Try.ntmps38
  go_wp2_with ((with_reducible refine B0.out.mono ?_); rintro e w1 ⟨m, hm1, hm2, A1, c1, rfl, hrd, hq⟩; have HM := Lib.hid (mergeL_norm hm1 hm2); have HR := Lib.hid hrd; have HB0 := Lib.hid hq; have HSS := Lib.hid hm2; have HRT := Lib.hid (show ∀ r ∈ m, rightR r = true from fun r hr => (List.mem_filter.1 (hm1.mem_iff.1 hr)).2); have hml := Nat.le_trans (Nat.le_of_eq hm1.length_eq) (List.length_filter_le _ _); clear hm1 hm2 hrd hq)
  obtain ⟨N, hN⟩ : ∃ N, m.length = N := ⟨_, rfl⟩
  rw [hN]
  have hNl : N ≤ 1000 := by have := HN.out; omega
  have HNM := Lib.hid hN
  have hcx : N ≤ c1 := by rw [← hN]; exact HR.out.room
  clear hN hml B0
  go_loopw [3, 10] (fun v i wr => ∃ (k : Nat) (dn : List Rng) (o : Option Rng), k ≤ N ∧ Hid (mergeL none m = dn ++ mergeL o (m.drop k)) ∧ Hid (kRng.Own wr w1.heap.size v (dn ++ o.toList)) ∧ Hid (o = none → dn = []) ∧ Hid (LastOk o (m.drop k)) ∧ (dn ++ o.toList).length ≤ k ∧ i = .int .i64 k ∧ Below w1.heap.size w1 wr) (fun _ i _ => N - (intOf i).toNat)
  case atStart => exact ⟨0, [], none, by omega, rfl, Kind.Own.nil _ _, fun _ => rfl, LastOk.none _, by simp, rfl, Below.refl _ _⟩
  case round =>
    obtain ⟨k, dn, o, hk, HL, HO, HE, HP, hol, rfl, hb⟩ := hrel
    by_cases hlt : k < N
    · obtain ⟨r, hg, hd, hrm⟩ := get_some (l := m) (k := k) (by have := HNM.out; omega)
      obtain ⟨b, o1, rfl, hb1, hcell⟩ := rngs_at (HR.out.below hb) (by have := HNM.out; omega)
      obtain ⟨c0, c1, c2⟩ := hcell k r hg
      have hrr := HRT.out r hrm
      have HN1 := Lib.hid (LastOk.new hrr (by rw [← hd]; exact HSS.out.from k))
      have hbl := Nat.lt_of_lt_of_le hb1 hb.size
      have HRW := fun w => Lib.hid (rng_row w r 1 rfl).row
      have HG := Lib.hid (rgAt_new wr (str r.lo) (str r.hi) r.op 56)
      obtain ⟨S, hS⟩ : ∃ S, str r.lo = S := ⟨_, rfl⟩
      obtain ⟨T, hT⟩ : ∃ T, str r.hi = T := ⟨_, rfl⟩
      obtain ⟨q, hq⟩ : ∃ q, r.op = q := ⟨_, rfl⟩
      rw [hS, hT, hq] at HG HRW
      rw [hS] at c0
      rw [hT] at c1
      rw [hq] at c2
      have HB1 := Lib.hid (hb.alloc hb.size (.cells #[.string S, .string T, .bool q] 56))
      have HO1 := Lib.hid (HO.out.alloc (.cells #[.string S, .string T, .bool q] 56))
      obtain ⟨WB, hWB⟩ : ∃ WB, wr.alloc (.cells #[.string S, .string T, .bool q] 56) = WB := ⟨_, rfl⟩
      cases o with
      | none =>
        have HL2 := Lib.hid (HL.out.trans (show dn ++ mergeL none (m.drop k) = dn ++ mergeL (some r) (m.drop (k + 1)) by rw [hd]; rfl))
        obtain rfl := HE.out rfl
        obtain ⟨A0, cp0, rfl, -⟩ := HO.out.read_n (n := 0) rfl
        have HC := Lib.hid (show CellL WB [(⟨wr.heap.size, 0, none⟩, .string S), (⟨wr.heap.size, 1, none⟩, .string T), (⟨wr.heap.size, 2, none⟩, .bool q)] WB from by rw [hWB] at HG; exact ⟨HG.out.1, HG.out.2.1, HG.out.2.2.1, Below.refl _ _⟩)
        rw [hWB] at HO1 HB1
        clear hcell hg hd hrm hrr hS hT hq HG HL HE HO
        have HW := Lib.hid hWB
        go_wp2_with fail
        clear c0 c1 c2
        clear hWB
        refine q_region (CellL WB [(⟨wr.heap.size, 0, none⟩, .string S), (⟨wr.heap.size, 1, none⟩, .string T), (⟨wr.heap.size, 2, none⟩, .bool q)]) (by kernel_rfl) (by kernel_rfl) (cellL_drew HC.out) ?_
        repeat (first
          | go_big_quiet_skip
          | (go_big_quiet_want; (first
            | (refine q_take (v := ?_) ?_ ?_; rotate_left; (focus (intro w hSw; (try simp only [CellL] at hSw); go_split_ands; go_simp; (try (rw [if_neg (by omega)])); (try with_reducible rfl); done)))); (try simp only [Act.put, List.setIfInBounds_toArray, List.set_cons_zero, List.set_cons_succ]); go_big_quiet_on))
        refine wpQuiet_nil ?_
        intro w2 hw2
        have HB2 := Lib.hid (HB1.out.trans ((cellL_size hw2).mono HB1.out.size))
        have HO2 := Lib.hid (HO1.out.below (cellL_size hw2))
        simp only [CellL] at hw2
        obtain ⟨g0, g1, g2, -⟩ := hw2
        go_wp2_with (at_builtin; refine wpList_app_k kRng rfl (.tmp 27) (.tmp 29) rfl w1.heap.size _ _ rfl (Kind.Own.alloc HO2.out _) _ (some ⟨w2.heap.size, 0, none⟩) 1 1 [r] rfl rfl (HRW w2).out (by simp) (by decide) (le_alloc (HB2.out.size) _) ?_; intro v3 w3 hown3 hg3 hb3 _; have HO3 := Lib.hid hown3; have HB3 := Lib.hid ((HB2.out.alloc HB2.out.size _).trans hb3); clear hown3 hb3 hg3)
        go_roundw
        case rel => exact ⟨k + 1, [], some r, by omega, HL2, HO3.out, (fun h => by cases h), HN1.out, by simp, by go_num, HB3.out⟩
        case measure => simp [intOf]; omega
      | some p =>
        obtain ⟨D, hD⟩ : ∃ D, dn.length = D := ⟨_, rfl⟩
        have hLn : D + 1 = (dn ++ [p]).length := by rw [List.length_append, hD]; rfl
        have hD9 : D ≤ 1000 := by have h := hol; rw [show (some p).toList = [p] from rfl, ← hLn] at h; omega
        obtain ⟨g, cp, rfl, hcp, hgb, -, -, -⟩ := HO.out.some_ hLn (by omega)
        have hga : (dn ++ [p])[D]? = some p := by rw [← hD, List.getElem?_append_right (Nat.le_refl _), Nat.sub_self]; rfl
        have HP1 := Lib.hid (show LastOk (some p) (r :: m.drop (k + 1)) from by rw [← hd]; exact HP.out)
        have hpr := (HP.out p rfl).1
        obtain ⟨x, hx⟩ : ∃ x, gapR p r = x := ⟨_, rfl⟩
        have CA := fun w => (rg_apart p r _ _ S T _ q x (IsR.mk' p) ⟨hS, hT, hq⟩ hx w)
        have CA := Lib.hid (fun L => cellL_of (a := WB) (l := L) CA)
        obtain ⟨ev, hev, het⟩ := ends_test hpr hrr
        have CE := fun w => (span_ends p r _ _ S T _ q (IsR.mk' p) ⟨hS, hT, hq⟩ ev hev w)
        have CE := Lib.hid (fun L => cellL_of (a := WB) (l := L) CE)
        have HLP := Lib.hid (HL.out.trans (by rw [hd]))
        have HX1 := Lib.hid (fun h : x = true => mergeL_gap (l := m.drop (k + 1)) (hx.trans h))
        obtain ⟨y, hy⟩ : ∃ y, endLt p r = y := ⟨_, rfl⟩
        rw [hy] at het
        have HX2 := Lib.hid (fun h : x = false => mergeL_last (l := m.drop (k + 1)) (hx.trans h))
        have HY := Lib.hid hy
        have HTT := Lib.hid hT
        have HQQ := Lib.hid hq
        rw [hWB] at HO1 HB1 HG
        have HGA := Lib.hid hga
        have HLN := Lib.hid hLn
        have HDD := Lib.hid hD
        have HRR := Lib.hid hrr
        obtain ⟨U, hU⟩ : ∃ U, str p.lo = U := ⟨_, rfl⟩
        obtain ⟨V, hV⟩ : ∃ V, str p.hi = V := ⟨_, rfl⟩
        obtain ⟨pm, hpm⟩ : ∃ pm, p.op = pm := ⟨_, rfl⟩
        obtain ⟨-, hgl, hfz, hcs⟩ := HO1.out.at_g hLn (by omega)
        have e0 := hcs D p hga 0 _ rfl
        have e1 := hcs D p hga 1 _ rfl
        have e2 := hcs D p hga 2 _ rfl
        change WB.cell? ⟨g, D * 3 + 0, none⟩ = some (.string (str p.lo)) at e0
        change WB.cell? ⟨g, D * 3 + 1, none⟩ = some (.string (str p.hi)) at e1
        change WB.cell? ⟨g, D * 3 + 2, none⟩ = some (.bool p.op) at e2
        rw [Nat.add_zero] at e0
        rw [hU, hV, hpm] at CA CE
        rw [hU] at e0
        rw [hV] at e1
        rw [hpm] at e2
        have HC := Lib.hid (show CellL WB [(⟨wr.heap.size, 0, none⟩, .string S), (⟨wr.heap.size, 1, none⟩, .string T), (⟨wr.heap.size, 2, none⟩, .bool q), (⟨g, D * 3, none⟩, .string U), (⟨g, D * 3 + 1, none⟩, .string V), (⟨g, D * 3 + 2, none⟩, .bool pm)] WB from ⟨HG.out.1, HG.out.2.1, HG.out.2.2.1, e0, e1, e2, Below.refl _ _⟩)
        have hj0 : (0 : Int) ≤ (D : Int) := by omega
        have hjn : (D : Int) < (D : Int) + 1 := by omega
        have hjd : decide ((D : Int) < 0) = false := decide_eq_false (by omega)
        have hjw : IntKind.i64.wrap ((D : Int) + 1 - 1) = (D : Int) := by rw [Int.add_sub_cancel]; exact IntWalk.i64_in _ (by omega)
        have hjw2 : IntKind.i64.wrap (D : Int) = (D : Int) := IntWalk.i64_in _ (by omega)
        clear hcell hg hd hrm hrr hpr hS hT hq HG HL HE HO HP hLn hga hD hx hy hev hU hV hpm hgl hfz hcs e0 e1 e2
        have HET := Lib.hid het
        clear het
        go_wp2_with fail
        clear c0 c1 c2 hWB
        cases x
        case true =>
          have HL2 := Lib.hid (HLP.out.trans (show dn ++ mergeL (some p) (r :: m.drop (k + 1)) = (dn ++ [p]) ++ mergeL (some r) (m.drop (k + 1)) by rw [HX1.out rfl, List.append_assoc]; rfl))
          clear HX1 HX2 HET HY CE
          refine q_region (CellL WB [(⟨wr.heap.size, 0, none⟩, .string S), (⟨wr.heap.size, 1, none⟩, .string T), (⟨wr.heap.size, 2, none⟩, .bool q), (⟨g, D * 3, none⟩, .string U), (⟨g, D * 3 + 1, none⟩, .string V), (⟨g, D * 3 + 2, none⟩, .bool pm)]) (by kernel_rfl) (by kernel_rfl) (cellL_drew HC.out) ?_
          repeat (first
            | go_big_quiet_skip
            | (go_big_quiet_want; (first
              | (refine q_take (v := ?_) ?_ ?_; rotate_left; (focus (intro w hSw; (try simp only [CellL] at hSw); go_split_ands; go_simp; (try (rw [if_neg (by omega)])); (try with_reducible rfl); done)))
              | (refine q_call (CA.out _) ?_ ?_; (focus (intro w hSw; (try simp only [CellL] at hSw); go_split_ands; go_simp; (try (rw [if_neg (by omega)])); done)))); (try simp only [Act.put, List.setIfInBounds_toArray, List.set_cons_zero, List.set_cons_succ]); go_big_quiet_on))
          refine wpQuiet_nil ?_
          intro w2 hw2
          have HB2 := Lib.hid (HB1.out.trans ((cellL_size hw2).mono HB1.out.size))
          have HO2 := Lib.hid (HO1.out.below (cellL_size hw2))
          simp only [CellL] at hw2
          obtain ⟨g0, g1, g2, -⟩ := hw2
          have HLE := Lib.hid (show (dn ++ [p]).length + [r].length ≤ 1000000 by rw [← HLN.out, List.length_singleton]; omega)
          go_wp2_with (at_builtin; refine wpList_app_k kRng rfl (.tmp 27) (.tmp 29) rfl w1.heap.size _ _ rfl (Kind.Own.alloc HO2.out _) _ (some ⟨w2.heap.size, 0, none⟩) 1 1 [r] rfl rfl (HRW w2).out HLE.out (by decide) (le_alloc (HB2.out.size) _) ?_; intro v3 w3 hown3 hg3 hb3 _; have HO3 := Lib.hid hown3; have HB3 := Lib.hid ((HB2.out.alloc HB2.out.size _).trans hb3); clear hown3 hb3 hg3)
          go_roundw
          case rel => exact ⟨k + 1, dn ++ [p], some r, by omega, HL2, HO3.out, (fun h => by cases h), HN1.out, by have h1 := HLN.out; rw [List.length_append, ← h1]; have h2 := hol; rw [show (some p).toList = [p] from rfl, ← h1] at h2; show D + 1 + 1 ≤ k + 1; omega, by go_num, HB3.out⟩
          case measure => simp [intOf]; omega
        case false =>
          have HLL := Lib.hid (HLP.out.trans (by rw [HX2.out rfl]))
          clear HX1 HX2
          refine q_region (CellL WB [(⟨wr.heap.size, 0, none⟩, .string S), (⟨wr.heap.size, 1, none⟩, .string T), (⟨wr.heap.size, 2, none⟩, .bool q), (⟨g, D * 3, none⟩, .string U), (⟨g, D * 3 + 1, none⟩, .string V), (⟨g, D * 3 + 2, none⟩, .bool pm)]) (by kernel_rfl) (by kernel_rfl) (cellL_drew HC.out) ?_
          repeat (first
            | go_big_quiet_skip
            | (go_big_quiet_want; (first
              | (refine q_take (v := ?_) ?_ ?_; rotate_left; (focus (intro w hSw; (try simp only [CellL] at hSw); go_split_ands; go_simp; (try (rw [if_neg (by omega)])); (try with_reducible rfl); done)))
              | (refine q_call (CA.out _) ?_ ?_; (focus (intro w hSw; (try simp only [CellL] at hSw); go_split_ands; go_simp; (try (rw [if_neg (by omega)])); done)))); (try simp only [Act.put, List.setIfInBounds_toArray, List.set_cons_zero, List.set_cons_succ]); go_big_quiet_on))
          refine wpQuiet_nil ?_
          intro w2 hw2
          have HW2 := Lib.hid hw2
          clear hw2
          go_wp2_with fail
          have het := HET.out
          refine q_region (CellL WB [(⟨wr.heap.size, 0, none⟩, .string S), (⟨wr.heap.size, 1, none⟩, .string T), (⟨wr.heap.size, 2, none⟩, .bool q), (⟨g, D * 3, none⟩, .string U), (⟨g, D * 3 + 1, none⟩, .string V), (⟨g, D * 3 + 2, none⟩, .bool pm)]) (by kernel_rfl) (by kernel_rfl) (cellL_drew HW2.out) ?_
          repeat (first
            | go_big_quiet_skip
            | (go_big_quiet_want; (first
              | (refine q_take (v := ?_) ?_ ?_; rotate_left; (focus (intro w hSw; (try simp only [CellL] at hSw); go_split_ands; go_simp; (try (rw [if_neg (by omega)])); (try with_reducible rfl); done)))
              | (refine q_call (CE.out _) ?_ ?_; (focus (intro w hSw; (try simp only [CellL] at hSw); go_split_ands; go_simp; (try (rw [if_neg (by omega)])); done)))); (try simp only [Act.put, List.setIfInBounds_toArray, List.set_cons_zero, List.set_cons_succ]); go_big_quiet_on))
          refine wpQuiet_nil ?_
          intro w3 hw3
          have HB3 := Lib.hid (HB1.out.trans ((cellL_size hw3).mono HB1.out.size))
          have HO3 := Lib.hid (HO1.out.below (cellL_size hw3))
          simp only [CellL] at hw3
          obtain ⟨g0, g1, g2, e0, e1, e2, -⟩ := hw3
          cases y
          · have HL2 := Lib.hid (HLL.out.trans (by rw [show lastR p r = p from by unfold lastR; rw [HY.out]]))
            go_wp2_with fail
            go_roundw
            case rel => exact ⟨k + 1, dn, some p, by omega, HL2, HO3.out, (fun h => by cases h), HP1.out.stay, by omega, by go_num, HB3.out⟩
            case measure => simp [intOf]; omega
          · have HL2 := Lib.hid (HLL.out.trans (by rw [show lastR p r = ⟨p.lo, r.hi, r.op⟩ from by unfold lastR; rw [HY.out]]))
            obtain ⟨hg1, hgl, hfz, -⟩ := HO3.out.at_g HLN.out (by omega)
            have HOF := Lib.hid (own_last HO3.out HLN.out HDD.out r.hi T HTT.out r.op q HQQ.out)
            have HBF := Lib.hid ((HB3.out.setCell (p := ⟨g, D * 3 + 1, none⟩) hg1 (.string T)).setCell (p := ⟨g, D * 3 + 2, none⟩) hg1 (.bool q))
            go_wp2_with fail
            go_region
            go_wp2_with fail
            go_roundw
            case rel => exact ⟨k + 1, dn, some ⟨p.lo, r.hi, r.op⟩, by omega, HL2, HOF.out, (fun h => by cases h), HP1.out.more HRR.out, by have h2 := hol; simp at h2 ⊢; omega, by go_num, HBF.out.drew⟩
            case measure => simp [intOf]; omega
    · have HL2 := Lib.hid (HL.out.trans (show dn ++ mergeL o (m.drop k) = dn ++ o.toList by rw [List.drop_eq_nil_of_le (by have := HNM.out; omega)]; cases o <;> rfl))
      go_wp2_with fail
      go_ret
      have e := HM.out.symm.trans HL2.out
      refine ⟨_, rfl, ?_, HB0.out.trans (hb.mono HB0.out.size)⟩
      rw [e]
      exact HO.out.mono HB0.out.size
theorem rgs_of (A : Option Addr) (c n : Nat) (l : List Rng) (hn : n = l.length) (hnl : n ≤ 1000) (w : World) (hr : kRng.Rd w w.heap.size A c l) :
    Calls Try.prog 38 #[.slice A n c] w (RetR w (normV l)) := (rgs_of_own A c n l hn hnl w hr).mono fun _ _ ⟨v, he, ho, hb⟩ => by
  obtain ⟨A5, c5, rfl, hrd⟩ := ho.form
  exact ⟨A5, c5, he, hrd, hb⟩
theorem makeV_len1 (l : List Rng) : (normV l).length ≤ 2 * l.length + 2 := by
  have h1 := mkR_len (inV 1 l []) (edgesL (l ++ [])) none
  have h2 := edgesL_len (l ++ [])
  rw [List.append_nil] at h1 h2
  unfold normV makeV
  rw [List.append_nil]
  omega
end Go.Proofs.Ytfjaklpddcafdaa

namespace Go.Proofs.Ytfjaklpddcafdaa
open Go.RowKit

theorem rightL_far {r t : Rng} {l : List Rng} (h : rightL (r :: l) = true) (ht : t ∈ l) : r.op = false ∧ ltB r.hi t.lo = true := by
  have h1 := rightL_all (rightL_tail h) t ht
  have h2 : hasL l t.lo = true := List.any_eq_true.2 ⟨t, ht, hasR_lo h1⟩
  exact (hasL_apart h h2).2
theorem rightR_lohi {r : Rng} (h : rightR r = true) (ho : r.op = false) : ltB r.lo r.hi = true := by
  unfold rightR at h
  rw [ho] at h
  simp only [Bool.and_eq_true] at h
  exact h.2.2
theorem rightL_pairs : ∀ {l : List Rng}, rightL l = true → l.Pairwise fun r t => r.op = false ∧ ltB r.hi t.lo = true ∧ ltB r.lo t.lo = true
  | [], _ => List.Pairwise.nil
  | _ :: _, h => List.pairwise_cons.2 ⟨fun t ht => by
      obtain ⟨h1, h2⟩ := rightL_far h ht
      exact ⟨h1, h2, ltB_trans (rightR_lohi (rightL_head h) h1) h2⟩, rightL_pairs (rightL_tail h)⟩
theorem rightL_at {l : List Rng} (h : rightL l = true) {i j : Nat} {r t : Rng} (hij : i < j) (hr : l[i]? = some r) (ht : l[j]? = some t) : r.op = false ∧ ltB r.hi t.lo = true ∧ ltB r.lo t.lo = true := by
  obtain ⟨hi, rfl⟩ := List.getElem?_eq_some_iff.1 hr
  obtain ⟨hj, rfl⟩ := List.getElem?_eq_some_iff.1 ht
  exact (List.pairwise_iff_getElem.1 (rightL_pairs h)) i j hi hj hij
theorem hasL_none {l : List Rng} {s : List UInt8} (h : ∀ r ∈ l, hasR r s = false) : hasL l s = false := List.any_eq_false.2 fun r hr => by rw [h r hr]; simp
def CutR (l : List Rng) (s : List UInt8) (i j : Nat) : Prop := (∀ t x, t < i → l[t]? = some x → ltB x.lo s = true) ∧ (∀ t x, j ≤ t → l[t]? = some x → ltB x.lo s = false)
theorem CutR.lo {l : List Rng} {s : List UInt8} {i j h : Nat} {x : Rng} (hs : rightL l = true) (hc : CutR l s i j) (hx : l[h]? = some x) (ht : ltB x.lo s = true) : CutR l s (h + 1) j :=
  ⟨fun t y hty hy => by
    by_cases e : t = h
    · subst e; rw [hx] at hy; injection hy with hy; subst hy; exact ht
    · exact ltB_trans (rightL_at hs (by omega) hy hx).2.2 ht, hc.2⟩
theorem CutR.hi {l : List Rng} {s : List UInt8} {i j h : Nat} {x : Rng} (hs : rightL l = true) (hc : CutR l s i j) (hx : l[h]? = some x) (ht : ltB x.lo s = false) : CutR l s i h :=
  ⟨hc.1, fun t y hty hy => by
    by_cases e : t = h
    · subst e; rw [hx] at hy; injection hy with hy; subst hy; exact ht
    · cases hq : ltB y.lo s
      · rfl
      · rw [ltB_trans (rightL_at hs (by omega) hx hy).2.2 hq] at ht; cases ht⟩
theorem near_yes {l : List Rng} {s : List UInt8} {a : Nat} {x : Rng} (hl : rightL l = true) (hx : l[a]? = some x) (he : x.lo = s) : hasL ((l.drop a).take 1) s = hasL l s := by
  have h1 : hasR x s = true := by rw [← he]; exact hasR_lo (rightL_all hl x (List.mem_of_getElem? hx))
  have e1 : hasL l s = true := List.any_eq_true.2 ⟨x, List.mem_of_getElem? hx, h1⟩
  rw [e1]
  refine List.any_eq_true.2 ⟨x, List.mem_of_getElem? (i := 0) ?_, h1⟩
  rw [List.getElem?_take_of_lt (by omega), List.getElem?_drop]; exact hx
theorem near_no {l : List Rng} {s : List UInt8} {a : Nat} (hl : rightL l = true) (ha : a ≤ l.length) (hc : CutR l s a a) (hn : ∀ x, l[a]? = some x → x.lo ≠ s) : hasL ((l.take a).drop (a - 1)) s = hasL l s := by
  have e : l = l.take (a - 1) ++ ((l.take a).drop (a - 1) ++ l.drop a) := by
    have h1 : (l.take a).take (a - 1) ++ (l.take a).drop (a - 1) = l.take a := List.take_append_drop _ _
    rw [List.take_take, Nat.min_eq_left (by omega)] at h1
    rw [← List.append_assoc, h1, List.take_append_drop]
  have n1 : hasL (l.take (a - 1)) s = false := hasL_none fun r hr => by
    obtain ⟨i, hi⟩ := List.mem_iff_getElem?.1 hr
    have hia : i < a - 1 := by have := (List.getElem?_eq_some_iff.1 hi).1; rw [List.length_take] at this; omega
    rw [List.getElem?_take_of_lt hia] at hi
    obtain ⟨p, hp⟩ : ∃ p, l[a - 1]? = some p := ⟨_, List.getElem?_eq_getElem (by omega)⟩
    obtain ⟨h1, h2, -⟩ := rightL_at hl hia hi hp
    have h3 := ltB_trans h2 (hc.1 (a - 1) p (by omega) hp)
    cases hh : hasR r s
    · rfl
    · have h4 := hasR_ahead hh
      unfold aheadR at h4
      rw [h1, Bool.false_or, ltB_asymm h3] at h4; cases h4
  have n2 : hasL (l.drop a) s = false := hasL_none fun r hr => by
    obtain ⟨i, hi⟩ := List.mem_iff_getElem?.1 hr
    rw [List.getElem?_drop] at hi
    cases hh : hasR r s
    · rfl
    · have h1 := hasR_ge hh
      have h2 := hc.2 (a + i) r (by omega) hi
      have h3 : r.lo = s := by
        rcases ltB_three r.lo s with ⟨h, -, -⟩ | ⟨-, h, -⟩ | ⟨-, -, h⟩
        · rw [h] at h2; cases h2
        · rw [h] at h1; cases h1
        · exact h
      by_cases hz : i = 0
      · subst hz; exact absurd h3 (hn r hi)
      · obtain ⟨p, hp⟩ : ∃ p, l[a]? = some p := ⟨_, List.getElem?_eq_getElem (by have := (List.getElem?_eq_some_iff.1 hi).1; omega)⟩
        have h4 := (rightL_at hl (i := a) (j := a + i) (by omega) hp hi).2.2
        rw [h3] at h4
        rw [hc.2 a p (Nat.le_refl _) hp] at h4; cases h4
  have := congrArg (fun z => hasL z s) e
  simp only [hasL_append] at this
  rw [n1, n2, Bool.false_or, Bool.or_false] at this
  exact this.symm
abbrev nearV : Value := .func (.func 50) #[] #[]
set_option maxRecDepth 100000 in
theorem itp_nearBy (x : Rng) (S T : ByteArray) (o : Bool) (hx : IsR x S T o) (s : List UInt8) (U : ByteArray) (hU : str s = U) (z : Int) (hz : Lib.compareBytes x.lo s = z) (w : World) :
    Calls Try.prog 50 #[.agg #[.string S, .string T, .bool o], .string U] w fun e w' => e = .returned (.int .i64 z) ∧ Below w.heap.size w w' := by
  have C := fun w => Lib.hid (key_cmp x.lo s w)
  rw [hx.1, hU, hz] at C
  have HB := Lib.hid (below_new w (.cells #[.string S, .string T, .bool o] 56))
  clear hx hU hz
  go_enter Try.func50, Try.ntmps50
  go_wp2_with ((with_reducible refine (C _).out.mono ?_); rintro e w2 ⟨rfl, rfl⟩)
  go_ret
  exact ⟨rfl, HB.out⟩
structure FoundR (l : List Rng) (s : List UInt8) (a : Nat) (o : Bool) : Prop where
  most : a ≤ l.length
  cut : CutR l s a a
  yes : o = true → ∃ x, l[a]? = some x ∧ x.lo = s
  no : o = false → ∀ x, l[a]? = some x → x.lo ≠ s
set_option maxRecDepth 100000 in
set_option maxHeartbeats 8000000 in
theorem itp_searchR (A : Option Addr) (c n : Nat) (l : List Rng) (s : List UInt8) (U : ByteArray) (hn : n = l.length) (hn9 : n ≤ 1000000) (hU : str s = U) (hl : rightL l = true) (w : World) (hr : kRng.Rd w w.heap.size A c l) :
    Calls Try.prog 49 #[.slice A n c, .string U, nearV] w fun e w' => ∃ (a : Nat) (o : Bool), e = .returned (.tuple #[.int .i64 (a : Int), .bool o]) ∧ FoundR l s a o ∧ Below w.heap.size w w' := by
  have HN := Lib.hid hn
  have HR := Lib.hid hr
  have HLR := Lib.hid hl
  have HU := Lib.hid hU
  have hcx : n ≤ c := by rw [hn]; exact hr.room
  clear hn hr hl hU
  go_enter Try.func49, Try.ntmps49
  go_wp2_with fail
  go_loopw [9, 10] (fun s9 s10 wr => ∃ i j : Nat, s9 = .int .i64 i ∧ s10 = .int .i64 j ∧ i ≤ j ∧ j ≤ n ∧ Hid (CutR l s i j) ∧ Hid (Below w.heap.size w wr)) (fun s9 s10 _ => (intOf s10).toNat - (intOf s9).toNat)
  case atStart => exact ⟨0, n, rfl, rfl, by omega, by omega, ⟨fun t x h _ => absurd h (Nat.not_lt_zero _), fun t x h hx => by have := (List.getElem?_eq_some_iff.1 hx).1; have := HN.out; omega⟩, Below.refl _ _⟩
  case round =>
    obtain ⟨i, j, rfl, rfl, hij, hjn, HC, HB⟩ := hrel
    by_cases hlt : i < j
    · obtain ⟨h, hh⟩ : ∃ h, h = (i + j) / 2 := ⟨_, rfl⟩
      have hhx : ((i : Int) + (j : Int)) / 2 = (h : Int) := by omega
      have hhd2 : (i + j) / 2 = h := hh.symm
      have hh1 : i ≤ h := by omega
      have hh2 : h < j := by omega
      obtain ⟨x, hx, -, -⟩ := get_some (l := l) (k := h) (by have := HN.out; omega)
      obtain ⟨b, o1, rfl, hb1, hcell⟩ := rngs_at (HR.out.below HB.out) (by have := HN.out; omega)
      obtain ⟨q0, q1, q2⟩ := hcell h x hx
      obtain ⟨S, hS⟩ : ∃ S, str x.lo = S := ⟨_, rfl⟩
      obtain ⟨T, hT⟩ : ∃ T, str x.hi = T := ⟨_, rfl⟩
      obtain ⟨o, ho⟩ : ∃ o, x.op = o := ⟨_, rfl⟩
      rw [hS] at q0
      rw [hT] at q1
      rw [ho] at q2
      obtain ⟨z, hz, hzl, -⟩ := cmp_testK x.lo s
      obtain ⟨t, ht⟩ : ∃ t, ltB x.lo s = t := ⟨_, rfl⟩
      rw [ht] at hzl
      have CB := fun w => Lib.hid (itp_nearBy x S T o ⟨hS, hT, ho⟩ s U HU.out z hz w)
      have HLO := Lib.hid (fun (e : t = true) => HC.out.lo HLR.out hx (ht.trans e))
      have HHI := Lib.hid (fun (e : t = false) => HC.out.hi HLR.out hx (ht.trans e))
      have hh0 : (0 : Int) ≤ (h : Int) := by omega
      have hhn : (h : Int) < (n : Int) := by omega
      have hhd : decide ((h : Int) < 0) = false := decide_eq_false (by omega)
      clear hh hx hcell hz ht hS hT ho
      cases t
      · have HC2 := Lib.hid (HHI.out (by first | rfl | trivial))
        go_wp2_with ((with_reducible refine (CB _).out.mono ?_); rintro e w2 ⟨rfl, hq⟩; have HB2 := Lib.hid (HB.out.trans (hq.mono HB.out.size)); clear hq)
        go_roundw
        case rel => exact ⟨i, h, rfl, by go_num, by omega, by omega, HC2, HB2⟩
        case measure => simp [intOf]; omega
      · have HC2 := Lib.hid (HLO.out (by first | rfl | trivial))
        go_wp2_with ((with_reducible refine (CB _).out.mono ?_); rintro e w2 ⟨rfl, hq⟩; have HB2 := Lib.hid (HB.out.trans (hq.mono HB.out.size)); clear hq)
        go_roundw
        case rel => exact ⟨h + 1, j, by go_num, rfl, by omega, by omega, HC2, HB2⟩
        case measure => simp [intOf]; omega
    · obtain rfl : i = j := by omega
      by_cases hin : i < n
      · obtain ⟨x, hx, -, -⟩ := get_some (l := l) (k := i) (by have := HN.out; omega)
        obtain ⟨b, o1, rfl, hb1, hcell⟩ := rngs_at (HR.out.below HB.out) (by have := HN.out; omega)
        obtain ⟨q0, q1, q2⟩ := hcell i x hx
        obtain ⟨S, hS⟩ : ∃ S, str x.lo = S := ⟨_, rfl⟩
        obtain ⟨T, hT⟩ : ∃ T, str x.hi = T := ⟨_, rfl⟩
        obtain ⟨o, ho⟩ : ∃ o, x.op = o := ⟨_, rfl⟩
        rw [hS] at q0
        rw [hT] at q1
        rw [ho] at q2
        obtain ⟨z, hz, -, hze⟩ := cmp_testK x.lo s
        obtain ⟨e0, he0⟩ : ∃ e0, decide (x.lo = s) = e0 := ⟨_, rfl⟩
        rw [he0] at hze
        have CB := fun w => Lib.hid (itp_nearBy x S T o ⟨hS, hT, ho⟩ s U HU.out z hz w)
        have HF := Lib.hid (show FoundR l s i e0 from ⟨by have := HN.out; omega, HC.out, fun e => ⟨x, hx, by rw [e] at he0; exact of_decide_eq_true he0⟩, fun e y hy => by rw [hx] at hy; injection hy with hy; subst hy; rw [e] at he0; exact of_decide_eq_false he0⟩)
        have ha0 : (0 : Int) ≤ (i : Int) := by omega
        have han : (i : Int) < (n : Int) := by omega
        have had : decide ((i : Int) < 0) = false := decide_eq_false (by omega)
        have hat : decide ((i : Int) < (n : Int)) = true := decide_eq_true (by omega)
        have hat2 : decide (i < n) = true := decide_eq_true hin
        clear hx hcell hz hS hT ho he0
        go_wp2_with ((with_reducible refine (CB _).out.mono ?_); rintro e w2 ⟨rfl, hq⟩; have HB2 := Lib.hid (HB.out.trans (hq.mono HB.out.size)); clear hq)
        go_ret2
        exact ⟨i, e0, by first | rfl | rw [hze], HF.out, HB2.out⟩
      · have HF := Lib.hid (show FoundR l s i false from ⟨by have := HN.out; omega, HC.out, fun e => (by cases e), fun _ y hy => by have := (List.getElem?_eq_some_iff.1 hy).1; have := HN.out; omega⟩)
        obtain rfl : i = n := by omega
        have hat : decide ((i : Int) < (i : Int)) = false := decide_eq_false (by omega)
        go_wp2_with fail
        go_ret2
        exact ⟨i, false, rfl, HF.out, HB.out⟩
theorem rng_sizeOf (w : World) : (sizeOf kRng.el).run Try.prog w = .ok kRng.size w := by
  show (sizeOf 56).run Try.prog w = .ok 3 w
  kernel_rfl
end Go.Proofs.Ytfjaklpddcafdaa

namespace Go.Proofs.Ytfjaklpddcafdaa
open Go.RowKit

theorem Kind.run_cut2I {P : Program} {α : Type} (k : Kind P α) (hs : ∀ w, (sizeOf k.el).run P w = .ok k.size w) (w : World) (A : Option Addr) (n c i j : Nat) (x y : Int) (hx : x = (i : Int)) (hy : y = (j : Int)) (hij : i ≤ j) (hj : j ≤ c) :
    (Instr.slice k.ty (.slice A n c) (some (.int .i64 x)) (some (.int .i64 y)) none).run P w = .ok (.slice (cutK A i k.size c) (j - i) (c - i)) w := by
  subst hx hy
  have he : P.elem k.ty = k.el := by simp [Program.elem, k.under]
  have ht' : P.underlying k.ty = some (.slice (P.elem k.ty)) := by rw [he]; exact k.under
  rw [run_slice_lh w k.ty _ _ _ ht' .i64 .i64 _ _ (by omega) (by omega) (by omega), he, hs]
  simp [Result.andThen, sliced, cutK]
def RetNr (w : World) (l : List Rng) (s : List UInt8) (e : Ending) (w' : World) : Prop := ∃ (A : Option Addr) (n c : Nat) (V : List Rng), e = .returned (.slice A n c) ∧ n = V.length ∧ hasL V s = hasL l s ∧ kRng.Rd w' w'.heap.size A c V ∧ Below w.heap.size w w'
set_option maxRecDepth 100000 in
set_option maxHeartbeats 4000000 in
theorem itp_near (A : Option Addr) (c n : Nat) (l : List Rng) (s : List UInt8) (U : ByteArray) (hn : n = l.length) (hn9 : n ≤ 1000000) (hU : str s = U) (hl : rightL l = true) (w : World) (hr : kRng.Rd w w.heap.size A c l) :
    Calls Try.prog 40 #[.slice A n c, .string U] w (RetNr w l s) := by
  have C := Lib.hid (itp_searchR A c n l s U hn hn9 hU hl w hr)
  have HN := Lib.hid hn
  have HR := Lib.hid hr
  have HL := Lib.hid hl
  have hcx : n ≤ c := by rw [hn]; exact hr.room
  have hc9 : c ≤ 9223372036854775807 := by have := hr.cap; unfold maxLen at this; omega
  clear hn hr hl hU
  go_enter Try.func40, Try.ntmps40
  go_upto_region 2 with ((with_reducible refine C.out.mono ?_); rintro e w2 ⟨a, o, rfl, hf, hq⟩; have HF := Lib.hid hf; have HB := Lib.hid hq; clear hf hq)
  have han : a ≤ n := by rw [HN.out]; exact HF.out.most
  cases o with
  | true =>
    have hal : a < n := by
      obtain ⟨x, hx, -⟩ := HF.out.yes rfl
      have := (List.getElem?_eq_some_iff.1 hx).1
      have := HN.out
      omega
    obtain ⟨a1, ha1⟩ : ∃ a1, a1 = a + 1 := ⟨_, rfl⟩
    have hx1 : (a : Int) + 1 = (a1 : Int) := by omega
    have hw1 : IntKind.i64.wrap ((a : Int) + 1) = (a1 : Int) := by rw [hx1]; exact IntWalk.i64_in _ (by omega)
    have hw2 : IntKind.i64.wrap (a1 : Int) = (a1 : Int) := IntWalk.i64_in _ (by omega)
    have KC := fun W : World => kRng.run_cut2I rng_sizeOf W A n c a a1 (a : Int) (a1 : Int) rfl rfl (by omega) (by omega)
    obtain ⟨A5, hA5⟩ : ∃ A5, cutK A a kRng.size c = A5 := ⟨_, rfl⟩
    obtain ⟨c5, hc5⟩ : ∃ c5, c - a = c5 := ⟨_, rfl⟩
    rw [hA5, hc5, show a1 - a = 1 by omega] at KC
    change ∀ W : World, (Instr.slice 41 (.slice A n c) (some (.int .i64 (a : Int))) (some (.int .i64 (a1 : Int))) none).run Try.prog W = .ok (.slice A5 1 c5) W at KC
    have HV := Lib.hid (show (1 = ((l.drop a).take 1).length ∧ hasL ((l.drop a).take 1) s = hasL l s) ∧ kRng.Rd w2 w2.heap.size A5 c5 ((l.drop a).take 1) from by
      obtain ⟨x, hx, he⟩ := HF.out.yes rfl
      refine ⟨⟨by rw [List.length_take, List.length_drop, ← HN.out]; omega, near_yes HL.out hx he⟩, ?_⟩
      have h1 := (((HR.out.call HB.out).drop (j := a)).inS.take 1)
      rw [hA5, hc5] at h1
      exact ⟨h1.row, h1.room, h1.cap⟩)
    clear hA5 hc5 ha1
    go_wp2_with fail
    go_ret
    exact ⟨A5, 1, c5, _, rfl, HV.out.1.1, HV.out.1.2, HV.out.2, HB.out⟩
  | false =>
    obtain ⟨p, hp⟩ : ∃ p, p = a - 1 := ⟨_, rfl⟩
    obtain ⟨m, hm⟩ : ∃ m : Int, (a : Int) - 1 = m := ⟨_, rfl⟩
    have hmw : IntKind.i64.wrap m = m := IntWalk.i64_in _ (by omega)
    have hmw2 : IntKind.i64.wrap ((a : Int) - 1) = m := by rw [hm]; exact hmw
    have hmx : max m 0 = (p : Int) := by omega
    have hmx2 : (if m < 0 then (0 : Int) else m) = (p : Int) := by split <;> omega
    have hmx3 : (if m ≤ 0 then (0 : Int) else m) = (p : Int) := by split <;> omega
    have KC := fun W : World => kRng.run_cut2I rng_sizeOf W A n c p a (p : Int) (a : Int) rfl rfl (by omega) (by omega)
    obtain ⟨A5, hA5⟩ : ∃ A5, cutK A p kRng.size c = A5 := ⟨_, rfl⟩
    obtain ⟨n5, hn5⟩ : ∃ n5, a - p = n5 := ⟨_, rfl⟩
    obtain ⟨c5, hc5⟩ : ∃ c5, c - p = c5 := ⟨_, rfl⟩
    rw [hA5, hn5, hc5] at KC
    change ∀ W : World, (Instr.slice 41 (.slice A n c) (some (.int .i64 (p : Int))) (some (.int .i64 (a : Int))) none).run Try.prog W = .ok (.slice A5 n5 c5) W at KC
    have HV := Lib.hid (show (n5 = ((l.take a).drop p).length ∧ hasL ((l.take a).drop p) s = hasL l s) ∧ kRng.Rd w2 w2.heap.size A5 c5 ((l.take a).drop p) from by
      refine ⟨⟨by rw [List.length_drop, List.length_take, ← HN.out]; omega, by rw [hp]; exact near_no HL.out (by have := HN.out; omega) HF.out.cut (HF.out.no rfl)⟩, ?_⟩
      have h1 := ((HR.out.call HB.out).inS.take a).drop (j := p)
      rw [hA5, hc5] at h1
      exact ⟨h1.row, h1.room, h1.cap⟩)
    clear hA5 hc5 hn5 hp
    go_wp2_with fail
    go_ret
    exact ⟨A5, n5, c5, _, rfl, HV.out.1.1, HV.out.1.2, HV.out.2, HB.out⟩
set_option maxRecDepth 100000 in
set_option maxHeartbeats 8000000 in
theorem itp_in (A D : Option Addr) (c e n q : Nat) (l : List Itm) (rs : List Rng) (hn : n = l.length) (hq : q = rs.length) (hn9 : n ≤ 400000) (hq9 : q ≤ 1000) (U : List Itm) (hU : inI l (hasL rs) = U) (w : World) (hr : kItm.Rd w w.heap.size A c l) (hs : kRng.Rd w w.heap.size D e rs) :
    Calls Try.prog 23 #[.slice A n c, .slice D q e] w fun e' w' => ∃ v, e' = .returned v ∧ kItm.Own w' w.heap.size v U ∧ Below w.heap.size w w' := by
  have C0 := Lib.hid (rgs_of D e q rs hq hq9 w hs)
  have HN := Lib.hid hn
  have HR := Lib.hid hr
  have HU := Lib.hid hU
  have hn9h := Lib.hid hn9
  have hmx := rd_maxI hr hn
  have hcx : n ≤ c := by rw [hn]; exact hr.room
  have HQL := Lib.hid (show (normV rs).length ≤ 1000000 by have := makeV_len1 rs; omega)
  have HRV := Lib.hid (show rightL (normV rs) = true from makeV_right _ _ _)
  have HHV := Lib.hid (normV_has rs)
  clear hn hr hs hq hU hn9
  go_enter Try.func23, Try.ntmps23
  go_wp2_with ((with_reducible refine C0.out.mono ?_); rintro e1 w1 ⟨A1, c1, rfl, hrd, hb⟩; have HR1 := Lib.hid hrd; have HB1 := Lib.hid hb; clear hrd hb)
  obtain ⟨N1, hN1⟩ : ∃ N1, (normV rs).length = N1 := ⟨_, rfl⟩
  rw [hN1] at HQL
  rw [hN1]
  have HN1 := Lib.hid hN1
  clear hN1 C0
  generalize normV rs = V at HR1 HRV HHV HN1
  go_loopw [5, 12] (fun v i wr => ∃ k : Nat, k ≤ n ∧ Hid (kItm.Own wr w1.heap.size v (inI (l.take k) (hasL rs))) ∧ i = .int .i64 k ∧ Hid (Below w1.heap.size w1 wr)) (fun _ i _ => n - (intOf i).toNat)
  case atStart => exact ⟨0, by omega, Kind.Own.nil _ _, rfl, Below.refl _ _⟩
  case round =>
    obtain ⟨k, hk, HO, rfl, HW⟩ := hrel
    by_cases hlt : k < n
    · obtain ⟨x, hg, hd, hxm⟩ := get_some (l := l) (k := k) (by have := HN.out; omega)
      obtain ⟨b, o, rfl, hb1, hcell⟩ := itms_at (((HR.out.call HB1.out).below HW.out)) (by have := HN.out; omega)
      obtain ⟨p0, p1, p2, p3, p4, p5, p6⟩ := hcell k x hg
      obtain ⟨K, r, cc, rk, pp, dd, BB, hI⟩ : ∃ K r c k p d B, IsI x K r c k p d B := ⟨_, _, _, _, _, _, _, IsI.mk' x⟩
      rw [hI.key] at p0
      rw [hI.rep] at p1
      rw [hI.cnt] at p2
      rw [hI.rank] at p3
      rw [hI.prio] at p4
      rw [hI.dead] at p5
      rw [hI.body] at p6
      obtain ⟨z, hz⟩ : ∃ z, hasL rs x.key = z := ⟨_, rfl⟩
      have HT := Lib.hid (inI_take (hasL rs) hg)
      rw [hz] at HT
      have HRW := fun w => Lib.hid (itm_row w x K r cc rk pp dd BB hI)
      have HLE := Lib.hid (show (inI (l.take k) (hasL rs)).length + [x].length ≤ 1000000 by
        have h1 := inI_len (l.take k) (hasL rs)
        rw [List.length_take] at h1
        have := hn9h.out
        rw [List.length_singleton]; omega)
      have H6 := Lib.hid (itAt_new wr K r cc rk pp dd BB)
      have HB6 := Lib.hid (HW.out.alloc HW.out.size (itO K r cc rk pp dd BB))
      have HO6 := Lib.hid (HO.out.alloc (itO K r cc rk pp dd BB))
      obtain ⟨W6, hW6⟩ : ∃ W6, wr.alloc (itO K r cc rk pp dd BB) = W6 := ⟨_, rfl⟩
      rw [hW6] at H6 HB6 HO6
      have CN := fun (W : World) (hb : Below W6.heap.size W6 W) => Lib.hid (itp_near A1 c1 N1 V x.key K HN1.out.symm HQL.out hI.key HRV.out W ((HR1.out.call (HB6.out.trans (hb.mono HB6.out.size)))))
      have CH := Lib.hid (fun (A7 : Option Addr) (n7 c7 : Nat) (V7 : List Rng) (h7 : n7 = V7.length) (hh : hasL V7 x.key = hasL V x.key) (w7 : World) (hr7 : kRng.Rd w7 w7.heap.size A7 c7 V7) => rgs_has A7 c7 n7 V7 x.key K h7 hI.key z (hh.trans ((HHV.out x.key).trans hz)) w7 hr7)
      obtain ⟨s0, s1, s2, s3, s4, s5, s6⟩ := H6.out
      have HB0 := Lib.hid (show Below W6.heap.size W6 W6.drew from (Below.refl _ _).drew)
      have hk0 : (0 : Int) ≤ (k : Int) := by omega
      have hkn : (k : Int) < (n : Int) := by omega
      clear hcell hg hd hxm hz hI
      cases z
      all_goals
        go_upto_region 6 with fail
        go_region_held3 (fun w' => w'.cell? ⟨wr.heap.size, 0, none⟩ = some (.string K)) (first | assumption | go_keep)
          (first
            | (go_at_call 40; (with_reducible refine (CN _ HB0.out).out.mono ?_); rintro e7 w7 ⟨A7, n7, c7, V7, rfl, hn7, hh7, hr7, hq7⟩; have C8 := Lib.hid (CH.out A7 n7 c7 V7 hn7 hh7 w7 hr7); have HB7 := Lib.hid (HB0.out.trans (hq7.mono HB0.out.size)); have HM7 := Lib.hid (H6.out.below HB7.out); clear s0 s1 s2 s3 s4 s5 s6; obtain ⟨s0, s1, s2, s3, s4, s5, s6⟩ := HM7.out; clear hn7 hh7 hr7 hq7)
            | (go_at_call 39; (with_reducible refine C8.out.mono ?_); rintro e8 w8 ⟨rfl, hq8⟩; have HB8 := Lib.hid (HB7.out.trans (hq8.mono HB7.out.size)); have HM8 := Lib.hid (H6.out.below HB8.out); clear s0 s1 s2 s3 s4 s5 s6; obtain ⟨s0, s1, s2, s3, s4, s5, s6⟩ := HM8.out; clear hq8))
        have HO8 := Lib.hid (HO6.out.below HB8.out)
        have HW8 := Lib.hid (HB6.out.trans (HB8.out.mono HB6.out.size))
        clear HO HO6 HB0 HB7
        first
          | (go_wp2_with fail
             go_roundw
             case rel => exact ⟨k + 1, by omega, (by rw [HT.out]; show kItm.Own _ _ _ (_ ++ []); rw [List.append_nil]; exact HO8.out), by go_num, HW8⟩
             case measure => simp [intOf]; omega)
          | (go_wp2_with (at_builtin; refine wpList_app_k kItm rfl (.tmp 23) (.tmp 25) rfl w1.heap.size _ _ rfl (Kind.Own.alloc HO8.out _) _ (some ⟨w8.heap.size, 0, none⟩) 1 1 [x] rfl rfl (HRW w8).out HLE.out (by decide) (it_alloc HW8.out.size _) ?_; intro v3 w3 hown3 hg3 hb3 _; have HO3 := Lib.hid hown3; have HW3 := Lib.hid ((HW8.out.alloc HW8.out.size _).trans hb3); clear hown3 hb3 hg3)
             go_roundw
             case rel => exact ⟨k + 1, by omega, (by rw [HT.out]; exact HO3.out), by go_num, HW3⟩
             case measure => simp [intOf]; omega)
    · have hkn : l.take k = l := List.take_of_length_le (by have := HN.out; omega)
      rw [hkn, HU.out] at HO
      clear hkn
      go_wp2_with fail
      go_ret
      exact ⟨_, rfl, HO.out.mono HB1.out.size, HB1.out.trans (HW.out.mono HB1.out.size)⟩
end Go.Proofs.Ytfjaklpddcafdaa

namespace Go.Proofs.Ytfjaklpddcafdaa
open Go.RowKit

theorem k_iright : IRightC 10 := fun x K r c k p d B hx _ _ v hv w => itp_right x K r c k p d B hx v hv w
theorem k_icmp : ICmpC 12 := fun x y K r c k p d B hx K' r' c' k' p' d' B' hy v hv w => itp_cmp x y K r c k p d B hx K' r' c' k' p' d' B' hy v hv w
theorem k_iwins : IWinsC 13 := fun A c n l hn _ =>
  ⟨fun x hx K r c' k p d B hI w hr => itp_wins A c n l hn x (by rw [hx]; rfl) K r c' k p d B hI true (by rw [hx]; rfl) w hr,
   fun hx w hr => itp_wins A c n l hn zItm (by rw [hx]; rfl) ⟨#[]⟩ 0 0 0 0 false ⟨#[]⟩ ⟨rfl, rfl, rfl, rfl, rfl, rfl, rfl⟩ false (by rw [hx]; rfl) w hr⟩
theorem k_ilist : IListC 16 := fun A c n l hn _ v hv w hr => itp_list A c n l hn v hv w hr
theorem k_ifind : IFindC 15 := fun A c n l s U hn hs hU _ => itp_find A c n l s U hn (by have := hs.1; omega) hU
theorem k_imerge : IMergeC 20 := fun A c n ls hn h4 hs U hU N hN w hr =>
  (itp_merge A c n ls hn (by omega) (by have := hs.1; omega) w hr).mono fun e w' ⟨v, he, ho, hb⟩ => by
    rw [hU] at ho
    obtain ⟨A', c', rfl, hrd⟩ := ho.read_n hN
    exact ⟨A', c', he, hrd, hb⟩
theorem k_iin : IInC 23 := fun A D c e n q l rs hn hq hs hL U hU N hN w hr hd =>
  (itp_in A D c e n q l rs hn hq (by have := hs.1; omega) (by have := hL.1; omega) U hU w hr hd).mono fun e' w' ⟨v, he, ho, hb⟩ => by
    obtain ⟨A', c', rfl, hrd⟩ := ho.read_n hN
    exact ⟨A', c', he, hrd, hb⟩
end Go.Proofs.Ytfjaklpddcafdaa

namespace Go.Proofs.Ytfjaklpddcafdaa
open Go.ChangeShapes Go.WideShapes Go.ChangeAt Go.RowKit

theorem cells_string : Try.prog.cellsOf 9 = 1 := by kernel_rfl
theorem cells_bool : Try.prog.cellsOf 4 = 1 := by kernel_rfl
set_option maxRecDepth 100000 in
theorem in_rngs {H : Type} {enc : TypeId × Value → H} {W : World} {base : Nat} {v : Value} {d : DataW H} {p : List MemPlace}
    (hok : Value.okWide Try.prog W .any base 41 v) (h : DataW.Trod enc Try.prog W 0 (fun _ => true) true 41 v d p) :
    ∃ (A : Option Addr) (c : Nat) (l : List Rng), v = .slice A l.length c ∧ kRng.Rd W W.heap.size A c l := by
  obtain ⟨A, c, l, rfl, h1, -, h2, h3⟩ := in_slice rngCells (fun _ => True) Try.underlying41 (k := 3) (by kernel_rfl) (by omega) (fun n cs y hl hy => by
    obtain ⟨y0, y1, y2, n', -, -, h0, h1, h2⟩ := Go.Deep.trod_struct3 Try.underlying56 hy
    rw [cells_string] at h0 h1
    rw [cells_bool] at h2
    match cs, hl with
    | [a, b, c], _ =>
      obtain ⟨s, e0, -, w0⟩ := DataW.trod_string Try.underlying9 h0
      obtain ⟨t, e1, -, w1⟩ := DataW.trod_string Try.underlying9 h1
      obtain ⟨q, e2, -⟩ := DataW.trod_bool Try.underlying4 h2
      simp at e0 e1 e2
      subst e0 e1 e2
      exact ⟨⟨s.data.toList, t.data.toList, q⟩, by simp only [rngCells, str_of], trivial⟩) hok h
  exact ⟨A, c, l, rfl, h1, h2, h3⟩
end Go.Proofs.Ytfjaklpddcafdaa
