/-
  Several texts in one: VstG, VstH, Law14A, Law14B, Law14C, Law14D, Law14E, Law14F, VrOne.
-/
import Derived.Deep.DeepCutAuto
import Derived.Deep.RegionLaw
import Derived.Deep.RegionHeld3
import Derived.BigRegion
import Derived.Test.YtdlloobdmfoalaaMg3
/-
  Layer 14 (vset): how many runs a right list has; the document's words: some versions more.
-/
namespace Go.Proofs.Ytdlloobdmfoalaa
open Go.RowKit

/-- A right list has no more runs than any list of the same counts. -/
theorem right_len : ∀ {l s : List Rn}, rightC l = true → (∀ n, hasC l n = hasC s n) → l.length ≤ s.length
  | [], _, _, _ => Nat.zero_le _
  | r :: l, s, hr, h => by
    have h0 := oneC_iff.1 (rightC_head hr)
    have hb := hasC_behind hr
    rw [h] at hb
    have hall : ∀ t ∈ s, ∀ n, inC t n = true → hasC s n = true := fun t ht n hn => List.any_eq_true.2 ⟨t, ht, hn⟩
    have e : ∀ n, hasC l n = hasC (s.filter fun t => decide (r.to < t.fr)) n := fun n => by
      rw [hasC_tail hr, h, Bool.eq_iff_iff, Bool.and_eq_true, decide_eq_true_eq]
      constructor
      · rintro ⟨h1, h2⟩
        obtain ⟨t, ht, hn⟩ := List.any_eq_true.1 h1
        refine List.any_eq_true.2 ⟨t, List.mem_filter.2 ⟨ht, decide_eq_true ?_⟩, hn⟩
        have h3 := inC_iff.1 hn
        rcases Int.lt_or_le r.to t.fr with h4 | h4
        · exact h4
        · rw [hall t ht (r.to + 1) (inC_iff.2 ⟨h3.1, by omega, by omega⟩)] at hb; cases hb
      · intro h1
        obtain ⟨t, ht, hn⟩ := List.any_eq_true.1 h1
        obtain ⟨ht, h2⟩ := List.mem_filter.1 ht
        have h3 := inC_iff.1 hn
        have h4 := of_decide_eq_true h2
        exact ⟨hall t ht n hn, by omega⟩
    have h1 := right_len (rightC_tail hr) e
    have h2 : hasC s r.fr = true := by rw [← h]; exact hasC_first hr (Int.le_refl _) h0.2.1
    obtain ⟨t, ht, hn⟩ := List.any_eq_true.1 h2
    have h3 : (s.filter fun t => decide (r.to < t.fr)).length < s.length := by
      rw [List.length_filter_lt_length_iff_exists]
      exact ⟨t, ht, by have := inC_iff.1 hn; simp only [decide_eq_true_eq]; omega⟩
    rw [List.length_cons]
    omega
theorem makeC1_len (a b : List Rn) : (makeC 1 a b).length ≤ a.length + b.length := by
  rw [← List.length_append]
  exact right_len (makeC_right 1 a b) fun n => by rw [makeC_has, gC1, hasC_append]
theorem rightS_out {s : List Kn} (h : rightS s = true) {r : Int} (hr : ¬ (1 ≤ r ∧ r ≤ 16)) : runsV s r = [] := runsV_none fun k hk => by have := upS_all h k hk; omega
theorem makeS1_runs (a b : List Kn) (r : Int) : (runsV (makeS 1 a b) r).length ≤ (runsV a r).length + (runsV b r).length := by
  by_cases hr : 1 ≤ r ∧ r ≤ 16
  · rw [makeS_runs hr.1 hr.2]; exact makeC1_len _ _
  · rw [rightS_out (makeS_right 1 a b) hr]; exact Nat.zero_le _
theorem oneS_runs (v : Vr) (r : Int) : (runsV (oneS v) r).length ≤ 1 := by
  unfold oneS
  rw [runsV, runsV, List.append_nil]
  by_cases h : v.rep = r
  · rw [partV_yes (k := ⟨v.rep, [⟨v.cnt, v.cnt⟩]⟩) h]; exact Nat.le_refl _
  · rw [partV_no (k := ⟨v.rep, [⟨v.cnt, v.cnt⟩]⟩) h]; exact Nat.zero_le _
theorem addS_runs (s : List Kn) (v : Vr) (r : Int) : (runsV (addS s v) r).length ≤ (runsV s r).length + 1 := by
  unfold addS
  cases rightVr v
  · exact Nat.le_succ _
  · have h1 := makeS1_runs s (oneS v) r
    have h2 := oneS_runs v r
    show (runsV (makeS 1 s (oneS v)) r).length ≤ _
    omega
theorem adds_runs : ∀ (l : List Vr) (s : List Kn) (r : Int), (runsV (l.foldl addS s) r).length ≤ (runsV s r).length + l.length
  | [], _, _ => Nat.le_refl _
  | v :: l, s, r => by
    have h1 := adds_runs l (addS s v) r
    have h2 := addS_runs s v r
    rw [List.foldl_cons, List.length_cons]
    omega
set_option maxRecDepth 100000 in
set_option maxHeartbeats 4000000 in
theorem ref_vadd (A B : Option Addr) (c d n m : Nat) (s : List Kn) (l : List Vr) (hn : n = s.length) (hm : m = l.length) (hml : m ≤ 1000) (hnl : ∀ r, (runsV s r).length ≤ 15000) (U : List Kn) (hU : addsS s l = U) (N : Nat) (hN : U.length = N) (w : World) (ha : RdK w w.heap.size A c s) (hb : kVr.Rd w w.heap.size B d l) :
    Calls Try.prog 18 #[.slice A n c, .slice B m d] w (RetK w N U) := by
  have HA := Lib.hid ha
  have HB := Lib.hid hb
  have HM := Lib.hid hm
  have HNN := Lib.hid hN
  have hdx : m ≤ d := by rw [hm]; exact hb.room
  obtain ⟨S0, hS⟩ : ∃ S0, ofS s = S0 := ⟨_, rfl⟩
  obtain ⟨N0, hN0⟩ : ∃ N0, S0.length = N0 := ⟨_, rfl⟩
  have C0 := fun w h => Lib.hid (ref_vof A c n s hn (fun r => by have := hnl r; omega) S0 hS N0 hN0 w h)
  have HR0 := Lib.hid (fun (k : Nat) (r : Int) => show (runsV ((l.take k).foldl addS S0) r).length ≤ 16000 by
    have h1 := adds_runs (l.take k) S0 r
    have h2 := makeS1_runs s [] r
    have h3 := hnl r
    rw [show makeS 1 s [] = S0 from hS] at h2
    rw [List.length_take] at h1
    simp only [runsV, List.length_nil] at h2
    omega)
  have HU := Lib.hid (show l.foldl addS S0 = U by rw [← hU, ← hS]; rfl)
  have HN0 := Lib.hid hN0
  clear ha hb hn hm hN hnl hU hS hN0
  go_enter Try.func18, Try.ntmps18
  go_wp2_with ((with_reducible refine (C0 _ HA.out).out.mono ?_); rintro e w1 ⟨A1, c1, rfl, hrd, hq⟩; have HD := Lib.hid hrd; have HW1 := Lib.hid hq; clear hrd hq)
  clear C0
  go_loopw [5, 6] (fun v i wr => ∃ (k N9 c9 : Nat) (A9 : Option Addr) (out : List Kn), k ≤ m ∧ Hid ((l.take k).foldl addS S0 = out) ∧ v = .slice A9 N9 c9 ∧ Hid (out.length = N9) ∧ Hid (RdK wr wr.heap.size A9 c9 out) ∧ i = .int .i64 k ∧ Hid (Below w.heap.size w wr)) (fun _ i _ => m - (intOf i).toNat)
  case atStart => exact ⟨0, N0, c1, A1, S0, by omega, rfl, rfl, HN0, HD, rfl, HW1⟩
  case round =>
    obtain ⟨k, N9, c9, A9, out, hk, HE, rfl, HL9, HO, rfl, HW⟩ := hrel
    by_cases hlt : k < m
    · obtain ⟨v, hg, -, -⟩ := cnt_get (l := l) (k := k) (by have := HM.out; omega)
      obtain ⟨b, o, rfl, hb1, hcell⟩ := vrs_at (HB.out.below HW.out) (by have := HM.out; omega)
      obtain ⟨c0, c1'⟩ := hcell k v hg
      have hbk := Nat.lt_of_lt_of_le hb1 HW.out.size
      have HX := Lib.hid (show (l.take (k + 1)).foldl addS S0 = addS out v by rw [List.take_add_one, hg, Option.toList_some, List.foldl_append, HE.out]; rfl)
      have hr9 : ∀ r, (runsV out r).length ≤ 20000 := fun r => by have := HR0.out k r; rw [HE.out] at this; omega
      obtain ⟨z, hz⟩ : ∃ z, rightVr v = z := ⟨_, rfl⟩
      obtain ⟨x, hx⟩ : ∃ x, v.rep = x := ⟨_, rfl⟩
      obtain ⟨y, hy⟩ : ∃ y, v.cnt = y := ⟨_, rfl⟩
      have C1 := fun w => Lib.hid (ref_vrright v x y hx hy z hz w)
      have C2 := fun w => Lib.hid (ref_vone v x y hx hy w)
      obtain ⟨N8, hN8⟩ : ∃ N, (makeS 1 out (oneS v)).length = N := ⟨_, rfl⟩
      have C3 := fun (A' : Option Addr) (c' : Nat) w h1 h2 => Lib.hid (ref_vmake 1 A9 A' c9 c' N9 1 out (oneS v) HL9.out.symm rfl hr9 (fun r => Nat.le_trans (oneS_runs v r) (by omega)) (makeS 1 out (oneS v)) rfl N8 hN8 w h1 h2)
      have HN8 := Lib.hid hN8
      have hk0 : (0 : Int) ≤ (k : Int) := by omega
      have hkn : (k : Int) < (m : Int) := by omega
      rw [hx] at c0
      rw [hy] at c1'
      cases z
      · have HY := Lib.hid (show addS out v = out by unfold addS; rw [hz])
        clear hcell hg hz hx hy hr9 hN8
        go_wp2_with ((with_reducible refine (C1 _).out.mono ?_); rintro e w2 ⟨rfl, hq⟩; replace HO := Lib.hid (HO.out.call hq); replace HW := Lib.hid (HW.out.trans (hq.mono HW.out.size)); clear hq)
        go_roundw
        case rel => exact ⟨k + 1, N9, c9, A9, out, by omega, show _ = _ from HX.out.trans HY.out, rfl, HL9, HO, by go_num, HW⟩
        case measure => simp [intOf]; omega
      · have HY := Lib.hid (show addS out v = makeS 1 out (oneS v) by unfold addS; rw [hz])
        clear hcell hg hz hx hy hr9 hN8
        go_wp2_with (first
          | ((with_reducible refine (C1 _).out.mono ?_); rintro e w2 ⟨rfl, hq⟩; replace HO := Lib.hid (HO.out.call hq); replace HW := Lib.hid (HW.out.trans (hq.mono HW.out.size)); replace c0 := ((bcell hq).1 _ _ hbk).trans c0; replace c1' := ((bcell hq).1 _ _ hbk).trans c1'; clear hq)
          | ((with_reducible refine (C2 _).out.mono ?_); rintro e w3 ⟨A3, c3, rfl, hrd, hq⟩; replace HO := Lib.hid (HO.out.call hq); replace HW := Lib.hid (HW.out.trans (hq.mono HW.out.size)); have HP := Lib.hid hrd; clear hrd hq)
          | ((with_reducible refine (C3 _ _ _ HO.out HP.out).out.mono ?_); rintro e w4 ⟨A4, c4, rfl, hrd, hq⟩; have HO4 := Lib.hid hrd; have HW4 := Lib.hid (HW.out.trans (hq.mono HW.out.size)); clear hrd hq))
        go_roundw
        case rel => exact ⟨k + 1, N8, c4, A4, makeS 1 out (oneS v), by omega, show _ = _ from HX.out.trans HY.out, rfl, HN8, HO4, by go_num, HW4⟩
        case measure => simp [intOf]; omega
    · have HX := Lib.hid (show out = U by rw [← HE.out, ← HU.out, List.take_of_length_le (by have := HM.out; omega)])
      obtain rfl : N9 = N := by rw [← HL9.out, HX.out]; exact HNN.out
      have HF := Lib.hid (show RdK wr wr.heap.size A9 c9 U from HX.out ▸ HO.out)
      go_wp2_with fail
      go_ret
      exact ⟨A9, c9, rfl, HF.out, HW.out⟩
end Go.Proofs.Ytdlloobdmfoalaa

/-
  Layer 14 (vset), the document's words: is a set right.
-/
namespace Go.Proofs.Ytdlloobdmfoalaa
open Go.RowKit

theorem upS_bool (c : Int) (k : Kn) (s : List Kn) : upS c (k :: s) = (decide (c < k.rep) && (decide (k.rep ≤ 16) && ((!(k.runs.length == 0)) && (rightC k.runs && upS k.rep s)))) := by
  rw [upS, oneK, Bool.and_assoc]
  cases k.runs <;> rfl
theorem upS_first {X : Int} {n : Nat} {z u : Bool} : (decide (0 < X) && (decide (X ≤ 16) && ((!(n == 0)) && (z && u)))) = ((!decide (X < 1)) && ((!decide (16 < X)) && ((!(n == 0)) && (z && u)))) := by
  rw [show decide (0 < X) = !decide (X < 1) from by rw [Bool.eq_iff_iff]; simp; omega, show decide (X ≤ 16) = !decide (16 < X) from by rw [Bool.eq_iff_iff]; simp]
theorem upS_later {X Z : Int} {n : Nat} {z u : Bool} (hZ : 1 ≤ Z) : (decide (Z < X) && (decide (X ≤ 16) && ((!(n == 0)) && (z && u)))) = ((!decide (X < 1)) && ((!decide (16 < X)) && ((!decide (X ≤ Z)) && ((!(n == 0)) && (z && u))))) := by
  rw [show decide (Z < X) = ((!decide (X < 1)) && !decide (X ≤ Z)) from by rw [Bool.eq_iff_iff]; simp; omega, show decide (X ≤ 16) = !decide (16 < X) from by rw [Bool.eq_iff_iff]; simp]
  cases decide (X < 1) <;> cases decide (16 < X) <;> cases decide (X ≤ Z) <;> rfl
set_option maxRecDepth 100000 in
set_option maxHeartbeats 8000000 in
theorem ref_vsright (A : Option Addr) (c n : Nat) (s : List Kn) (hn : n = s.length) (v : Bool) (hv : rightS s = v) (w : World) (hr : RdK w w.heap.size A c s) :
    Calls Try.prog 11 #[.slice A n c] w fun e w' => e = .returned (.bool v) ∧ Below w.heap.size w w' := by
  have HN := Lib.hid hn
  have HR := Lib.hid hr
  have HV := Lib.hid hv
  have hmx := rdk_max hr hn
  have hcx : n ≤ c := by rw [hn]; exact hr.room
  clear hn hr hv
  go_enter Try.func11, Try.ntmps11
  go_wp2_with fail
  go_loopw [3] (fun i wr => ∃ k : Nat, k ≤ n ∧ i = .int .i64 k ∧ Hid ((k = 0 ∧ upS 0 s = v) ∨ ∃ j p, k = j + 1 ∧ s[j]? = some p ∧ 1 ≤ p.rep ∧ upS p.rep (s.drop k) = v) ∧ Hid (Below w.heap.size w wr)) (fun i _ => n - (intOf i).toNat)
  case atStart => exact ⟨0, by omega, rfl, .inl ⟨rfl, HV.out⟩, Below.refl _ _⟩
  case round =>
    obtain ⟨k, hk, rfl, HL, HW⟩ := hrel
    by_cases hlt : k < n
    · obtain ⟨r, hg, hd, -⟩ := cnt_get (l := s) (k := k) (by have := HN.out; omega)
      obtain ⟨b, o, rfl, hb1, hcell⟩ := knowns_at (HR.out.below HW.out) (by have := HN.out; omega)
      obtain ⟨A1, n1, c1, hn1, hr1, q0, q1⟩ := hcell k r hg
      obtain ⟨z, hz⟩ : ∃ z, rightC r.runs = z := ⟨_, rfl⟩
      obtain ⟨X, hX⟩ : ∃ X, r.rep = X := ⟨_, rfl⟩
      obtain ⟨p1, P1⟩ : ∃ p, decide (X < 1) = p := ⟨_, rfl⟩
      obtain ⟨p2, P2⟩ : ∃ p, decide (16 < X) = p := ⟨_, rfl⟩
      obtain ⟨p5, P5⟩ : ∃ p, (n1 == 0) = p := ⟨_, rfl⟩
      have P6 : ((n1 : Int) == 0) = p5 := by rw [← P5, Bool.eq_iff_iff]; simp
      have P7 : decide (n1 = 0) = p5 := by rw [← P5, Bool.eq_iff_iff]; simp
      have hmx1 := rd_maxC hr1 hn1
      have CS := Lib.hid (fun (L : List (Addr × Value)) => fun (W : World) (hC : CellL wr L W) => (ref_cright A1 c1 n1 r.runs hn1 z hz W ((hr1.more HW.out.size).call (cellL_size hC))).mono fun (e' : Ending) (W' : World) ⟨h1, h2⟩ => (⟨h1, cellL_call h2 hC⟩ : e' = Ending.returned (.bool z) ∧ CellL wr L W'))
      rw [hX] at q0
      have hk0 : (0 : Int) ≤ (k : Int) := by omega
      have hkn : (k : Int) < (n : Int) := by omega
      rcases HL.out with ⟨h0, hL⟩ | ⟨j, p, hj, hgj, hp1, hL⟩
      · subst h0
        rw [List.drop_zero] at hd
        have hL2 : ((!p1) && ((!p2) && ((!p5) && (z && upS X (s.drop 1))))) = v := by
          rw [hd, upS_bool, hX, hz, ← hn1, upS_first, P1, P2, P5] at hL
          exact hL
        have HNX := Lib.hid (fun (h1 : p1 = false) (h : upS X (s.drop 1) = v) => show (0 + 1 = 0 ∧ upS 0 s = v) ∨ ∃ j p, 0 + 1 = j + 1 ∧ s[j]? = some p ∧ 1 ≤ p.rep ∧ upS p.rep (s.drop (0 + 1)) = v from .inr ⟨0, r, rfl, hg, by rw [h1] at P1; have := of_decide_eq_false P1; omega, by rw [hX]; exact h⟩)
        have HF := Lib.hid hL2
        rw [Nat.zero_mul, Nat.add_zero] at q0 q1
        have HC := Lib.hid (show CellL wr [(⟨b, o, none⟩, .int .i64 X), (⟨b, o + 1, none⟩, .slice A1 n1 c1)] wr from ⟨q0, q1, Below.refl _ _⟩)
        clear hcell hg hd hX hz hL hL2 HL hr1 hn1 q0 q1
        cases p1 <;> cases p2 <;> cases p5 <;> cases z
        all_goals
          go_wp2_with fail
          refine q_region (CellL wr [(⟨b, o, none⟩, .int .i64 X), (⟨b, o + 1, none⟩, .slice A1 n1 c1)]) (by kernel_rfl) (by kernel_rfl) (cellL_drew HC.out) ?_
          repeat (first
            | go_big_quiet_skip
            | (go_big_quiet_want; (first
              | (refine q_take (v := ?_) ?_ ?_; rotate_left; (focus (intro w hSw; (try simp only [CellL] at hSw); go_split_ands; go_simp; (try (rw [if_neg (by omega)])); (try with_reducible rfl); done)))
              | (refine q_call (CS.out _) ?_ ?_; (focus (intro w hSw; (try simp only [CellL] at hSw); go_split_ands; go_simp; (try (rw [if_neg (by omega)])); done)))); (try simp only [Act.put, List.setIfInBounds_toArray, List.set_cons_zero, List.set_cons_succ]); go_big_quiet_on))
          refine wpQuiet_nil ?_
          intro w2 hw2
          have HB2 := Lib.hid (HW.out.trans ((cellL_size hw2).mono HW.out.size))
          clear hw2
          go_wp2_with fail
          first
            | (go_ret; exact ⟨ret_bool (show false = v from HF.out), HB2.out⟩)
            | (go_roundw
               case rel => exact ⟨0 + 1, by omega, by go_num, HNX.out (by first | rfl | trivial) HF.out, HB2⟩
               case measure => simp [intOf]; omega)
      · subst hj
        obtain ⟨A2, n2, c2, hn2, hr2, t0, t1⟩ := hcell j p hgj
        obtain ⟨Z, hZ⟩ : ∃ Z, p.rep = Z := ⟨_, rfl⟩
        rw [hZ] at t0 hp1 hL
        obtain ⟨p4, P4⟩ : ∃ p, decide (X ≤ Z) = p := ⟨_, rfl⟩
        have hL2 : ((!p1) && ((!p2) && ((!p4) && ((!p5) && (z && upS X (s.drop (j + 1 + 1))))))) = v := by
          rw [hd, upS_bool, hX, hz, ← hn1, upS_later hp1, P1, P2, P4, P5] at hL
          exact hL
        have HNX := Lib.hid (fun (h1 : p1 = false) (h : upS X (s.drop (j + 1 + 1)) = v) => show (j + 1 + 1 = 0 ∧ upS 0 s = v) ∨ ∃ j' p, j + 1 + 1 = j' + 1 ∧ s[j']? = some p ∧ 1 ≤ p.rep ∧ upS p.rep (s.drop (j + 1 + 1)) = v from .inr ⟨j + 1, r, rfl, hg, by rw [h1] at P1; have := of_decide_eq_false P1; omega, by rw [hX]; exact h⟩)
        have HF := Lib.hid hL2
        have hk1 : (0 : Int) ≤ (j : Int) + 1 := by omega
        have hkn1 : (j : Int) + 1 < (n : Int) := by omega
        have hj0 : (0 : Int) ≤ (j : Int) := by omega
        have hjn : (j : Int) < (n : Int) := by omega
        have hjd : decide ((j : Int) < 0) = false := decide_eq_false (by omega)
        have hjg : decide ((0 : Int) < (j : Int) + 1) = true := decide_eq_true (by omega)
        have hjw : IntKind.i64.wrap ((j : Int) + 1 - 1) = (j : Int) := by rw [Int.add_sub_cancel]; exact IntWalk.i64_in _ (by omega)
        have hjw2 : IntKind.i64.wrap (j : Int) = (j : Int) := IntWalk.i64_in _ (by omega)
        have HC := Lib.hid (show CellL wr [(⟨b, o + (j + 1) * 2, none⟩, .int .i64 X), (⟨b, o + (j + 1) * 2 + 1, none⟩, .slice A1 n1 c1), (⟨b, o + j * 2, none⟩, .int .i64 Z)] wr from ⟨q0, q1, t0, Below.refl _ _⟩)
        clear hcell hg hgj hd hX hZ hz hL hL2 HL hr1 hn1 hr2 hn2 q0 q1 t0 t1
        cases p1 <;> cases p2 <;> cases p4 <;> cases p5 <;> cases z
        all_goals
          go_wp2_with fail
          refine q_region (CellL wr [(⟨b, o + (j + 1) * 2, none⟩, .int .i64 X), (⟨b, o + (j + 1) * 2 + 1, none⟩, .slice A1 n1 c1), (⟨b, o + j * 2, none⟩, .int .i64 Z)]) (by kernel_rfl) (by kernel_rfl) (cellL_drew HC.out) ?_
          repeat (first
            | go_big_quiet_skip
            | (go_big_quiet_want; (first
              | (refine q_take (v := ?_) ?_ ?_; rotate_left; (focus (intro w hSw; (try simp only [CellL] at hSw); go_split_ands; go_simp; (try (rw [if_neg (by omega)])); (try with_reducible rfl); done)))
              | (refine q_call (CS.out _) ?_ ?_; (focus (intro w hSw; (try simp only [CellL] at hSw); go_split_ands; go_simp; (try (rw [if_neg (by omega)])); done)))); (try simp only [Act.put, List.setIfInBounds_toArray, List.set_cons_zero, List.set_cons_succ]); go_big_quiet_on))
          refine wpQuiet_nil ?_
          intro w2 hw2
          have HB2 := Lib.hid (HW.out.trans ((cellL_size hw2).mono HW.out.size))
          clear hw2
          go_wp2_with fail
          first
            | (go_ret; exact ⟨ret_bool (show false = v from HF.out), HB2.out⟩)
            | (go_roundw
               case rel => exact ⟨j + 1 + 1, by omega, by go_num, HNX.out (by first | rfl | trivial) HF.out, HB2⟩
               case measure => simp [intOf]; omega)
    · have HF := Lib.hid (show true = v by
        rcases HL.out with ⟨h0, hL⟩ | ⟨j, p, hj, hgj, hp1, hL⟩
        · have : s = [] := List.eq_nil_of_length_eq_zero (by have := HN.out; omega)
          rw [← hL, this]; rfl
        · rw [← hL, List.drop_eq_nil_of_le (by have := HN.out; omega)]; rfl)
      go_wp2_with fail
      go_ret
      exact ⟨ret_bool HF.out, HW.out⟩
end Go.Proofs.Ytdlloobdmfoalaa

/-
  The laws of layer 14: what they ask of the program's functions; the chapter's example.
-/
namespace Go.Proofs.Ytdlloobdmfoalaa
open Go.RowKit

def CapS (s : List Kn) : Prop := s.length ≤ 1000 ∧ ∀ r, (runsV s r).length ≤ 20000
def SRightC (F : FuncId) : Prop := ∀ (A : Option Addr) (c n : Nat) (s : List Kn), n = s.length → CapS s → ∀ v, rightS s = v → ∀ w, RdK w w.heap.size A c s → Calls Try.prog F #[.slice A n c] w fun e w' => e = .returned (.bool v) ∧ Below w.heap.size w w'
def SHasC (F : FuncId) : Prop := ∀ (A : Option Addr) (c n : Nat) (s : List Kn) (v : Vr) (x y : Int), v.rep = x → v.cnt = y → n = s.length → CapS s → ∀ f, hasS s v = f → ∀ w, RdK w w.heap.size A c s → Calls Try.prog F #[.slice A n c, .agg #[.int .i64 x, .int .i64 y]] w fun e w' => e = .returned (.bool f) ∧ Below w.heap.size w w'
def SOfC (F : FuncId) : Prop := ∀ (A : Option Addr) (c n : Nat) (s : List Kn), n = s.length → CapS s → ∀ U, ofS s = U → ∀ N, U.length = N → ∀ w, RdK w w.heap.size A c s → Calls Try.prog F #[.slice A n c] w (RetK w N U)
def SAddC (F : FuncId) : Prop := ∀ (A B : Option Addr) (c d n m : Nat) (s : List Kn) (l : List Vr), n = s.length → m = l.length → m ≤ 1000 → s.length ≤ 1000 → (∀ r, (runsV s r).length ≤ 15000) → ∀ U, addsS s l = U → ∀ N, U.length = N → ∀ w, RdK w w.heap.size A c s → kVr.Rd w w.heap.size B d l → Calls Try.prog F #[.slice A n c, .slice B m d] w (RetK w N U)
def SSetC (F : FuncId) (op : Int) : Prop := ∀ (A B : Option Addr) (c d n m : Nat) (a b : List Kn), n = a.length → m = b.length → CapS a → CapS b → ∀ U, makeS op a b = U → ∀ N, U.length = N → ∀ w, RdK w w.heap.size A c a → RdK w w.heap.size B d b → Calls Try.prog F #[.slice A n c, .slice B m d] w (RetK w N U)
def SBoolC (F : FuncId) (g : List Kn → List Kn → Prop) : Prop := ∀ (A B : Option Addr) (c d n m : Nat) (a b : List Kn), n = a.length → m = b.length → CapS a → CapS b → ∀ v : Bool, (v = true ↔ g a b) → ∀ w, RdK w w.heap.size A c a → RdK w w.heap.size B d b → Calls Try.prog F #[.slice A n c, .slice B m d] w fun e w' => e = .returned (.bool v) ∧ Below w.heap.size w w'
def sameQ (a b : List Kn) : Prop := ofS a = ofS b
def withinQ (a b : List Kn) : Prop := makeS 3 a b = []
def SVecC (F : FuncId) : Prop := ∀ (A : Option Addr) (c n : Nat) (s : List Kn), n = s.length → CapS s → ∀ G : Nat → Int, (∀ k : Nat, G k = baseC (runsV s ((k : Int) + 1))) → ∀ w, RdK w w.heap.size A c s →
  Calls Try.prog F #[.slice A n c] w fun e w' => e = .returned (.agg #[.int .i64 (G 0), .int .i64 (G 1), .int .i64 (G 2), .int .i64 (G 3), .int .i64 (G 4), .int .i64 (G 5), .int .i64 (G 6), .int .i64 (G 7), .int .i64 (G 8), .int .i64 (G 9), .int .i64 (G 10), .int .i64 (G 11), .int .i64 (G 12), .int .i64 (G 13), .int .i64 (G 14), .int .i64 (G 15)]) ∧ Below w.heap.size w w'
/-- The greatest count of a replica; of what is none: 0. -/
def topS (s : List Kn) (r : Int) : Int := match decide (1 ≤ r) && decide (r ≤ 16) with
  | true => mostC (runsV s r)
  | false => 0
def SMostC (F : FuncId) : Prop := ∀ (A : Option Addr) (c n : Nat) (s : List Kn) (r : Int), n = s.length → CapS s → ∀ z, topS s r = z → ∀ w, RdK w w.heap.size A c s → Calls Try.prog F #[.slice A n c, .int .i64 r] w fun e w' => e = .returned (.int .i64 z) ∧ Below w.heap.size w w'
theorem capS_of {m : Nat} {s : List Kn} (h : sizeV m s) (hm : m ≤ 30) : CapS s := by
  refine ⟨by have := h.1; omega, fun r => ?_⟩
  have h1 := runsV_len r h.2
  have h2 : m * s.length ≤ 30 * 30 := Nat.mul_le_mul hm (by have := h.1; omega)
  omega
theorem capS_nil : CapS [] := ⟨by simp, fun _ => Nat.zero_le _⟩
theorem vsame_is (A B : Option Addr) (c d n m : Nat) (s : List Kn) (hn : n = s.length) (hm : m = s.length) (w : World) (ha : RdK w w.heap.size A c s) (hb : RdK w w.heap.size B d s) :
    Calls Try.prog 14 #[.slice A n c, .slice B m d] w fun e w' => e = .returned (.bool true) ∧ Below w.heap.size w w' :=
  ref_vsame A B c d n m s s hn hm true (sameS_iff.2 rfl) w ha hb
noncomputable def awk14 (w : World) : World := w.alloc (.cells #[.int .i64 2, .int .i64 1, .int .i64 2, .int .i64 2, .int .i64 1, .int .i64 5] 25)
theorem awk14_rows (w : World) : kVr.Rd (awk14 w) (awk14 w).heap.size (some ⟨w.heap.size, 0, none⟩) 3 [⟨2, 1⟩, ⟨2, 2⟩, ⟨1, 5⟩] ∧ Below w.heap.size w (awk14 w) := by
  have h1 := Kind.rd_new (k := kVr) (w := w) (cs := #[.int .i64 2, .int .i64 1, .int .i64 2, .int .i64 2, .int .i64 1, .int .i64 5]) (t := 25) (l := [⟨2, 1⟩, ⟨2, 2⟩, ⟨1, 5⟩]) (n := 3) rfl rfl (by simp)
  refine ⟨?_, below_new _ _⟩
  have e : (awk14 w).heap.size = w.heap.size + 1 := by unfold awk14; simp
  rw [e]; exact h1
/-- A vector lies in block g. -/
abbrev vecO (G : Nat → Int) : Obj := .cells #[.int .i64 (G 0), .int .i64 (G 1), .int .i64 (G 2), .int .i64 (G 3), .int .i64 (G 4), .int .i64 (G 5), .int .i64 (G 6), .int .i64 (G 7), .int .i64 (G 8), .int .i64 (G 9), .int .i64 (G 10), .int .i64 (G 11), .int .i64 (G 12), .int .i64 (G 13), .int .i64 (G 14), .int .i64 (G 15)] 39
def VecAt (w : World) (g : Nat) (G : Nat → Int) : Prop := ∀ k, k < 16 → w.cell? ⟨g, k, none⟩ = some (.int .i64 (G k))
theorem vec_new (w : World) (G : Nat → Int) : VecAt (w.alloc (vecO G)) w.heap.size G := fun k hk => by
  rw [cell_of_row _ _ _ _ _ _ (heap_new w (vecO G) _ rfl)]
  have h : k = 0 ∨ k = 1 ∨ k = 2 ∨ k = 3 ∨ k = 4 ∨ k = 5 ∨ k = 6 ∨ k = 7 ∨ k = 8 ∨ k = 9 ∨ k = 10 ∨ k = 11 ∨ k = 12 ∨ k = 13 ∨ k = 14 ∨ k = 15 := by omega
  rcases h with rfl | rfl | rfl | rfl | rfl | rfl | rfl | rfl | rfl | rfl | rfl | rfl | rfl | rfl | rfl | rfl <;> rfl
theorem VecAt.below {w w' : World} {g : Nat} {G : Nat → Int} (h : VecAt w g G) (hb : Below w.heap.size w w') : VecAt w' g G := fun k hk => ((bcell hb).1 _ _ (World.block_lt_of_cell? w _ (h k hk))).trans (h k hk)
set_option maxRecDepth 100000 in
set_option maxHeartbeats 4000000 in
theorem awake14 (HA : SAddC 17) (HV : SVecC 25) (HM : SMostC 28) (HH : SHasC 12) (w : World) :
    Calls Try.prog 8 #[] w fun e w' => e = .returned (.bool true) ∧ Below w.heap.size w w' := by
  have U0 : addsS [] [⟨2, 1⟩, ⟨2, 2⟩, ⟨1, 5⟩] = [⟨1, [⟨5, 5⟩]⟩, ⟨2, [⟨1, 2⟩]⟩] := by kernel_rfl
  have hcap : CapS [⟨1, [⟨5, 5⟩]⟩, ⟨2, [⟨1, 2⟩]⟩] := capS_of (m := 2) ⟨by simp, fun k hk => by simp at hk; rcases hk with rfl | rfl <;> simp⟩ (by omega)
  have D1 := fun w => Lib.hid ((HA none (some ⟨w.heap.size, 0, none⟩) 0 3 0 3 [] [⟨2, 1⟩, ⟨2, 2⟩, ⟨1, 5⟩] rfl rfl (by omega) (by simp) (fun _ => Nat.zero_le _) _ U0 2 rfl (awk14 w) (rdk_nil _ _ _) (awk14_rows w).1).mono fun e w' ⟨A, c, h1, h2, h3⟩ => (⟨A, c, h1, h2, (awk14_rows w).2.trans (h3.mono (awk14_rows w).2.size)⟩ : RetK w 2 [⟨1, [⟨5, 5⟩]⟩, ⟨2, [⟨1, 2⟩]⟩] e w'))
  unfold awk14 at D1
  obtain ⟨G, hG⟩ : ∃ G : Nat → Int, ∀ k : Nat, G k = baseC (runsV [⟨1, [⟨5, 5⟩]⟩, ⟨2, [⟨1, 2⟩]⟩] ((k : Int) + 1)) := ⟨_, fun _ => rfl⟩
  have G0 := Lib.hid (show G 0 = 0 by rw [hG]; decide +kernel)
  have G1 := Lib.hid (show G 1 = 2 by rw [hG]; decide +kernel)
  have V1 := fun A c w hr => Lib.hid (HV A c 2 [⟨1, [⟨5, 5⟩]⟩, ⟨2, [⟨1, 2⟩]⟩] rfl hcap G hG w hr)
  have M1 := fun A c w hr => Lib.hid (HM A c 2 [⟨1, [⟨5, 5⟩]⟩, ⟨2, [⟨1, 2⟩]⟩] 1 rfl hcap 5 (by decide +kernel) w hr)
  have H1 := fun A c w hr => Lib.hid (HH A c 2 [⟨1, [⟨5, 5⟩]⟩, ⟨2, [⟨1, 2⟩]⟩] ⟨1, 5⟩ 1 5 rfl rfl rfl hcap true (by decide +kernel) w hr)
  have HW := Lib.hid (Below.refl w.heap.size w)
  clear HA HV HM HH U0 hG hcap
  go_enter Try.func8, Try.ntmps8
  go_upto_region 3 with (first
    | ((with_reducible refine (D1 _).out.mono ?_); rintro e w9 ⟨A1, c1, rfl, hrd, hq⟩; have HR := Lib.hid hrd; have HW1 := Lib.hid hq; clear hrd hq)
    | ((with_reducible refine (V1 _ _ _ HR.out).out.mono ?_); rintro e w8 ⟨rfl, hq⟩; replace HR := Lib.hid (HR.out.call hq); replace HW1 := Lib.hid (HW1.out.trans (hq.mono HW1.out.size)); clear hq))
  clear D1 V1
  obtain ⟨w7, hw7⟩ : ∃ w7, w7 = w8.alloc (vecO G) := ⟨_, rfl⟩
  have HV := Lib.hid (show VecAt w7 w8.heap.size G by rw [hw7]; exact vec_new _ _)
  have hq : Below w8.heap.size w8 w7 := by rw [hw7]; exact below_new _ _
  replace HR := Lib.hid (HR.out.call hq)
  replace HW1 := Lib.hid (HW1.out.trans (hq.mono HW1.out.size))
  rw [← hw7]
  clear hq hw7
  have v0 := HV.out 0 (by omega)
  have v1 := HV.out 1 (by omega)
  rw [G0.out] at v0
  rw [G1.out] at v1
  obtain ⟨b, o, rfl, hb1, hcell⟩ := knowns_at HR.out (by simp)
  obtain ⟨A2, n2, c2, hn2, -, q0, q1⟩ := hcell 1 ⟨2, [⟨1, 2⟩]⟩ rfl
  obtain rfl : n2 = 1 := hn2
  rw [Nat.one_mul] at q0 q1
  clear hcell HV
  go_wp2_with (first
    | ((with_reducible refine (M1 _ _ _ HR.out).out.mono ?_); rintro e w8 ⟨rfl, hq⟩; replace HR := Lib.hid (HR.out.call hq); replace HW1 := Lib.hid (HW1.out.trans (hq.mono HW1.out.size)); clear hq)
    | ((with_reducible refine (H1 _ _ _ HR.out).out.mono ?_); rintro e w8 ⟨rfl, hq⟩; replace HR := Lib.hid (HR.out.call hq); replace HW1 := Lib.hid (HW1.out.trans (hq.mono HW1.out.size)); clear hq))
  go_ret
  exact ⟨rfl, HW1.out⟩
end Go.Proofs.Ytdlloobdmfoalaa

/-
  The laws of layer 14: VsetSets.
-/
namespace Go.Proofs.Ytdlloobdmfoalaa
open Go.RowKit

/-- A version lies in block g. -/
def VBox (w : World) (g : Nat) (x y : Int) : Prop := w.cell? ⟨g, 0, none⟩ = some (.int .i64 x) ∧ w.cell? ⟨g, 1, none⟩ = some (.int .i64 y)
theorem VBox.below {w w' : World} {g : Nat} {x y : Int} (h : VBox w g x y) (hb : Below w.heap.size w w') : VBox w' g x y := by
  have hl := World.block_lt_of_cell? w _ h.1
  exact ⟨((bcell hb).1 _ _ hl).trans h.1, ((bcell hb).1 _ _ hl).trans h.2⟩
/-- A contract of a call that answers a truth, for a statement that draws its order. -/
theorem cellL_with {P : Program} {f : FuncId} {args : Array Value} {v : Value} {a : World} {L : List (Addr × Value)} (h : ∀ w, Below a.heap.size a w → Calls P f args w fun e w' => e = .returned v ∧ Below w.heap.size w w') :
    ∀ w, CellL a L w → Calls P f args w fun e w' => e = .returned v ∧ CellL a L w' := fun w hC => (h w (cellL_size hC)).mono fun _ _ ⟨h1, h2⟩ => ⟨h1, cellL_call h2 hC⟩
theorem makeS_cap {op : Int} {a b : List Kn} {k : Nat} (ha : ∀ r, (runsV a r).length ≤ k) (hb : ∀ r, (runsV b r).length ≤ k) (hk : k ≤ 4000) : CapS (makeS op a b) ∧ ∀ r, (runsV (makeS op a b) r).length ≤ 4 * k + 1 := by
  have h1 : ∀ r, (runsV (makeS op a b) r).length ≤ 4 * k + 1 := fun r => by
    by_cases hr : 1 ≤ r ∧ r ≤ 16
    · rw [makeS_runs hr.1 hr.2]
      have := makeC_len op (runsV a r) (runsV b r)
      have := ha r
      have := hb r
      omega
    · rw [rightS_out (makeS_right op a b) hr]; exact Nat.zero_le _
  exact ⟨⟨by have := colS_len (fun r => makeC op (runsV a r) (runsV b r)) 16; show (colS _ 16).length ≤ _; omega, fun r => by have := h1 r; omega⟩, h1⟩
set_option maxRecDepth 100000 in
set_option maxHeartbeats 8000000 in
theorem vsetSets_walk (HAD : SAddC 17) (HVE : SVecC 25) (HMO : SMostC 28) (HHA : SHasC 12)
    (HUN : SSetC 19 1) (HME : SSetC 20 2) (HLE : SSetC 21 3)
    (A B : Option Addr) (c d n m : Nat) (a b : List Kn) (v : Vr) (x y : Int) (hx : v.rep = x) (hy : v.cnt = y) (hn : n = a.length) (hm : m = b.length) (w : World) (ha : RdK w w.heap.size A c a) (hb : RdK w w.heap.size B d b) :
    Calls Try.prog 4 #[.slice A n c, .slice B m d, .agg #[.int .i64 x, .int .i64 y]] w fun e w' => e = .returned (.bool true) ∧ Below w.heap.size w w' := by
  obtain ⟨WB, hWB⟩ : ∃ WB, w.alloc (.cells #[.int .i64 x, .int .i64 y] 25) = WB := ⟨_, rfl⟩
  have A0 := fun w => Lib.hid (awake14 HAD HVE HMO HHA w)
  have HW := Lib.hid (show Below w.heap.size w WB from hWB ▸ below_new _ _)
  have HA := Lib.hid (ha.call HW.out)
  have HB := Lib.hid (hb.call HW.out)
  have HX := Lib.hid (show VBox WB w.heap.size x y from hWB ▸ vbox_new w x y)
  obtain ⟨g0, g1⟩ := HX.out
  obtain ⟨la, hla⟩ : ∃ z, longV 12 a = z := ⟨_, rfl⟩
  obtain ⟨lb, hlb⟩ : ∃ z, longV 12 b = z := ⟨_, rfl⟩
  have LA := fun w hr => Lib.hid (ref_vlong 12 12 rfl (by omega) A c n a hn la hla w hr)
  have LB := fun w hr => Lib.hid (ref_vlong 12 12 rfl (by omega) B d m b hm lb hlb w hr)
  cases la
  case true =>
    clear HAD HVE HMO HHA HUN HME HLE ha hb hn hm hx hy hla hlb LB
    go_enter Try.func4, Try.ntmps4
    go_wp2_with (first
      | ((with_reducible refine (A0 _).out.mono ?_); rintro e w9 ⟨rfl, hq⟩; (try replace HA := Lib.hid (HA.out.call hq)); (try replace HB := Lib.hid (HB.out.call hq)); replace HX := Lib.hid (HX.out.below hq); clear g0 g1; obtain ⟨g0, g1⟩ := HX.out; replace HW := Lib.hid (HW.out.trans (hq.mono HW.out.size)); clear hq)
      | ((with_reducible refine (LA _ HA.out).out.mono ?_); rintro e w9 ⟨rfl, hq⟩; (try replace HA := Lib.hid (HA.out.call hq)); (try replace HB := Lib.hid (HB.out.call hq)); replace HX := Lib.hid (HX.out.below hq); clear g0 g1; obtain ⟨g0, g1⟩ := HX.out; replace HW := Lib.hid (HW.out.trans (hq.mono HW.out.size)); clear hq))
    go_ret
    exact ⟨rfl, HW.out⟩
  case false =>
    cases lb
    case true =>
      clear HAD HVE HMO HHA HUN HME HLE ha hb hn hm hx hy hla hlb
      go_enter Try.func4, Try.ntmps4
      go_wp2_with (first
        | ((with_reducible refine (A0 _).out.mono ?_); rintro e w9 ⟨rfl, hq⟩; (try replace HA := Lib.hid (HA.out.call hq)); (try replace HB := Lib.hid (HB.out.call hq)); replace HX := Lib.hid (HX.out.below hq); clear g0 g1; obtain ⟨g0, g1⟩ := HX.out; replace HW := Lib.hid (HW.out.trans (hq.mono HW.out.size)); clear hq)
        | ((with_reducible refine (LA _ HA.out).out.mono ?_); rintro e w9 ⟨rfl, hq⟩; (try replace HA := Lib.hid (HA.out.call hq)); (try replace HB := Lib.hid (HB.out.call hq)); replace HX := Lib.hid (HX.out.below hq); clear g0 g1; obtain ⟨g0, g1⟩ := HX.out; replace HW := Lib.hid (HW.out.trans (hq.mono HW.out.size)); clear hq)
        | ((with_reducible refine (LB _ HB.out).out.mono ?_); rintro e w9 ⟨rfl, hq⟩; (try replace HA := Lib.hid (HA.out.call hq)); (try replace HB := Lib.hid (HB.out.call hq)); replace HX := Lib.hid (HX.out.below hq); clear g0 g1; obtain ⟨g0, g1⟩ := HX.out; replace HW := Lib.hid (HW.out.trans (hq.mono HW.out.size)); clear hq))
      go_ret
      exact ⟨rfl, HW.out⟩
    case false =>
      have ca := capS_of (longV_size hla) (by omega)
      have cb := capS_of (longV_size hlb) (by omega)
      have ra : ∀ r, (runsV a r).length ≤ 144 := fun r => by
        have h1 := runsV_len r (longV_size hla).2
        have h2 := (longV_size hla).1
        have h3 : 12 * a.length ≤ 12 * 12 := Nat.mul_le_mul_left 12 h2
        omega
      have rb : ∀ r, (runsV b r).length ≤ 144 := fun r => by
        have h1 := runsV_len r (longV_size hlb).2
        have h2 := (longV_size hlb).1
        have h3 : 12 * b.length ≤ 12 * 12 := Nat.mul_le_mul_left 12 h2
        omega
      obtain ⟨U, hU⟩ : ∃ U, makeS 1 a b = U := ⟨_, rfl⟩
      obtain ⟨NU, hNU⟩ : ∃ N, U.length = N := ⟨_, rfl⟩
      have rU : ∀ r, (runsV U r).length ≤ 1000 := fun r => by have := (makeS_cap (op := 1) ra rb (by omega)).2 r; rw [hU] at this; omega
      obtain ⟨M, hM⟩ : ∃ U, makeS 2 a b = U := ⟨_, rfl⟩
      obtain ⟨NM, hNM⟩ : ∃ N, M.length = N := ⟨_, rfl⟩
      have rM : ∀ r, (runsV M r).length ≤ 1000 := fun r => by have := (makeS_cap (op := 2) ra rb (by omega)).2 r; rw [hM] at this; omega
      obtain ⟨D, hD⟩ : ∃ U, makeS 3 a b = U := ⟨_, rfl⟩
      obtain ⟨ND, hND⟩ : ∃ N, D.length = N := ⟨_, rfl⟩
      have rD : ∀ r, (runsV D r).length ≤ 1000 := fun r => by have := (makeS_cap (op := 3) ra rb (by omega)).2 r; rw [hD] at this; omega
      have UN := fun w ha hb => Lib.hid (HUN A B c d n m a b hn hm ca cb U hU NU hNU w ha hb)
      have ME := fun w ha hb => Lib.hid (HME A B c d n m a b hn hm ca cb M hM NM hNM w ha hb)
      have LE := fun w ha hb => Lib.hid (HLE A B c d n m a b hn hm ca cb D hD ND hND w ha hb)
      have K1 := fun w ha hb => Lib.hid (ref_vmake 1 A B c d n m a b hn hm ca.2 cb.2 U hU NU hNU w ha hb)
      have S1 := fun A B c d w ha hb => Lib.hid (vsame_is A B c d NU NU U hNU.symm hNU.symm w ha hb)
      have K2 := fun w ha hb => Lib.hid (ref_vmake 2 A B c d n m a b hn hm ca.2 cb.2 M hM NM hNM w ha hb)
      have S2 := fun A B c d w ha hb => Lib.hid (vsame_is A B c d NM NM M hNM.symm hNM.symm w ha hb)
      have K3 := fun w ha hb => Lib.hid (ref_vmake 3 A B c d n m a b hn hm ca.2 cb.2 D hD ND hND w ha hb)
      have S3 := fun A B c d w ha hb => Lib.hid (vsame_is A B c d ND ND D hND.symm hND.symm w ha hb)
      obtain ⟨p, hp⟩ : ∃ p, hasS a v = p := ⟨_, rfl⟩
      obtain ⟨q, hq0⟩ : ∃ q, hasS b v = q := ⟨_, rfl⟩
      have X1 := fun w hr => Lib.hid (ref_vhas A c n a v x y hx hy hn (by have := ra x; omega) p hp w hr)
      have X2 := fun w hr => Lib.hid (ref_vhas B d m b v x y hx hy hm (by have := rb x; omega) q hq0 w hr)
      have hp' := hp
      have hq' := hq0
      rw [hasS_hasK] at hp' hq'
      have X3 := fun A c w hr => Lib.hid (ref_vhas A c NU U v x y hx hy hNU.symm (by have := rU x; omega) (p || q) (by rw [hasS_hasK, ← hU, makeS_has, hp', hq', gC1]) w hr)
      have X4 := fun A c w hr => Lib.hid (ref_vhas A c NM M v x y hx hy hNM.symm (by have := rM x; omega) (p && q) (by rw [hasS_hasK, ← hM, makeS_has, hp', hq', gC2]) w hr)
      have X5 := fun A c w hr => Lib.hid (ref_vhas A c ND D v x y hx hy hND.symm (by have := rD x; omega) (p && !q) (by rw [hasS_hasK, ← hD, makeS_has, hp', hq', gC3]) w hr)
      clear HAD HVE HMO HHA HUN HME HLE ha hb hn hm hx hy hla hlb ca cb ra rb rU rM rD hU hM hD hNU hNM hND hp hq0 hp' hq'
      go_enter Try.func4, Try.ntmps4
      go_upto_region 8 with (first
        | ((with_reducible refine (A0 _).out.mono ?_); rintro e w9 ⟨rfl, hq⟩; (try replace HA := Lib.hid (HA.out.call hq)); (try replace HB := Lib.hid (HB.out.call hq)); (try replace HU := Lib.hid (HU.out.call hq)); (try replace HM := Lib.hid (HM.out.call hq)); (try replace HD := Lib.hid (HD.out.call hq)); (try replace HQ := Lib.hid (HQ.out.call hq)); replace HX := Lib.hid (HX.out.below hq); clear g0 g1; obtain ⟨g0, g1⟩ := HX.out; replace HW := Lib.hid (HW.out.trans (hq.mono HW.out.size)); clear hq)
        | ((with_reducible refine (LA _ HA.out).out.mono ?_); rintro e w9 ⟨rfl, hq⟩; (try replace HA := Lib.hid (HA.out.call hq)); (try replace HB := Lib.hid (HB.out.call hq)); (try replace HU := Lib.hid (HU.out.call hq)); (try replace HM := Lib.hid (HM.out.call hq)); (try replace HD := Lib.hid (HD.out.call hq)); (try replace HQ := Lib.hid (HQ.out.call hq)); replace HX := Lib.hid (HX.out.below hq); clear g0 g1; obtain ⟨g0, g1⟩ := HX.out; replace HW := Lib.hid (HW.out.trans (hq.mono HW.out.size)); clear hq)
        | ((with_reducible refine (LB _ HB.out).out.mono ?_); rintro e w9 ⟨rfl, hq⟩; (try replace HA := Lib.hid (HA.out.call hq)); (try replace HB := Lib.hid (HB.out.call hq)); (try replace HU := Lib.hid (HU.out.call hq)); (try replace HM := Lib.hid (HM.out.call hq)); (try replace HD := Lib.hid (HD.out.call hq)); (try replace HQ := Lib.hid (HQ.out.call hq)); replace HX := Lib.hid (HX.out.below hq); clear g0 g1; obtain ⟨g0, g1⟩ := HX.out; replace HW := Lib.hid (HW.out.trans (hq.mono HW.out.size)); clear hq)
        | ((with_reducible refine (UN _ HA.out HB.out).out.mono ?_); rintro e w9 ⟨AU, cU, rfl, hrd, hq⟩; (try replace HA := Lib.hid (HA.out.call hq)); (try replace HB := Lib.hid (HB.out.call hq)); (try replace HM := Lib.hid (HM.out.call hq)); (try replace HD := Lib.hid (HD.out.call hq)); (try replace HQ := Lib.hid (HQ.out.call hq)); replace HX := Lib.hid (HX.out.below hq); clear g0 g1; obtain ⟨g0, g1⟩ := HX.out; replace HW := Lib.hid (HW.out.trans (hq.mono HW.out.size)); have HU := Lib.hid hrd; clear hrd hq)
        | ((with_reducible refine (ME _ HA.out HB.out).out.mono ?_); rintro e w9 ⟨AM, cM, rfl, hrd, hq⟩; (try replace HA := Lib.hid (HA.out.call hq)); (try replace HB := Lib.hid (HB.out.call hq)); (try replace HU := Lib.hid (HU.out.call hq)); (try replace HD := Lib.hid (HD.out.call hq)); (try replace HQ := Lib.hid (HQ.out.call hq)); replace HX := Lib.hid (HX.out.below hq); clear g0 g1; obtain ⟨g0, g1⟩ := HX.out; replace HW := Lib.hid (HW.out.trans (hq.mono HW.out.size)); have HM := Lib.hid hrd; clear hrd hq)
        | ((with_reducible refine (LE _ HA.out HB.out).out.mono ?_); rintro e w9 ⟨AD, cD, rfl, hrd, hq⟩; (try replace HA := Lib.hid (HA.out.call hq)); (try replace HB := Lib.hid (HB.out.call hq)); (try replace HU := Lib.hid (HU.out.call hq)); (try replace HM := Lib.hid (HM.out.call hq)); (try replace HQ := Lib.hid (HQ.out.call hq)); replace HX := Lib.hid (HX.out.below hq); clear g0 g1; obtain ⟨g0, g1⟩ := HX.out; replace HW := Lib.hid (HW.out.trans (hq.mono HW.out.size)); have HD := Lib.hid hrd; clear hrd hq)
        | ((with_reducible refine (K1 _ HA.out HB.out).out.mono ?_); rintro e w9 ⟨AQ, cQ, rfl, hrd, hq⟩; (try clear HQ); (try replace HA := Lib.hid (HA.out.call hq)); (try replace HB := Lib.hid (HB.out.call hq)); (try replace HU := Lib.hid (HU.out.call hq)); (try replace HM := Lib.hid (HM.out.call hq)); (try replace HD := Lib.hid (HD.out.call hq)); replace HX := Lib.hid (HX.out.below hq); clear g0 g1; obtain ⟨g0, g1⟩ := HX.out; replace HW := Lib.hid (HW.out.trans (hq.mono HW.out.size)); have HQ := Lib.hid hrd; clear hrd hq)
        | ((with_reducible refine (S1 _ _ _ _ _ HU.out HQ.out).out.mono ?_); rintro e w9 ⟨rfl, hq⟩; (try replace HA := Lib.hid (HA.out.call hq)); (try replace HB := Lib.hid (HB.out.call hq)); (try replace HU := Lib.hid (HU.out.call hq)); (try replace HM := Lib.hid (HM.out.call hq)); (try replace HD := Lib.hid (HD.out.call hq)); (try replace HQ := Lib.hid (HQ.out.call hq)); replace HX := Lib.hid (HX.out.below hq); clear g0 g1; obtain ⟨g0, g1⟩ := HX.out; replace HW := Lib.hid (HW.out.trans (hq.mono HW.out.size)); clear hq)
        | ((with_reducible refine (K2 _ HA.out HB.out).out.mono ?_); rintro e w9 ⟨AQ, cQ, rfl, hrd, hq⟩; (try clear HQ); (try replace HA := Lib.hid (HA.out.call hq)); (try replace HB := Lib.hid (HB.out.call hq)); (try replace HU := Lib.hid (HU.out.call hq)); (try replace HM := Lib.hid (HM.out.call hq)); (try replace HD := Lib.hid (HD.out.call hq)); replace HX := Lib.hid (HX.out.below hq); clear g0 g1; obtain ⟨g0, g1⟩ := HX.out; replace HW := Lib.hid (HW.out.trans (hq.mono HW.out.size)); have HQ := Lib.hid hrd; clear hrd hq)
        | ((with_reducible refine (S2 _ _ _ _ _ HM.out HQ.out).out.mono ?_); rintro e w9 ⟨rfl, hq⟩; (try replace HA := Lib.hid (HA.out.call hq)); (try replace HB := Lib.hid (HB.out.call hq)); (try replace HU := Lib.hid (HU.out.call hq)); (try replace HM := Lib.hid (HM.out.call hq)); (try replace HD := Lib.hid (HD.out.call hq)); (try replace HQ := Lib.hid (HQ.out.call hq)); replace HX := Lib.hid (HX.out.below hq); clear g0 g1; obtain ⟨g0, g1⟩ := HX.out; replace HW := Lib.hid (HW.out.trans (hq.mono HW.out.size)); clear hq)
        | ((with_reducible refine (K3 _ HA.out HB.out).out.mono ?_); rintro e w9 ⟨AQ, cQ, rfl, hrd, hq⟩; (try clear HQ); (try replace HA := Lib.hid (HA.out.call hq)); (try replace HB := Lib.hid (HB.out.call hq)); (try replace HU := Lib.hid (HU.out.call hq)); (try replace HM := Lib.hid (HM.out.call hq)); (try replace HD := Lib.hid (HD.out.call hq)); replace HX := Lib.hid (HX.out.below hq); clear g0 g1; obtain ⟨g0, g1⟩ := HX.out; replace HW := Lib.hid (HW.out.trans (hq.mono HW.out.size)); have HQ := Lib.hid hrd; clear hrd hq)
        | ((with_reducible refine (S3 _ _ _ _ _ HD.out HQ.out).out.mono ?_); rintro e w9 ⟨rfl, hq⟩; (try replace HA := Lib.hid (HA.out.call hq)); (try replace HB := Lib.hid (HB.out.call hq)); (try replace HU := Lib.hid (HU.out.call hq)); (try replace HM := Lib.hid (HM.out.call hq)); (try replace HD := Lib.hid (HD.out.call hq)); (try replace HQ := Lib.hid (HQ.out.call hq)); replace HX := Lib.hid (HX.out.below hq); clear g0 g1; obtain ⟨g0, g1⟩ := HX.out; replace HW := Lib.hid (HW.out.trans (hq.mono HW.out.size)); clear hq))
      clear A0 LA LB UN ME LE K1 K2 K3 S1 S2 S3 HQ hWB
      have Y1 := Lib.hid (fun L => cellL_with (a := w9) (L := L) (fun W h => (X1 W (HA.out.call h)).out))
      have Y2 := Lib.hid (fun L => cellL_with (a := w9) (L := L) (fun W h => (X2 W (HB.out.call h)).out))
      have HC := Lib.hid (show CellL w9 [(⟨w.heap.size, 0, none⟩, .int .i64 x), (⟨w.heap.size, 1, none⟩, .int .i64 y)] w9 from ⟨g0, g1, Below.refl _ _⟩)
      clear X1 X2 g0 g1
      refine q_region (CellL w9 [(⟨w.heap.size, 0, none⟩, .int .i64 x), (⟨w.heap.size, 1, none⟩, .int .i64 y)]) (by kernel_rfl) (by kernel_rfl) (cellL_drew HC.out) ?_
      repeat (first
        | go_big_quiet_skip
        | (go_big_quiet_want; (first
          | (refine q_take (v := ?_) ?_ ?_; rotate_left; (focus (intro w hSw; (try simp only [CellL] at hSw); go_split_ands; go_simp; (try (rw [if_neg (by omega)])); (try with_reducible rfl); done)))
          | (refine q_call (Y1.out _) ?_ ?_; (focus (intro w hSw; (try simp only [CellL] at hSw); go_split_ands; go_simp; (try (rw [if_neg (by omega)])); done)))
          | (refine q_call (Y2.out _) ?_ ?_; (focus (intro w hSw; (try simp only [CellL] at hSw); go_split_ands; go_simp; (try (rw [if_neg (by omega)])); done)))); (try simp only [Act.put, List.setIfInBounds_toArray, List.set_cons_zero, List.set_cons_succ]); go_big_quiet_on))
      refine wpQuiet_nil ?_
      intro w8 hw8
      have hq := cellL_size hw8
      have g0 := hw8.1
      have g1 := hw8.2.1
      clear hw8 Y1 Y2 HC
      (try replace HA := Lib.hid (HA.out.call hq))
      (try replace HB := Lib.hid (HB.out.call hq))
      (try replace HU := Lib.hid (HU.out.call hq))
      (try replace HM := Lib.hid (HM.out.call hq))
      (try replace HD := Lib.hid (HD.out.call hq))
      (try replace HQ := Lib.hid (HQ.out.call hq))
      replace HX := Lib.hid (HX.out.below hq)
      clear g0 g1
      obtain ⟨g0, g1⟩ := HX.out
      replace HW := Lib.hid (HW.out.trans (hq.mono HW.out.size))
      clear hq
      cases p <;> cases q
      all_goals
        go_wp2_with (first
          | ((with_reducible refine (X3 _ _ _ HU.out).out.mono ?_); rintro e w9 ⟨rfl, hq⟩; (try replace HA := Lib.hid (HA.out.call hq)); (try replace HB := Lib.hid (HB.out.call hq)); (try replace HU := Lib.hid (HU.out.call hq)); (try replace HM := Lib.hid (HM.out.call hq)); (try replace HD := Lib.hid (HD.out.call hq)); (try replace HQ := Lib.hid (HQ.out.call hq)); replace HX := Lib.hid (HX.out.below hq); clear g0 g1; obtain ⟨g0, g1⟩ := HX.out; replace HW := Lib.hid (HW.out.trans (hq.mono HW.out.size)); clear hq)
          | ((with_reducible refine (X4 _ _ _ HM.out).out.mono ?_); rintro e w9 ⟨rfl, hq⟩; (try replace HA := Lib.hid (HA.out.call hq)); (try replace HB := Lib.hid (HB.out.call hq)); (try replace HU := Lib.hid (HU.out.call hq)); (try replace HM := Lib.hid (HM.out.call hq)); (try replace HD := Lib.hid (HD.out.call hq)); (try replace HQ := Lib.hid (HQ.out.call hq)); replace HX := Lib.hid (HX.out.below hq); clear g0 g1; obtain ⟨g0, g1⟩ := HX.out; replace HW := Lib.hid (HW.out.trans (hq.mono HW.out.size)); clear hq)
          | ((with_reducible refine (X5 _ _ _ HD.out).out.mono ?_); rintro e w9 ⟨rfl, hq⟩; (try replace HA := Lib.hid (HA.out.call hq)); (try replace HB := Lib.hid (HB.out.call hq)); (try replace HU := Lib.hid (HU.out.call hq)); (try replace HM := Lib.hid (HM.out.call hq)); (try replace HD := Lib.hid (HD.out.call hq)); (try replace HQ := Lib.hid (HQ.out.call hq)); replace HX := Lib.hid (HX.out.below hq); clear g0 g1; obtain ⟨g0, g1⟩ := HX.out; replace HW := Lib.hid (HW.out.trans (hq.mono HW.out.size)); clear hq))
        go_ret
        exact ⟨rfl, HW.out⟩
end Go.Proofs.Ytdlloobdmfoalaa

/-
  The laws of layer 14: VsetSame.
-/
namespace Go.Proofs.Ytdlloobdmfoalaa
open Go.RowKit

set_option maxRecDepth 100000 in
set_option maxHeartbeats 8000000 in
theorem vsetSame_walk (HAD : SAddC 17) (HVE : SVecC 25) (HMO : SMostC 28) (HHA : SHasC 12)
    (HSM : SBoolC 23 sameQ) (HWI : SBoolC 24 withinQ)
    (A B : Option Addr) (c d n m : Nat) (a b : List Kn) (hn : n = a.length) (hm : m = b.length) (w : World) (ha : RdK w w.heap.size A c a) (hb : RdK w w.heap.size B d b) :
    Calls Try.prog 5 #[.slice A n c, .slice B m d] w fun e w' => e = .returned (.bool true) ∧ Below w.heap.size w w' := by
  have A0 := fun w => Lib.hid (awake14 HAD HVE HMO HHA w)
  have HW := Lib.hid (Below.refl w.heap.size w)
  have HA := Lib.hid ha
  have HB := Lib.hid hb
  obtain ⟨la, hla⟩ : ∃ z, longV 12 a = z := ⟨_, rfl⟩
  obtain ⟨lb, hlb⟩ : ∃ z, longV 12 b = z := ⟨_, rfl⟩
  have LA := fun w hr => Lib.hid (ref_vlong 12 12 rfl (by omega) A c n a hn la hla w hr)
  have LB := fun w hr => Lib.hid (ref_vlong 12 12 rfl (by omega) B d m b hm lb hlb w hr)
  cases la
  case true =>
    clear HAD HVE HMO HHA HSM HWI ha hb hn hm hla hlb LB
    go_enter Try.func5, Try.ntmps5
    go_wp2_with (first
      | ((with_reducible refine (A0 _).out.mono ?_); rintro e w9 ⟨rfl, hq⟩; (try replace HA := Lib.hid (HA.out.call hq)); (try replace HB := Lib.hid (HB.out.call hq)); replace HW := Lib.hid (HW.out.trans (hq.mono HW.out.size)); clear hq)
      | ((with_reducible refine (LA _ HA.out).out.mono ?_); rintro e w9 ⟨rfl, hq⟩; (try replace HA := Lib.hid (HA.out.call hq)); (try replace HB := Lib.hid (HB.out.call hq)); replace HW := Lib.hid (HW.out.trans (hq.mono HW.out.size)); clear hq))
    go_ret
    exact ⟨rfl, HW.out⟩
  case false =>
    cases lb
    case true =>
      clear HAD HVE HMO HHA HSM HWI ha hb hn hm hla hlb
      go_enter Try.func5, Try.ntmps5
      go_wp2_with (first
        | ((with_reducible refine (A0 _).out.mono ?_); rintro e w9 ⟨rfl, hq⟩; (try replace HA := Lib.hid (HA.out.call hq)); (try replace HB := Lib.hid (HB.out.call hq)); replace HW := Lib.hid (HW.out.trans (hq.mono HW.out.size)); clear hq)
        | ((with_reducible refine (LA _ HA.out).out.mono ?_); rintro e w9 ⟨rfl, hq⟩; (try replace HA := Lib.hid (HA.out.call hq)); (try replace HB := Lib.hid (HB.out.call hq)); replace HW := Lib.hid (HW.out.trans (hq.mono HW.out.size)); clear hq)
        | ((with_reducible refine (LB _ HB.out).out.mono ?_); rintro e w9 ⟨rfl, hq⟩; (try replace HA := Lib.hid (HA.out.call hq)); (try replace HB := Lib.hid (HB.out.call hq)); replace HW := Lib.hid (HW.out.trans (hq.mono HW.out.size)); clear hq))
      go_ret
      exact ⟨rfl, HW.out⟩
    case false =>
      have ca := capS_of (longV_size hla) (by omega)
      have cb := capS_of (longV_size hlb) (by omega)
      obtain ⟨p, hp⟩ : ∃ p, sameS (ofS a) (ofS b) = p := ⟨_, rfl⟩
      obtain ⟨U, hU⟩ : ∃ U, makeS 3 a b = U := ⟨_, rfl⟩
      obtain ⟨N, hN⟩ : ∃ N, U.length = N := ⟨_, rfl⟩
      obtain ⟨q, hq0⟩ : ∃ q, decide (N = 0) = q := ⟨_, rfl⟩
      obtain ⟨r, hr0⟩ : ∃ r, decide ((makeS 3 b a).length = 0) = r := ⟨_, rfl⟩
      have hq1 : q = true ↔ makeS 3 a b = [] := by rw [← hq0, decide_eq_true_eq, ← hN, ← hU, List.length_eq_zero_iff]
      have hr1 : r = true ↔ makeS 3 b a = [] := by rw [← hr0, decide_eq_true_eq, List.length_eq_zero_iff]
      have hp1 : p = true ↔ ofS a = ofS b := by rw [← hp, sameS_iff]
      have hpq : p = (q && r) := by rw [Bool.eq_iff_iff, Bool.and_eq_true, hp1, hq1, hr1]; exact same_within
      have SM := fun w ha hb => Lib.hid (HSM A B c d n m a b hn hm ca cb p hp1 w ha hb)
      have W1 := fun w ha hb => Lib.hid (HWI A B c d n m a b hn hm ca cb q hq1 w ha hb)
      have W2 := fun w ha hb => Lib.hid (HWI B A d c m n b a hm hn cb ca r hr1 w ha hb)
      have K3 := fun w ha hb => Lib.hid (ref_vmake 3 A B c d n m a b hn hm ca.2 cb.2 U hU N hN w ha hb)
      obtain ⟨OA, hOA⟩ : ∃ U, ofS a = U := ⟨_, rfl⟩
      obtain ⟨OB, hOB⟩ : ∃ U, ofS b = U := ⟨_, rfl⟩
      obtain ⟨NA, hNA⟩ : ∃ N, OA.length = N := ⟨_, rfl⟩
      obtain ⟨NB, hNB⟩ : ∃ N, OB.length = N := ⟨_, rfl⟩
      have O1 := fun w h => Lib.hid (ref_vof A c n a hn ca.2 OA hOA NA hNA w h)
      have O2 := fun w h => Lib.hid (ref_vof B d m b hm cb.2 OB hOB NB hNB w h)
      have S1 := fun A B c d w ha hb => Lib.hid (ref_vsame A B c d NA NB OA OB hNA.symm hNB.symm p (by rw [← hOA, ← hOB]; exact hp) w ha hb)
      have n0 : ((N : Int) == 0) = q := by rw [← hq0, Bool.eq_iff_iff, beq_iff_eq, decide_eq_true_eq]; omega
      have n1 : decide (N = 0) = q := hq0
      clear HAD HVE HMO HHA HSM HWI ha hb hn hm hla hlb ca cb hp hU hN hq0 hr0 hq1 hr1 hp1 hOA hOB hNA hNB
      subst hpq
      cases q <;> cases r
      all_goals
        go_enter Try.func5, Try.ntmps5
        go_wp2_with (first
          | ((with_reducible refine (A0 _).out.mono ?_); rintro e w9 ⟨rfl, hq⟩; (try replace HA := Lib.hid (HA.out.call hq)); (try replace HB := Lib.hid (HB.out.call hq)); (try replace HP := Lib.hid (HP.out.call hq)); (try replace HQ := Lib.hid (HQ.out.call hq)); (try replace HK := Lib.hid (HK.out.call hq)); replace HW := Lib.hid (HW.out.trans (hq.mono HW.out.size)); clear hq)
          | ((with_reducible refine (LA _ HA.out).out.mono ?_); rintro e w9 ⟨rfl, hq⟩; (try replace HA := Lib.hid (HA.out.call hq)); (try replace HB := Lib.hid (HB.out.call hq)); (try replace HP := Lib.hid (HP.out.call hq)); (try replace HQ := Lib.hid (HQ.out.call hq)); (try replace HK := Lib.hid (HK.out.call hq)); replace HW := Lib.hid (HW.out.trans (hq.mono HW.out.size)); clear hq)
          | ((with_reducible refine (LB _ HB.out).out.mono ?_); rintro e w9 ⟨rfl, hq⟩; (try replace HA := Lib.hid (HA.out.call hq)); (try replace HB := Lib.hid (HB.out.call hq)); (try replace HP := Lib.hid (HP.out.call hq)); (try replace HQ := Lib.hid (HQ.out.call hq)); (try replace HK := Lib.hid (HK.out.call hq)); replace HW := Lib.hid (HW.out.trans (hq.mono HW.out.size)); clear hq)
          | ((with_reducible refine (SM _ HA.out HB.out).out.mono ?_); rintro e w9 ⟨rfl, hq⟩; (try replace HA := Lib.hid (HA.out.call hq)); (try replace HB := Lib.hid (HB.out.call hq)); (try replace HP := Lib.hid (HP.out.call hq)); (try replace HQ := Lib.hid (HQ.out.call hq)); (try replace HK := Lib.hid (HK.out.call hq)); replace HW := Lib.hid (HW.out.trans (hq.mono HW.out.size)); clear hq)
          | ((with_reducible refine (W1 _ HA.out HB.out).out.mono ?_); rintro e w9 ⟨rfl, hq⟩; (try replace HA := Lib.hid (HA.out.call hq)); (try replace HB := Lib.hid (HB.out.call hq)); (try replace HP := Lib.hid (HP.out.call hq)); (try replace HQ := Lib.hid (HQ.out.call hq)); (try replace HK := Lib.hid (HK.out.call hq)); replace HW := Lib.hid (HW.out.trans (hq.mono HW.out.size)); clear hq)
          | ((with_reducible refine (W2 _ HB.out HA.out).out.mono ?_); rintro e w9 ⟨rfl, hq⟩; (try replace HA := Lib.hid (HA.out.call hq)); (try replace HB := Lib.hid (HB.out.call hq)); (try replace HP := Lib.hid (HP.out.call hq)); (try replace HQ := Lib.hid (HQ.out.call hq)); (try replace HK := Lib.hid (HK.out.call hq)); replace HW := Lib.hid (HW.out.trans (hq.mono HW.out.size)); clear hq)
          | ((with_reducible refine (K3 _ HA.out HB.out).out.mono ?_); rintro e w9 ⟨AK, cK, rfl, hrd, hq⟩; (try clear HK); (try replace HA := Lib.hid (HA.out.call hq)); (try replace HB := Lib.hid (HB.out.call hq)); (try replace HP := Lib.hid (HP.out.call hq)); (try replace HQ := Lib.hid (HQ.out.call hq)); replace HW := Lib.hid (HW.out.trans (hq.mono HW.out.size)); have HK := Lib.hid hrd; clear hrd hq)
          | ((with_reducible refine (O1 _ HA.out).out.mono ?_); rintro e w9 ⟨AP, cP, rfl, hrd, hq⟩; (try clear HP); (try replace HA := Lib.hid (HA.out.call hq)); (try replace HB := Lib.hid (HB.out.call hq)); (try replace HQ := Lib.hid (HQ.out.call hq)); (try replace HK := Lib.hid (HK.out.call hq)); replace HW := Lib.hid (HW.out.trans (hq.mono HW.out.size)); have HP := Lib.hid hrd; clear hrd hq)
          | ((with_reducible refine (O2 _ HB.out).out.mono ?_); rintro e w9 ⟨AQ, cQ, rfl, hrd, hq⟩; (try clear HQ); (try replace HA := Lib.hid (HA.out.call hq)); (try replace HB := Lib.hid (HB.out.call hq)); (try replace HP := Lib.hid (HP.out.call hq)); (try replace HK := Lib.hid (HK.out.call hq)); replace HW := Lib.hid (HW.out.trans (hq.mono HW.out.size)); have HQ := Lib.hid hrd; clear hrd hq)
          | ((with_reducible refine (S1 _ _ _ _ _ HP.out HQ.out).out.mono ?_); rintro e w9 ⟨rfl, hq⟩; (try replace HA := Lib.hid (HA.out.call hq)); (try replace HB := Lib.hid (HB.out.call hq)); (try replace HP := Lib.hid (HP.out.call hq)); (try replace HQ := Lib.hid (HQ.out.call hq)); (try replace HK := Lib.hid (HK.out.call hq)); replace HW := Lib.hid (HW.out.trans (hq.mono HW.out.size)); clear hq))
        go_ret
        exact ⟨rfl, HW.out⟩
end Go.Proofs.Ytdlloobdmfoalaa

/-
  The laws of layer 14: VsetOf.
-/
namespace Go.Proofs.Ytdlloobdmfoalaa
open Go.RowKit

set_option maxRecDepth 100000 in
set_option maxHeartbeats 8000000 in
theorem vsetOf_walk (HAD : SAddC 17) (HVE : SVecC 25) (HMO : SMostC 28) (HHA : SHasC 12)
    (HRI : SRightC 10) (HOF : SOfC 15)
    (A B : Option Addr) (c d n m : Nat) (s : List Kn) (l : List Vr) (v : Vr) (x y : Int) (hx : v.rep = x) (hy : v.cnt = y) (hn : n = s.length) (hm : m = l.length) (w : World) (ha : RdK w w.heap.size A c s) (hb : kVr.Rd w w.heap.size B d l) :
    Calls Try.prog 3 #[.slice A n c, .slice B m d, .agg #[.int .i64 x, .int .i64 y]] w fun e w' => e = .returned (.bool true) ∧ Below w.heap.size w w' := by
  obtain ⟨WB, hWB⟩ : ∃ WB, w.alloc (.cells #[.int .i64 x, .int .i64 y] 25) = WB := ⟨_, rfl⟩
  have A0 := fun w => Lib.hid (awake14 HAD HVE HMO HHA w)
  have HW := Lib.hid (show Below w.heap.size w WB from hWB ▸ below_new _ _)
  have HS := Lib.hid (ha.call HW.out)
  have HL := Lib.hid (hb.call HW.out)
  have HX := Lib.hid (show VBox WB w.heap.size x y from hWB ▸ vbox_new w x y)
  obtain ⟨g0, g1⟩ := HX.out
  obtain ⟨la, hla⟩ : ∃ z, longV 16 s = z := ⟨_, rfl⟩
  have LA := fun w hr => Lib.hid (ref_vlong 16 16 rfl (by omega) A c n s hn la hla w hr)
  have hmx := rd_maxC hb hm
  cases la
  case true =>
    clear HAD HVE HMO HHA HRI HOF ha hb hn hm hx hy hla
    go_enter Try.func3, Try.ntmps3
    go_wp2_with (first
      | ((with_reducible refine (A0 _).out.mono ?_); rintro e w9 ⟨rfl, hq⟩; (try replace HS := Lib.hid (HS.out.call hq)); (try replace HL := Lib.hid (HL.out.call hq)); (try replace HO := Lib.hid (HO.out.call hq)); (try replace HP := Lib.hid (HP.out.call hq)); (try replace HU := Lib.hid (HU.out.call hq)); (try replace HQ := Lib.hid (HQ.out.call hq)); replace HX := Lib.hid (HX.out.below hq); clear g0 g1; obtain ⟨g0, g1⟩ := HX.out; replace HW := Lib.hid (HW.out.trans (hq.mono HW.out.size)); clear hq)
      | ((with_reducible refine (LA _ HS.out).out.mono ?_); rintro e w9 ⟨rfl, hq⟩; (try replace HS := Lib.hid (HS.out.call hq)); (try replace HL := Lib.hid (HL.out.call hq)); (try replace HO := Lib.hid (HO.out.call hq)); (try replace HP := Lib.hid (HP.out.call hq)); (try replace HU := Lib.hid (HU.out.call hq)); (try replace HQ := Lib.hid (HQ.out.call hq)); replace HX := Lib.hid (HX.out.below hq); clear g0 g1; obtain ⟨g0, g1⟩ := HX.out; replace HW := Lib.hid (HW.out.trans (hq.mono HW.out.size)); clear hq))
    go_ret
    exact ⟨rfl, HW.out⟩
  case false =>
    by_cases h16 : m ≤ 16
    case neg =>
      have hmd : decide ((16 : Int) < (m : Int)) = true := decide_eq_true (by omega)
      have hmd2 : decide (16 < m) = true := decide_eq_true (by omega)
      clear HAD HVE HMO HHA HRI HOF ha hb hn hm hx hy hla
      go_enter Try.func3, Try.ntmps3
      go_wp2_with (first
        | ((with_reducible refine (A0 _).out.mono ?_); rintro e w9 ⟨rfl, hq⟩; (try replace HS := Lib.hid (HS.out.call hq)); (try replace HL := Lib.hid (HL.out.call hq)); (try replace HO := Lib.hid (HO.out.call hq)); (try replace HP := Lib.hid (HP.out.call hq)); (try replace HU := Lib.hid (HU.out.call hq)); (try replace HQ := Lib.hid (HQ.out.call hq)); replace HX := Lib.hid (HX.out.below hq); clear g0 g1; obtain ⟨g0, g1⟩ := HX.out; replace HW := Lib.hid (HW.out.trans (hq.mono HW.out.size)); clear hq)
        | ((with_reducible refine (LA _ HS.out).out.mono ?_); rintro e w9 ⟨rfl, hq⟩; (try replace HS := Lib.hid (HS.out.call hq)); (try replace HL := Lib.hid (HL.out.call hq)); (try replace HO := Lib.hid (HO.out.call hq)); (try replace HP := Lib.hid (HP.out.call hq)); (try replace HU := Lib.hid (HU.out.call hq)); (try replace HQ := Lib.hid (HQ.out.call hq)); replace HX := Lib.hid (HX.out.below hq); clear g0 g1; obtain ⟨g0, g1⟩ := HX.out; replace HW := Lib.hid (HW.out.trans (hq.mono HW.out.size)); clear hq))
      go_ret
      exact ⟨rfl, HW.out⟩
    case pos =>
      have hmd : decide ((16 : Int) < (m : Int)) = false := decide_eq_false (by omega)
      have hmd2 : decide (16 < m) = false := decide_eq_false (by omega)
      have cs := capS_of (longV_size hla) (by omega)
      have rs : ∀ r, (runsV s r).length ≤ 256 := fun r => by
        have h1 := runsV_len r (longV_size hla).2
        have h2 := (longV_size hla).1
        have h3 : 16 * s.length ≤ 16 * 16 := Nat.mul_le_mul_left 16 h2
        omega
      obtain ⟨p, hp⟩ : ∃ p, rightS s = p := ⟨_, rfl⟩
      obtain ⟨f, hf⟩ : ∃ f, hasS s v = f := ⟨_, rfl⟩
      obtain ⟨O, hO⟩ : ∃ U, ofS s = U := ⟨_, rfl⟩
      obtain ⟨NO, hNO⟩ : ∃ N, O.length = N := ⟨_, rfl⟩
      obtain ⟨U, hU⟩ : ∃ U, addsS s l = U := ⟨_, rfl⟩
      obtain ⟨NU, hNU⟩ : ∃ N, U.length = N := ⟨_, rfl⟩
      have R1 := fun w h => Lib.hid (HRI A c n s hn cs p hp w h)
      have R2 := fun w h => Lib.hid (ref_vsright A c n s hn p hp w h)
      have F1 := fun w h => Lib.hid (HHA A c n s v x y hx hy hn cs f hf w h)
      have F2 := fun w h => Lib.hid (ref_vhas A c n s v x y hx hy hn (by have := rs x; omega) f hf w h)
      have O1 := fun w h => Lib.hid (HOF A c n s hn cs O hO NO hNO w h)
      have O2 := fun w h => Lib.hid (ref_vof A c n s hn cs.2 O hO NO hNO w h)
      have S1 := fun A B c d w ha hb => Lib.hid (vsame_is A B c d NO NO O hNO.symm hNO.symm w ha hb)
      have U1 := fun w h g => Lib.hid (HAD A B c d n m s l hn hm (by omega) cs.1 (fun r => by have := rs r; omega) U hU NU hNU w h g)
      have U2 := fun w h g => Lib.hid (ref_vadd A B c d n m s l hn hm (by omega) (fun r => by have := rs r; omega) U hU NU hNU w h g)
      have S2 := fun A B c d w ha hb => Lib.hid (vsame_is A B c d NU NU U hNU.symm hNU.symm w ha hb)
      clear HAD HVE HMO HHA HRI HOF ha hb hn hm hx hy hla cs rs hp hf hO hNO hU hNU
      go_enter Try.func3, Try.ntmps3
      go_upto_region 5 with (first
        | ((with_reducible refine (A0 _).out.mono ?_); rintro e w9 ⟨rfl, hq⟩; (try replace HS := Lib.hid (HS.out.call hq)); (try replace HL := Lib.hid (HL.out.call hq)); (try replace HO := Lib.hid (HO.out.call hq)); (try replace HP := Lib.hid (HP.out.call hq)); (try replace HU := Lib.hid (HU.out.call hq)); (try replace HQ := Lib.hid (HQ.out.call hq)); replace HX := Lib.hid (HX.out.below hq); clear g0 g1; obtain ⟨g0, g1⟩ := HX.out; replace HW := Lib.hid (HW.out.trans (hq.mono HW.out.size)); clear hq)
        | ((with_reducible refine (LA _ HS.out).out.mono ?_); rintro e w9 ⟨rfl, hq⟩; (try replace HS := Lib.hid (HS.out.call hq)); (try replace HL := Lib.hid (HL.out.call hq)); (try replace HO := Lib.hid (HO.out.call hq)); (try replace HP := Lib.hid (HP.out.call hq)); (try replace HU := Lib.hid (HU.out.call hq)); (try replace HQ := Lib.hid (HQ.out.call hq)); replace HX := Lib.hid (HX.out.below hq); clear g0 g1; obtain ⟨g0, g1⟩ := HX.out; replace HW := Lib.hid (HW.out.trans (hq.mono HW.out.size)); clear hq))
      clear A0 LA hWB
      have hq : Below w9.heap.size w9 w9.drew := (Below.refl _ _).drew
      (try replace HS := Lib.hid (HS.out.call hq))
      (try replace HL := Lib.hid (HL.out.call hq))
      (try replace HO := Lib.hid (HO.out.call hq))
      (try replace HP := Lib.hid (HP.out.call hq))
      (try replace HU := Lib.hid (HU.out.call hq))
      (try replace HQ := Lib.hid (HQ.out.call hq))
      replace HX := Lib.hid (HX.out.below hq)
      clear g0 g1
      obtain ⟨g0, g1⟩ := HX.out
      replace HW := Lib.hid (HW.out.trans (hq.mono HW.out.size))
      clear hq
      go_region_held3 (fun w' => w'.cell? ⟨w.heap.size, 0, none⟩ = some (.int .i64 x) ∧ w'.cell? ⟨w.heap.size, 1, none⟩ = some (.int .i64 y)) (first | (exact ⟨by assumption, by assumption⟩) | go_keep)
        (first
          | (go_at_call 10; (with_reducible refine (R1 _ HS.out).out.mono ?_); rintro e w9 ⟨rfl, hq⟩; (try replace HS := Lib.hid (HS.out.call hq)); (try replace HL := Lib.hid (HL.out.call hq)); (try replace HO := Lib.hid (HO.out.call hq)); (try replace HP := Lib.hid (HP.out.call hq)); (try replace HU := Lib.hid (HU.out.call hq)); (try replace HQ := Lib.hid (HQ.out.call hq)); replace HX := Lib.hid (HX.out.below hq); clear g0 g1; obtain ⟨g0, g1⟩ := HX.out; replace HW := Lib.hid (HW.out.trans (hq.mono HW.out.size)); clear hq)
          | (go_at_call 11; (with_reducible refine (R2 _ HS.out).out.mono ?_); rintro e w9 ⟨rfl, hq⟩; (try replace HS := Lib.hid (HS.out.call hq)); (try replace HL := Lib.hid (HL.out.call hq)); (try replace HO := Lib.hid (HO.out.call hq)); (try replace HP := Lib.hid (HP.out.call hq)); (try replace HU := Lib.hid (HU.out.call hq)); (try replace HQ := Lib.hid (HQ.out.call hq)); replace HX := Lib.hid (HX.out.below hq); clear g0 g1; obtain ⟨g0, g1⟩ := HX.out; replace HW := Lib.hid (HW.out.trans (hq.mono HW.out.size)); clear hq)
          | (go_at_call 12; (with_reducible refine (F1 _ HS.out).out.mono ?_); rintro e w9 ⟨rfl, hq⟩; (try replace HS := Lib.hid (HS.out.call hq)); (try replace HL := Lib.hid (HL.out.call hq)); (try replace HO := Lib.hid (HO.out.call hq)); (try replace HP := Lib.hid (HP.out.call hq)); (try replace HU := Lib.hid (HU.out.call hq)); (try replace HQ := Lib.hid (HQ.out.call hq)); replace HX := Lib.hid (HX.out.below hq); clear g0 g1; obtain ⟨g0, g1⟩ := HX.out; replace HW := Lib.hid (HW.out.trans (hq.mono HW.out.size)); clear hq)
          | (go_at_call 13; (with_reducible refine (F2 _ HS.out).out.mono ?_); rintro e w9 ⟨rfl, hq⟩; (try replace HS := Lib.hid (HS.out.call hq)); (try replace HL := Lib.hid (HL.out.call hq)); (try replace HO := Lib.hid (HO.out.call hq)); (try replace HP := Lib.hid (HP.out.call hq)); (try replace HU := Lib.hid (HU.out.call hq)); (try replace HQ := Lib.hid (HQ.out.call hq)); replace HX := Lib.hid (HX.out.below hq); clear g0 g1; obtain ⟨g0, g1⟩ := HX.out; replace HW := Lib.hid (HW.out.trans (hq.mono HW.out.size)); clear hq)
          | (go_at_call 15; (with_reducible refine (O1 _ HS.out).out.mono ?_); rintro e w9 ⟨AO, cO, rfl, hrd, hq⟩; (try replace HS := Lib.hid (HS.out.call hq)); (try replace HL := Lib.hid (HL.out.call hq)); (try replace HP := Lib.hid (HP.out.call hq)); (try replace HU := Lib.hid (HU.out.call hq)); (try replace HQ := Lib.hid (HQ.out.call hq)); replace HX := Lib.hid (HX.out.below hq); clear g0 g1; obtain ⟨g0, g1⟩ := HX.out; replace HW := Lib.hid (HW.out.trans (hq.mono HW.out.size)); have HO := Lib.hid hrd; clear hrd hq)
          | (go_at_call 16; (with_reducible refine (O2 _ HS.out).out.mono ?_); rintro e w9 ⟨AP, cP, rfl, hrd, hq⟩; (try replace HS := Lib.hid (HS.out.call hq)); (try replace HL := Lib.hid (HL.out.call hq)); (try replace HO := Lib.hid (HO.out.call hq)); (try replace HU := Lib.hid (HU.out.call hq)); (try replace HQ := Lib.hid (HQ.out.call hq)); replace HX := Lib.hid (HX.out.below hq); clear g0 g1; obtain ⟨g0, g1⟩ := HX.out; replace HW := Lib.hid (HW.out.trans (hq.mono HW.out.size)); have HP := Lib.hid hrd; clear hrd hq)
          | (go_at_call 14; (with_reducible refine (S1 _ _ _ _ _ HO.out HP.out).out.mono ?_); rintro e w9 ⟨rfl, hq⟩; (try replace HS := Lib.hid (HS.out.call hq)); (try replace HL := Lib.hid (HL.out.call hq)); (try replace HO := Lib.hid (HO.out.call hq)); (try replace HP := Lib.hid (HP.out.call hq)); (try replace HU := Lib.hid (HU.out.call hq)); (try replace HQ := Lib.hid (HQ.out.call hq)); replace HX := Lib.hid (HX.out.below hq); clear g0 g1; obtain ⟨g0, g1⟩ := HX.out; replace HW := Lib.hid (HW.out.trans (hq.mono HW.out.size)); clear hq)
          | (go_at_call 17; (with_reducible refine (U1 _ HS.out HL.out).out.mono ?_); rintro e w9 ⟨AU, cU, rfl, hrd, hq⟩; (try replace HS := Lib.hid (HS.out.call hq)); (try replace HL := Lib.hid (HL.out.call hq)); (try replace HO := Lib.hid (HO.out.call hq)); (try replace HP := Lib.hid (HP.out.call hq)); (try replace HQ := Lib.hid (HQ.out.call hq)); replace HX := Lib.hid (HX.out.below hq); clear g0 g1; obtain ⟨g0, g1⟩ := HX.out; replace HW := Lib.hid (HW.out.trans (hq.mono HW.out.size)); have HU := Lib.hid hrd; clear hrd hq)
          | (go_at_call 18; (with_reducible refine (U2 _ HS.out HL.out).out.mono ?_); rintro e w9 ⟨AQ, cQ, rfl, hrd, hq⟩; (try replace HS := Lib.hid (HS.out.call hq)); (try replace HL := Lib.hid (HL.out.call hq)); (try replace HO := Lib.hid (HO.out.call hq)); (try replace HP := Lib.hid (HP.out.call hq)); (try replace HU := Lib.hid (HU.out.call hq)); replace HX := Lib.hid (HX.out.below hq); clear g0 g1; obtain ⟨g0, g1⟩ := HX.out; replace HW := Lib.hid (HW.out.trans (hq.mono HW.out.size)); have HQ := Lib.hid hrd; clear hrd hq)
          | (go_at_call 14; (with_reducible refine (S2 _ _ _ _ _ HU.out HQ.out).out.mono ?_); rintro e w9 ⟨rfl, hq⟩; (try replace HS := Lib.hid (HS.out.call hq)); (try replace HL := Lib.hid (HL.out.call hq)); (try replace HO := Lib.hid (HO.out.call hq)); (try replace HP := Lib.hid (HP.out.call hq)); (try replace HU := Lib.hid (HU.out.call hq)); (try replace HQ := Lib.hid (HQ.out.call hq)); replace HX := Lib.hid (HX.out.below hq); clear g0 g1; obtain ⟨g0, g1⟩ := HX.out; replace HW := Lib.hid (HW.out.trans (hq.mono HW.out.size)); clear hq))
      all_goals
        go_wp2_with fail
        go_ret
        exact ⟨rfl, HW.out⟩
end Go.Proofs.Ytdlloobdmfoalaa

/-
  The laws of layer 14: VsetVector.
-/
namespace Go.Proofs.Ytdlloobdmfoalaa
open Go.RowKit

theorem lastC_get : ∀ {O : List Rn} {m : Nat}, O.length = m + 1 → ∃ t, O[m]? = some t ∧ t.to = lastC O
  | [], _, h => by cases h
  | [r], m, h => by
    obtain rfl : m = 0 := by simpa using h
    exact ⟨r, rfl, rfl⟩
  | r :: t :: l, m, h => by
    match m, h with
    | 0, h => simp at h
    | m + 1, h =>
      obtain ⟨x, h1, h2⟩ := lastC_get (O := t :: l) (m := m) (by simpa using h)
      exact ⟨x, by rw [List.getElem?_cons_succ]; exact h1, by rw [h2, lastC]⟩
def headC : List Rn → Int
  | [] => 0
  | r :: _ => match decide (r.fr = 1) with | true => r.to | false => 0
theorem baseC_head (l : List Rn) : baseC l = headC (ofC l) := rfl
/-- One number of a vector. -/
def V1At (w : World) (g k : Nat) (X : Int) : Prop := w.cell? ⟨g, k, none⟩ = some (.int .i64 X)
theorem V1At.raw {w : World} {g k : Nat} {X : Int} (h : V1At w g k X) : w.cell? ⟨g, k, none⟩ = some (.int .i64 X) := h
theorem V1At.below {w w' : World} {g k : Nat} {X : Int} (h : V1At w g k X) (hb : Below w.heap.size w w') : V1At w' g k X := ((bcell hb).1 _ _ (World.block_lt_of_cell? w _ h)).trans h
set_option maxRecDepth 100000 in
set_option maxHeartbeats 8000000 in
theorem vsetVector_walk (HAD : SAddC 17) (HVE : SVecC 25) (HMO : SMostC 28) (HHA : SHasC 12)
    (A : Option Addr) (c n : Nat) (s : List Kn) (i : Int) (hn : n = s.length) (w : World) (ha : RdK w w.heap.size A c s) :
    Calls Try.prog 6 #[.slice A n c, .int .i64 i] w fun e w' => e = .returned (.bool true) ∧ Below w.heap.size w w' := by
  have A0 := fun w => Lib.hid (awake14 HAD HVE HMO HHA w)
  have HW := Lib.hid (Below.refl w.heap.size w)
  have HS := Lib.hid ha
  obtain ⟨la, hla⟩ : ∃ z, longV 16 s = z := ⟨_, rfl⟩
  have LA := fun w hr => Lib.hid (ref_vlong 16 16 rfl (by omega) A c n s hn la hla w hr)
  cases la
  case true =>
    clear HAD HVE HMO HHA ha hn hla
    go_enter Try.func6, Try.ntmps6
    go_wp2_with (first
      | ((with_reducible refine (A0 _).out.mono ?_); rintro e w9 ⟨rfl, hq⟩; (try replace HS := Lib.hid (HS.out.call hq)); (try replace HR := Lib.hid (HR.out.call hq)); (try replace HO := Lib.hid (HO.out.call hq)); replace HW := Lib.hid (HW.out.trans (hq.mono HW.out.size)); clear hq)
      | ((with_reducible refine (LA _ HS.out).out.mono ?_); rintro e w9 ⟨rfl, hq⟩; (try replace HS := Lib.hid (HS.out.call hq)); (try replace HR := Lib.hid (HR.out.call hq)); (try replace HO := Lib.hid (HO.out.call hq)); replace HW := Lib.hid (HW.out.trans (hq.mono HW.out.size)); clear hq))
    go_ret
    exact ⟨rfl, HW.out⟩
  case false =>
    have cs := capS_of (longV_size hla) (by omega)
    have rs : ∀ r, (runsV s r).length ≤ 256 := fun r => by
      have h1 := runsV_len r (longV_size hla).2
      have h2 := (longV_size hla).1
      have h3 : 16 * s.length ≤ 16 * 16 := Nat.mul_le_mul_left 16 h2
      omega
    obtain ⟨G, hG⟩ : ∃ G : Nat → Int, ∀ k : Nat, G k = baseC (runsV s ((k : Int) + 1)) := ⟨_, fun _ => rfl⟩
    have V1 := fun w h => Lib.hid (HVE A c n s hn cs G hG w h)
    have HM1 := Lib.hid (fun (r z : Int) (hz : topS s r = z) (w : World) (h : RdK w w.heap.size A c s) => HMO A c n s r hn cs z hz w h)
    have HRU := Lib.hid (fun (r : Int) (N : Nat) (hN : (runsV s r).length = N) (w : World) (h : RdK w w.heap.size A c s) => ref_vruns A c n s r hn N hN (by have := rs r; omega) w h)
    have HG := Lib.hid hG
    have HRS := Lib.hid rs
    clear HAD HVE HMO HHA ha hn hla cs rs hG
    go_enter Try.func6, Try.ntmps6
    go_upto_region 6 with (first
      | ((with_reducible refine (A0 _).out.mono ?_); rintro e w9 ⟨rfl, hq⟩; (try replace HS := Lib.hid (HS.out.call hq)); (try replace HR := Lib.hid (HR.out.call hq)); (try replace HO := Lib.hid (HO.out.call hq)); replace HW := Lib.hid (HW.out.trans (hq.mono HW.out.size)); clear hq)
      | ((with_reducible refine (LA _ HS.out).out.mono ?_); rintro e w9 ⟨rfl, hq⟩; (try replace HS := Lib.hid (HS.out.call hq)); (try replace HR := Lib.hid (HR.out.call hq)); (try replace HO := Lib.hid (HO.out.call hq)); replace HW := Lib.hid (HW.out.trans (hq.mono HW.out.size)); clear hq)
      | ((with_reducible refine (V1 _ HS.out).out.mono ?_); rintro e w9 ⟨rfl, hq⟩; (try replace HS := Lib.hid (HS.out.call hq)); (try replace HR := Lib.hid (HR.out.call hq)); (try replace HO := Lib.hid (HO.out.call hq)); replace HW := Lib.hid (HW.out.trans (hq.mono HW.out.size)); clear hq))
    clear A0 LA V1
    obtain ⟨g, hg⟩ : ∃ g, w9.heap.size = g := ⟨_, rfl⟩
    obtain ⟨w7, hw7⟩ : ∃ w7, w7 = w9.alloc (vecO G) := ⟨_, rfl⟩
    have HV := Lib.hid (show VecAt w7 g G by rw [hw7, ← hg]; exact vec_new _ _)
    have hq : Below w9.heap.size w9 w7 := by rw [hw7]; exact below_new _ _
    replace HS := Lib.hid (HS.out.call hq)
    replace HW := Lib.hid (HW.out.trans (hq.mono HW.out.size))
    (try rw [hg])
    rw [← hw7]
    clear hq hw7 hg
    go_wp2_with fail
    go_loopw [6] (fun i wr => ∃ k : Nat, k ≤ 16 ∧ i = .int .i64 k ∧ Hid (Below w7.heap.size w7 wr)) (fun i _ => 16 - (intOf i).toNat)
    case atStart => exact ⟨0, by omega, rfl, Below.refl _ _⟩
    case round =>
      obtain ⟨k, hk, rfl, HB⟩ := hrel
      replace HS := Lib.hid (HS.out.call HB.out)
      replace HV := Lib.hid (VecAt.below HV.out HB.out)
      have HW0 := Lib.hid (HW.out.trans (HB.out.mono HW.out.size))
      by_cases hlt : k < 16
      · obtain ⟨N, hN⟩ : ∃ N, (runsV s ((k : Int) + 1)).length = N := ⟨_, rfl⟩
        obtain ⟨O, hO⟩ : ∃ O, ofC (runsV s ((k : Int) + 1)) = O := ⟨_, rfl⟩
        obtain ⟨NO, hNO⟩ : ∃ N, O.length = N := ⟨_, rfl⟩
        have hl9 := HRS.out ((k : Int) + 1)
        have C1 := fun w h => Lib.hid (HRU.out ((k : Int) + 1) N hN w h)
        have C2 := fun A c w h => Lib.hid (ref_cof A c N (runsV s ((k : Int) + 1)) hN.symm (by omega) O hO NO hNO w h)
        have htop : topS s ((k : Int) + 1) = lastC O := by
          unfold topS
          rw [decide_eq_true (by omega : 1 ≤ (k : Int) + 1), decide_eq_true (by omega : (k : Int) + 1 ≤ 16)]
          show lastC (ofC _) = _
          rw [hO]
        obtain ⟨Z, hZ⟩ : ∃ Z, lastC O = Z := ⟨_, rfl⟩
        have C3 := fun w h => Lib.hid (HM1.out ((k : Int) + 1) Z (htop.trans hZ) w h)
        obtain ⟨X, hX⟩ : ∃ X, G k = X := ⟨_, rfl⟩
        have hXO : headC O = X := by rw [← hX, HG.out, baseC_head, hO]
        have HX := Lib.hid (show V1At wr g k X by have := HV.out k hlt; rw [hX] at this; exact this)
        have v0 : wr.cell? ⟨g, k, none⟩ = some (.int .i64 X) := HX.out
        have hk0 : (0 : Int) ≤ (k : Int) := by omega
        have hk16 : (k : Int) < 16 := by omega
        have hkd : decide ((k : Int) < 16) = true := decide_eq_true hk16
        have HOO := Lib.hid hO
        have HNN := Lib.hid hNO
        replace HW0 := Lib.hid HB.out
        match O, NO, hNO with
        | [], NO, hNO =>
          obtain rfl : NO = 0 := hNO.symm
          obtain rfl : Z = 0 := hZ.symm
          obtain rfl : X = 0 := hXO.symm
          clear hN hO hl9 htop hX hXO hZ hNO
          go_wp2_with (first
            | ((with_reducible refine (C1 _ HS.out).out.mono ?_); rintro e w9 ⟨AR, cR, rfl, hrd, hq⟩; (try replace HS := Lib.hid (HS.out.call hq)); (try replace HO := Lib.hid (HO.out.call hq)); replace HX := Lib.hid (HX.out.below hq); clear v0; have v0 := HX.out.raw; replace HW0 := Lib.hid (HW0.out.trans (hq.mono HW0.out.size)); have HR := Lib.hid hrd; clear hrd hq)
            | ((with_reducible refine (C2 _ _ _ HR.out).out.mono ?_); rintro e w9 ⟨AO, cO, rfl, hrd, hq⟩; (try replace HS := Lib.hid (HS.out.call hq)); (try replace HR := Lib.hid (HR.out.call hq)); replace HX := Lib.hid (HX.out.below hq); clear v0; have v0 := HX.out.raw; replace HW0 := Lib.hid (HW0.out.trans (hq.mono HW0.out.size)); have HO := Lib.hid hrd; clear hrd hq)
            | ((with_reducible refine (C3 _ HS.out).out.mono ?_); rintro e w9 ⟨rfl, hq⟩; (try replace HS := Lib.hid (HS.out.call hq)); (try replace HR := Lib.hid (HR.out.call hq)); (try replace HO := Lib.hid (HO.out.call hq)); replace HX := Lib.hid (HX.out.below hq); clear v0; have v0 := HX.out.raw; replace HW0 := Lib.hid (HW0.out.trans (hq.mono HW0.out.size)); clear hq))
          go_roundw
          case rel => exact ⟨k + 1, by omega, by go_num, HW0⟩
          case measure => simp [intOf]; omega
        | r :: O', 0, hNO => cases hNO
        | r :: O', m + 1, hNO =>
          obtain ⟨t, ht, htl⟩ := lastC_get hNO
          have hZt : t.to = Z := htl.trans hZ
          have hm9 : m ≤ 9223372036854775806 := by
            have h1 := makeC_len 1 (runsV s ((k : Int) + 1)) []
            rw [show makeC 1 (runsV s ((k : Int) + 1)) [] = r :: O' from hO, hNO] at h1
            simp only [List.length_nil] at h1
            omega
          obtain ⟨F, hF⟩ : ∃ F, r.fr = F := ⟨_, rfl⟩
          obtain ⟨T, hT⟩ : ∃ T, r.to = T := ⟨_, rfl⟩
          have hXO : (match decide (r.fr = 1) with | true => r.to | false => 0) = X := hXO
          rw [hF, hT] at hXO
          have HCE := Lib.hid (fun (W : World) (A : Option Addr) (c : Nat) (h : kRn.Rd W W.heap.size A c (r :: O')) => show ∃ b o, A = some ⟨b, o, none⟩ ∧ W.cell? ⟨b, o, none⟩ = some (.int .i64 F) ∧ W.cell? ⟨b, o + 1, none⟩ = some (.int .i64 T) ∧ W.cell? ⟨b, o + m * 2 + 1, none⟩ = some (.int .i64 Z) by
            obtain ⟨b, o, hA, -, hc⟩ := rns_at h (by simp)
            have h1 := hc 0 r rfl
            have h2 := hc m t ht
            rw [Nat.zero_mul, Nat.add_zero, hF, hT] at h1
            rw [hZt] at h2
            exact ⟨b, o, hA, h1.1, h1.2, h2.2⟩)
          have hmw : IntKind.i64.wrap (((m + 1 : Nat) : Int) - 1) = (m : Int) := by rw [show ((m + 1 : Nat) : Int) - 1 = (m : Int) by omega]; exact IntWalk.i64_in _ (by omega)
          have hmw2 : IntKind.i64.wrap ((m : Int) + 1 - 1) = (m : Int) := by rw [Int.add_sub_cancel]; exact IntWalk.i64_in _ (by omega)
          have hmd : decide ((0 : Int) < ((m + 1 : Nat) : Int)) = true := decide_eq_true (by omega)
          have hmd2 : decide ((0 : Int) < (m : Int) + 1) = true := decide_eq_true (by omega)
          have hm0 : (0 : Int) ≤ (m : Int) := by omega
          have hm1 : (m : Int) < ((m + 1 : Nat) : Int) := by omega
          have hm2 : (m : Int) < (m : Int) + 1 := by omega
          obtain ⟨f, hf⟩ : ∃ f, decide (F = 1) = f := ⟨_, rfl⟩
          have hfb : (F == 1) = f := by rw [← hf, Bool.eq_iff_iff]; simp
          rw [hf] at hXO
          clear hN hO hl9 htop hX hZ hNO ht htl hZt hF hT hf
          cases f
          all_goals
            simp only at hXO
            subst hXO
            go_upto_region 10 with (first
              | ((with_reducible refine (C1 _ HS.out).out.mono ?_); rintro e w9 ⟨AR, cR, rfl, hrd, hq⟩; (try replace HS := Lib.hid (HS.out.call hq)); (try replace HO := Lib.hid (HO.out.call hq)); replace HX := Lib.hid (HX.out.below hq); clear v0; have v0 := HX.out.raw; replace HW0 := Lib.hid (HW0.out.trans (hq.mono HW0.out.size)); have HR := Lib.hid hrd; clear hrd hq)
              | ((with_reducible refine (C2 _ _ _ HR.out).out.mono ?_); rintro e w9 ⟨AO, cO, rfl, hrd, hq⟩; (try replace HS := Lib.hid (HS.out.call hq)); (try replace HR := Lib.hid (HR.out.call hq)); replace HX := Lib.hid (HX.out.below hq); clear v0; have v0 := HX.out.raw; replace HW0 := Lib.hid (HW0.out.trans (hq.mono HW0.out.size)); have HO := Lib.hid hrd; clear hrd hq))
            obtain ⟨b, o, rfl, c0, c1, c2⟩ := HCE.out _ _ _ HO.out
            clear HCE C1 C2
            go_wp2_with (first
              | ((with_reducible refine (C3 _ HS.out).out.mono ?_); rintro e w9 ⟨rfl, hq⟩; (try replace HS := Lib.hid (HS.out.call hq)); (try replace HR := Lib.hid (HR.out.call hq)); (try replace HO := Lib.hid (HO.out.call hq)); replace HX := Lib.hid (HX.out.below hq); clear v0; have v0 := HX.out.raw; replace HW0 := Lib.hid (HW0.out.trans (hq.mono HW0.out.size)); clear hq))
            go_roundw
            case rel => exact ⟨k + 1, by omega, by go_num, HW0⟩
            case measure => simp [intOf]; omega
      · obtain rfl : k = 16 := by omega
        have hkd : decide (((16 : Nat) : Int) < 16) = false := by decide
        obtain ⟨p, hp⟩ : ∃ p, decide (1 ≤ i) = p := ⟨_, rfl⟩
        obtain ⟨q, hq9⟩ : ∃ q, decide (i ≤ 16) = q := ⟨_, rfl⟩
        obtain ⟨z, hz⟩ : ∃ z, topS s i = z := ⟨_, rfl⟩
        have C3 := fun w h => Lib.hid (HM1.out i z hz w h)
        have hz0 : (p && q) = false → z = 0 := fun h => by rw [← hz]; unfold topS; rw [hp, hq9, h]
        have g1 : decide (i < 1) = !p := by rw [← hp]; by_cases h : 1 ≤ i <;> simp [h] <;> omega
        have g2 : decide (16 < i) = !q := by rw [← hq9]; by_cases h : i ≤ 16 <;> simp [h] <;> omega
        clear hz
        cases p <;> cases q
        all_goals
          first
            | (obtain rfl := hz0 rfl)
            | skip
          go_wp2_with (first
            | ((with_reducible refine (C3 _ HS.out).out.mono ?_); rintro e w9 ⟨rfl, hq⟩; (try replace HS := Lib.hid (HS.out.call hq)); (try replace HR := Lib.hid (HR.out.call hq)); (try replace HO := Lib.hid (HO.out.call hq)); replace HW0 := Lib.hid (HW0.out.trans (hq.mono HW0.out.size)); clear hq))
          go_ret
          exact ⟨rfl, HW0.out⟩
end Go.Proofs.Ytdlloobdmfoalaa

/-
  The laws of layer 14: VsetLaws.
-/
namespace Go.Proofs.Ytdlloobdmfoalaa
open Go.RowKit

set_option maxRecDepth 100000 in
set_option maxHeartbeats 8000000 in
theorem vsetLaws_walk (HAD : SAddC 17) (HVE : SVecC 25) (HMO : SMostC 28) (HHA : SHasC 12)
    (HUN : SSetC 19 1) (HME : SSetC 20 2) (HLE : SSetC 21 3) (HOF : SOfC 15) (HWI : SBoolC 24 withinQ)
    (A B : Option Addr) (c d n m : Nat) (a b : List Kn) (hn : n = a.length) (hm : m = b.length) (w : World) (ha : RdK w w.heap.size A c a) (hb : RdK w w.heap.size B d b) :
    Calls Try.prog 7 #[.slice A n c, .slice B m d] w fun e w' => e = .returned (.bool true) ∧ Below w.heap.size w w' := by
  have A0 := fun w => Lib.hid (awake14 HAD HVE HMO HHA w)
  have HW := Lib.hid (Below.refl w.heap.size w)
  have HA := Lib.hid ha
  have HB := Lib.hid hb
  obtain ⟨la, hla⟩ : ∃ z, longV 10 a = z := ⟨_, rfl⟩
  obtain ⟨lb, hlb⟩ : ∃ z, longV 10 b = z := ⟨_, rfl⟩
  have LA := fun w hr => Lib.hid (ref_vlong 10 10 rfl (by omega) A c n a hn la hla w hr)
  have LB := fun w hr => Lib.hid (ref_vlong 10 10 rfl (by omega) B d m b hm lb hlb w hr)
  cases la
  case true =>
    clear HAD HVE HMO HHA HUN HME HLE HOF HWI ha hb hn hm hla hlb LB
    go_enter Try.func7, Try.ntmps7
    go_wp2_with (first
      | ((with_reducible refine (A0 _).out.mono ?_); rintro e w9 ⟨rfl, hq⟩; (try replace HA := Lib.hid (HA.out.call hq)); (try replace HB := Lib.hid (HB.out.call hq)); (try replace HU := Lib.hid (HU.out.call hq)); (try replace HM := Lib.hid (HM.out.call hq)); (try replace HD := Lib.hid (HD.out.call hq)); (try replace HQ := Lib.hid (HQ.out.call hq)); (try replace HO := Lib.hid (HO.out.call hq)); replace HW := Lib.hid (HW.out.trans (hq.mono HW.out.size)); clear hq)
      | ((with_reducible refine (LA _ HA.out).out.mono ?_); rintro e w9 ⟨rfl, hq⟩; (try replace HA := Lib.hid (HA.out.call hq)); (try replace HB := Lib.hid (HB.out.call hq)); (try replace HU := Lib.hid (HU.out.call hq)); (try replace HM := Lib.hid (HM.out.call hq)); (try replace HD := Lib.hid (HD.out.call hq)); (try replace HQ := Lib.hid (HQ.out.call hq)); (try replace HO := Lib.hid (HO.out.call hq)); replace HW := Lib.hid (HW.out.trans (hq.mono HW.out.size)); clear hq))
    go_ret
    exact ⟨rfl, HW.out⟩
  case false =>
    cases lb
    case true =>
      clear HAD HVE HMO HHA HUN HME HLE HOF HWI ha hb hn hm hla hlb
      go_enter Try.func7, Try.ntmps7
      go_wp2_with (first
        | ((with_reducible refine (A0 _).out.mono ?_); rintro e w9 ⟨rfl, hq⟩; (try replace HA := Lib.hid (HA.out.call hq)); (try replace HB := Lib.hid (HB.out.call hq)); (try replace HU := Lib.hid (HU.out.call hq)); (try replace HM := Lib.hid (HM.out.call hq)); (try replace HD := Lib.hid (HD.out.call hq)); (try replace HQ := Lib.hid (HQ.out.call hq)); (try replace HO := Lib.hid (HO.out.call hq)); replace HW := Lib.hid (HW.out.trans (hq.mono HW.out.size)); clear hq)
        | ((with_reducible refine (LA _ HA.out).out.mono ?_); rintro e w9 ⟨rfl, hq⟩; (try replace HA := Lib.hid (HA.out.call hq)); (try replace HB := Lib.hid (HB.out.call hq)); (try replace HU := Lib.hid (HU.out.call hq)); (try replace HM := Lib.hid (HM.out.call hq)); (try replace HD := Lib.hid (HD.out.call hq)); (try replace HQ := Lib.hid (HQ.out.call hq)); (try replace HO := Lib.hid (HO.out.call hq)); replace HW := Lib.hid (HW.out.trans (hq.mono HW.out.size)); clear hq)
        | ((with_reducible refine (LB _ HB.out).out.mono ?_); rintro e w9 ⟨rfl, hq⟩; (try replace HA := Lib.hid (HA.out.call hq)); (try replace HB := Lib.hid (HB.out.call hq)); (try replace HU := Lib.hid (HU.out.call hq)); (try replace HM := Lib.hid (HM.out.call hq)); (try replace HD := Lib.hid (HD.out.call hq)); (try replace HQ := Lib.hid (HQ.out.call hq)); (try replace HO := Lib.hid (HO.out.call hq)); replace HW := Lib.hid (HW.out.trans (hq.mono HW.out.size)); clear hq))
      go_ret
      exact ⟨rfl, HW.out⟩
    case false =>
      have ca := capS_of (longV_size hla) (by omega)
      have cb := capS_of (longV_size hlb) (by omega)
      have ra : ∀ r, (runsV a r).length ≤ 100 := fun r => by
        have h1 := runsV_len r (longV_size hla).2
        have h2 := (longV_size hla).1
        have h3 : 10 * a.length ≤ 10 * 10 := Nat.mul_le_mul_left 10 h2
        omega
      have rb : ∀ r, (runsV b r).length ≤ 100 := fun r => by
        have h1 := runsV_len r (longV_size hlb).2
        have h2 := (longV_size hlb).1
        have h3 : 10 * b.length ≤ 10 * 10 := Nat.mul_le_mul_left 10 h2
        omega
      obtain ⟨U, hU⟩ : ∃ U, makeS 1 a b = U := ⟨_, rfl⟩
      obtain ⟨NU, hNU⟩ : ∃ N, U.length = N := ⟨_, rfl⟩
      have rU : ∀ r, (runsV U r).length ≤ 401 := fun r => by have := (makeS_cap (op := 1) ra rb (by omega)).2 r; rw [hU] at this; omega
      have cU : CapS U := by have := (makeS_cap (op := 1) ra rb (by omega)).1; rw [hU] at this; exact this
      obtain ⟨M, hM⟩ : ∃ U, makeS 2 a b = U := ⟨_, rfl⟩
      obtain ⟨NM, hNM⟩ : ∃ N, M.length = N := ⟨_, rfl⟩
      have rM : ∀ r, (runsV M r).length ≤ 401 := fun r => by have := (makeS_cap (op := 2) ra rb (by omega)).2 r; rw [hM] at this; omega
      have cM : CapS M := by have := (makeS_cap (op := 2) ra rb (by omega)).1; rw [hM] at this; exact this
      obtain ⟨D, hD⟩ : ∃ U, makeS 3 a b = U := ⟨_, rfl⟩
      obtain ⟨ND, hND⟩ : ∃ N, D.length = N := ⟨_, rfl⟩
      have rD : ∀ r, (runsV D r).length ≤ 401 := fun r => by have := (makeS_cap (op := 3) ra rb (by omega)).2 r; rw [hD] at this; omega
      have cD : CapS D := by have := (makeS_cap (op := 3) ra rb (by omega)).1; rw [hD] at this; exact this
      have UN := fun w ha hb => Lib.hid (HUN A B c d n m a b hn hm ca cb U hU NU hNU w ha hb)
      have ME := fun w ha hb => Lib.hid (HME A B c d n m a b hn hm ca cb M hM NM hNM w ha hb)
      have LE := fun w ha hb => Lib.hid (HLE A B c d n m a b hn hm ca cb D hD ND hND w ha hb)
      obtain ⟨Ga, hGa⟩ : ∃ G : Nat → Int, ∀ k : Nat, G k = baseC (runsV a ((k : Int) + 1)) := ⟨_, fun _ => rfl⟩
      have Va := fun w h => Lib.hid (HVE A c n a hn ca Ga hGa w h)
      obtain ⟨Gb, hGb⟩ : ∃ G : Nat → Int, ∀ k : Nat, G k = baseC (runsV b ((k : Int) + 1)) := ⟨_, fun _ => rfl⟩
      have Vb := fun w h => Lib.hid (HVE B d m b hm cb Gb hGb w h)
      obtain ⟨Gu, hGu⟩ : ∃ G : Nat → Int, ∀ k : Nat, G k = baseC (runsV U ((k : Int) + 1)) := ⟨_, fun _ => rfl⟩
      have Vu := fun A c w h => Lib.hid (HVE A c NU U hNU.symm cU Gu hGu w h)
      obtain ⟨Gm, hGm⟩ : ∃ G : Nat → Int, ∀ k : Nat, G k = baseC (runsV M ((k : Int) + 1)) := ⟨_, fun _ => rfl⟩
      have Vm := fun A c w h => Lib.hid (HVE A c NM M hNM.symm cM Gm hGm w h)
      have hz : ∀ k, k < 16 → max (Ga k) (Gb k) ≤ Gu k ∧ Gm k = min (Ga k) (Gb k) := fun k hk => by
        have h1 : (1 : Int) ≤ (k : Int) + 1 := by omega
        have h2 : (k : Int) + 1 ≤ 16 := by omega
        have j := baseC_join (runsV a ((k : Int) + 1)) (runsV b ((k : Int) + 1))
        have e := baseC_meet (runsV a ((k : Int) + 1)) (runsV b ((k : Int) + 1))
        rw [← makeS_runs h1 h2, hU, ← hGa, ← hGb, ← hGu] at j
        rw [← makeS_runs h1 h2, hM, ← hGa, ← hGb, ← hGm] at e
        exact ⟨by omega, e⟩
      have HZ := Lib.hid hz
      obtain ⟨O, hO⟩ : ∃ U, ofS a = U := ⟨_, rfl⟩
      obtain ⟨NO, hNO⟩ : ∃ N, O.length = N := ⟨_, rfl⟩
      have O1 := fun w h => Lib.hid (HOF A c n a hn ca O hO NO hNO w h)
      have P1 := fun A B c d w h g => Lib.hid (HUN A B c d ND NM D M hND.symm hNM.symm cD cM O (by rw [← hD, ← hM, makeS_parts, hO]) NO hNO w h g)
      have S1 := fun A B c d w ha hb => Lib.hid (vsame_is A B c d NO NO O hNO.symm hNO.symm w ha hb)
      have P2 := fun A c w h g => Lib.hid (HUN A B c d ND m D b hND.symm hm cD cb U (by rw [← hD, makeS_joined, hU]) NU hNU w h g)
      have S2 := fun A B c d w ha hb => Lib.hid (vsame_is A B c d NU NU U hNU.symm hNU.symm w ha hb)
      have P3 := fun A c w h g => Lib.hid (HME A B c d ND m D b hND.symm hm cD cb [] (by rw [← hD, makeS_apart]) 0 rfl w h g)
      have P4 := fun w h g => Lib.hid (HUN B A d c m n b a hm hn cb ca U (by rw [makeS_back1, hU]) NU hNU w h g)
      have I1 := fun B d w h g => Lib.hid (HWI B A d c NM n M a hNM.symm hn cM ca true (by rw [← hM]; exact ⟨fun _ => makeS_in a b, fun _ => rfl⟩) w h g)
      have I2 := fun B d w h g => Lib.hid (HWI A B c d n NU a U hn hNU.symm ca cU true (by rw [← hU]; exact ⟨fun _ => makeS_on a b, fun _ => rfl⟩) w h g)
      clear HAD HVE HMO HHA HUN HME HLE HOF HWI ha hb hn hm hla hlb ca cb ra rb rU rM rD cU cM cD hU hM hD hNU hNM hND hGa hGb hGu hGm hz hO hNO
      go_enter Try.func7, Try.ntmps7
      go_upto_region 7 with (first
        | ((with_reducible refine (A0 _).out.mono ?_); rintro e w9 ⟨rfl, hq⟩; (try replace HA := Lib.hid (HA.out.call hq)); (try replace HB := Lib.hid (HB.out.call hq)); (try replace HU := Lib.hid (HU.out.call hq)); (try replace HM := Lib.hid (HM.out.call hq)); (try replace HD := Lib.hid (HD.out.call hq)); (try replace HQ := Lib.hid (HQ.out.call hq)); (try replace HO := Lib.hid (HO.out.call hq)); replace HW := Lib.hid (HW.out.trans (hq.mono HW.out.size)); clear hq)
        | ((with_reducible refine (LA _ HA.out).out.mono ?_); rintro e w9 ⟨rfl, hq⟩; (try replace HA := Lib.hid (HA.out.call hq)); (try replace HB := Lib.hid (HB.out.call hq)); (try replace HU := Lib.hid (HU.out.call hq)); (try replace HM := Lib.hid (HM.out.call hq)); (try replace HD := Lib.hid (HD.out.call hq)); (try replace HQ := Lib.hid (HQ.out.call hq)); (try replace HO := Lib.hid (HO.out.call hq)); replace HW := Lib.hid (HW.out.trans (hq.mono HW.out.size)); clear hq)
        | ((with_reducible refine (LB _ HB.out).out.mono ?_); rintro e w9 ⟨rfl, hq⟩; (try replace HA := Lib.hid (HA.out.call hq)); (try replace HB := Lib.hid (HB.out.call hq)); (try replace HU := Lib.hid (HU.out.call hq)); (try replace HM := Lib.hid (HM.out.call hq)); (try replace HD := Lib.hid (HD.out.call hq)); (try replace HQ := Lib.hid (HQ.out.call hq)); (try replace HO := Lib.hid (HO.out.call hq)); replace HW := Lib.hid (HW.out.trans (hq.mono HW.out.size)); clear hq)
        | ((with_reducible refine (UN _ HA.out HB.out).out.mono ?_); rintro e w9 ⟨AU, cU, rfl, hrd, hq⟩; (try replace HA := Lib.hid (HA.out.call hq)); (try replace HB := Lib.hid (HB.out.call hq)); (try replace HM := Lib.hid (HM.out.call hq)); (try replace HD := Lib.hid (HD.out.call hq)); (try replace HQ := Lib.hid (HQ.out.call hq)); (try replace HO := Lib.hid (HO.out.call hq)); replace HW := Lib.hid (HW.out.trans (hq.mono HW.out.size)); have HU := Lib.hid hrd; clear hrd hq)
        | ((with_reducible refine (ME _ HA.out HB.out).out.mono ?_); rintro e w9 ⟨AM, cM, rfl, hrd, hq⟩; (try replace HA := Lib.hid (HA.out.call hq)); (try replace HB := Lib.hid (HB.out.call hq)); (try replace HU := Lib.hid (HU.out.call hq)); (try replace HD := Lib.hid (HD.out.call hq)); (try replace HQ := Lib.hid (HQ.out.call hq)); (try replace HO := Lib.hid (HO.out.call hq)); replace HW := Lib.hid (HW.out.trans (hq.mono HW.out.size)); have HM := Lib.hid hrd; clear hrd hq)
        | ((with_reducible refine (LE _ HA.out HB.out).out.mono ?_); rintro e w9 ⟨AD, cD, rfl, hrd, hq⟩; (try replace HA := Lib.hid (HA.out.call hq)); (try replace HB := Lib.hid (HB.out.call hq)); (try replace HU := Lib.hid (HU.out.call hq)); (try replace HM := Lib.hid (HM.out.call hq)); (try replace HQ := Lib.hid (HQ.out.call hq)); (try replace HO := Lib.hid (HO.out.call hq)); replace HW := Lib.hid (HW.out.trans (hq.mono HW.out.size)); have HD := Lib.hid hrd; clear hrd hq)
        | ((with_reducible refine (Va _ HA.out).out.mono ?_); rintro e w9 ⟨rfl, hq⟩; (try replace HA := Lib.hid (HA.out.call hq)); (try replace HB := Lib.hid (HB.out.call hq)); (try replace HU := Lib.hid (HU.out.call hq)); (try replace HM := Lib.hid (HM.out.call hq)); (try replace HD := Lib.hid (HD.out.call hq)); (try replace HQ := Lib.hid (HQ.out.call hq)); (try replace HO := Lib.hid (HO.out.call hq)); replace HW := Lib.hid (HW.out.trans (hq.mono HW.out.size)); clear hq)
        | ((with_reducible refine (Vb _ HB.out).out.mono ?_); rintro e w9 ⟨rfl, hq⟩; (try replace HA := Lib.hid (HA.out.call hq)); (try replace HB := Lib.hid (HB.out.call hq)); (try replace HU := Lib.hid (HU.out.call hq)); (try replace HM := Lib.hid (HM.out.call hq)); (try replace HD := Lib.hid (HD.out.call hq)); (try replace HQ := Lib.hid (HQ.out.call hq)); (try replace HO := Lib.hid (HO.out.call hq)); replace HW := Lib.hid (HW.out.trans (hq.mono HW.out.size)); clear hq)
        | ((with_reducible refine (Vu _ _ _ HU.out).out.mono ?_); rintro e w9 ⟨rfl, hq⟩; (try replace HA := Lib.hid (HA.out.call hq)); (try replace HB := Lib.hid (HB.out.call hq)); (try replace HU := Lib.hid (HU.out.call hq)); (try replace HM := Lib.hid (HM.out.call hq)); (try replace HD := Lib.hid (HD.out.call hq)); (try replace HQ := Lib.hid (HQ.out.call hq)); (try replace HO := Lib.hid (HO.out.call hq)); replace HW := Lib.hid (HW.out.trans (hq.mono HW.out.size)); clear hq)
        | ((with_reducible refine (Vm _ _ _ HM.out).out.mono ?_); rintro e w9 ⟨rfl, hq⟩; (try replace HA := Lib.hid (HA.out.call hq)); (try replace HB := Lib.hid (HB.out.call hq)); (try replace HU := Lib.hid (HU.out.call hq)); (try replace HM := Lib.hid (HM.out.call hq)); (try replace HD := Lib.hid (HD.out.call hq)); (try replace HQ := Lib.hid (HQ.out.call hq)); (try replace HO := Lib.hid (HO.out.call hq)); replace HW := Lib.hid (HW.out.trans (hq.mono HW.out.size)); clear hq))
      clear A0 LA LB UN ME LE Va Vb Vu Vm
      obtain ⟨g, hg⟩ : ∃ g, w9.heap.size = g := ⟨_, rfl⟩
      obtain ⟨w7, hw7⟩ : ∃ w7, w7 = (((w9.alloc (vecO Ga)).alloc (vecO Gb)).alloc (vecO Gu)).alloc (vecO Gm) := ⟨_, rfl⟩
      have HVV := Lib.hid (show VecAt w7 g Ga ∧ VecAt w7 (g + 1) Gb ∧ VecAt w7 (g + 1 + 1) Gu ∧ VecAt w7 (g + 1 + 1 + 1) Gm ∧ Below w9.heap.size w9 w7 by
        rw [hw7, ← hg]
        have s1 := size1 w9 (vecO Ga)
        have s2 := size1 (w9.alloc (vecO Ga)) (vecO Gb)
        have s3 := size1 ((w9.alloc (vecO Ga)).alloc (vecO Gb)) (vecO Gu)
        refine ⟨(((vec_new _ _).below (below_new _ _)).below (below_new _ _)).below (below_new _ _), ?_, ?_, ?_, (below_new _ _).trans (((below_new _ _).trans (((below_new _ _).trans ((below_new _ _).mono (by omega))).mono (by omega))).mono (by omega))⟩
        · have := vec_new (w9.alloc (vecO Ga)) Gb; rw [s1] at this; exact (this.below (below_new _ _)).below (below_new _ _)
        · have := vec_new ((w9.alloc (vecO Ga)).alloc (vecO Gb)) Gu; rw [s2, s1] at this; exact this.below (below_new _ _)
        · have := vec_new (((w9.alloc (vecO Ga)).alloc (vecO Gb)).alloc (vecO Gu)) Gm; rw [s3, s2, s1] at this; exact this)
      have hq := HVV.out.2.2.2.2
      (try replace HA := Lib.hid (HA.out.call hq))
      (try replace HB := Lib.hid (HB.out.call hq))
      (try replace HU := Lib.hid (HU.out.call hq))
      (try replace HM := Lib.hid (HM.out.call hq))
      (try replace HD := Lib.hid (HD.out.call hq))
      (try replace HQ := Lib.hid (HQ.out.call hq))
      (try replace HO := Lib.hid (HO.out.call hq))
      replace HW := Lib.hid (HW.out.trans (hq.mono HW.out.size))
      (try rw [hg])
      rw [← hw7]
      clear hq hw7 hg
      go_wp2_with fail
      go_loopw [12] (fun i wr => ∃ k : Nat, k ≤ 16 ∧ i = .int .i64 k ∧ Hid (Below w7.heap.size w7 wr)) (fun i _ => 16 - (intOf i).toNat)
      case atStart => exact ⟨0, by omega, rfl, Below.refl _ _⟩
      case round =>
        obtain ⟨k, hk, rfl, HBB⟩ := hrel
        by_cases hlt : k < 16
        · have va := (HVV.out.1.below HBB.out) k hlt
          have vb := (HVV.out.2.1.below HBB.out) k hlt
          have vu := (HVV.out.2.2.1.below HBB.out) k hlt
          have vm := (HVV.out.2.2.2.1.below HBB.out) k hlt
          obtain ⟨h1, h2⟩ := HZ.out k hlt
          obtain ⟨X, hX⟩ : ∃ X, Ga k = X := ⟨_, rfl⟩
          obtain ⟨Y, hY⟩ : ∃ X, Gb k = X := ⟨_, rfl⟩
          obtain ⟨Z, hZ⟩ : ∃ X, Gu k = X := ⟨_, rfl⟩
          obtain ⟨V, hV⟩ : ∃ X, Gm k = X := ⟨_, rfl⟩
          rw [hX] at va
          rw [hY] at vb
          rw [hZ] at vu
          rw [hV] at vm
          rw [hX, hY, hZ] at h1
          rw [hX, hY, hV] at h2
          have hk0 : (0 : Int) ≤ (k : Int) := by omega
          have hk16 : (k : Int) < 16 := by omega
          have hkd : decide ((k : Int) < 16) = true := decide_eq_true hk16
          obtain ⟨w6, hwr⟩ : ∃ w, w = wr := ⟨_, rfl⟩
          subst hwr
          clear hX hY hZ hV
          rcases Int.lt_trichotomy X Y with h | h | h
          · obtain rfl : X = V := by omega
            have d1 : decide (Z < Y) = false := decide_eq_false (by omega)
            have d2 : decide (X < Y) = true := decide_eq_true h
            have d3 : decide (Y < X) = false := decide_eq_false (by omega)
            clear h1 h2
            go_wp2_with fail
            have va := show w6.drew.cell? _ = _ from va
            have vb := show w6.drew.cell? _ = _ from vb
            have vu := show w6.drew.cell? _ = _ from vu
            have vm := show w6.drew.cell? _ = _ from vm
            go_region
            go_wp2_with fail
            go_roundw
            case rel => exact ⟨k + 1, by omega, by go_num, HBB.out.drew⟩
            case measure => simp [intOf]; omega
          · obtain rfl : X = Y := h
            obtain rfl : X = V := by omega
            have d1 : decide (Z < X) = false := decide_eq_false (by omega)
            have d2 : decide (X < X) = false := decide_eq_false (by omega)
            clear h1 h2
            go_wp2_with fail
            have va := show w6.drew.cell? _ = _ from va
            have vb := show w6.drew.cell? _ = _ from vb
            have vu := show w6.drew.cell? _ = _ from vu
            have vm := show w6.drew.cell? _ = _ from vm
            go_region
            go_wp2_with fail
            go_roundw
            case rel => exact ⟨k + 1, by omega, by go_num, HBB.out.drew⟩
            case measure => simp [intOf]; omega
          · obtain rfl : Y = V := by omega
            have d1 : decide (Z < X) = false := decide_eq_false (by omega)
            have d2 : decide (X < Y) = false := decide_eq_false (by omega)
            have d3 : decide (Y < X) = true := decide_eq_true h
            clear h1 h2
            go_wp2_with fail
            have va := show w6.drew.cell? _ = _ from va
            have vb := show w6.drew.cell? _ = _ from vb
            have vu := show w6.drew.cell? _ = _ from vu
            have vm := show w6.drew.cell? _ = _ from vm
            go_region
            go_wp2_with fail
            go_roundw
            case rel => exact ⟨k + 1, by omega, by go_num, HBB.out.drew⟩
            case measure => simp [intOf]; omega
        · have hq := HBB.out
          obtain ⟨w6, hwr⟩ : ∃ w, w = wr := ⟨_, rfl⟩
          subst hwr
          have hkd : decide ((k : Int) < 16) = false := decide_eq_false (by omega)
          (try replace HA := Lib.hid (HA.out.call hq))
          (try replace HB := Lib.hid (HB.out.call hq))
          (try replace HU := Lib.hid (HU.out.call hq))
          (try replace HM := Lib.hid (HM.out.call hq))
          (try replace HD := Lib.hid (HD.out.call hq))
          (try replace HQ := Lib.hid (HQ.out.call hq))
          (try replace HO := Lib.hid (HO.out.call hq))
          replace HW := Lib.hid (HW.out.trans (hq.mono HW.out.size))
          clear hq HBB HVV HZ
          go_wp2_with (first
            | ((with_reducible refine (P1 _ _ _ _ _ HD.out HM.out).out.mono ?_); rintro e w9 ⟨AQ, cQ, rfl, hrd, hq⟩; (try replace HA := Lib.hid (HA.out.call hq)); (try replace HB := Lib.hid (HB.out.call hq)); (try replace HU := Lib.hid (HU.out.call hq)); (try replace HM := Lib.hid (HM.out.call hq)); (try replace HD := Lib.hid (HD.out.call hq)); (try replace HO := Lib.hid (HO.out.call hq)); replace HW := Lib.hid (HW.out.trans (hq.mono HW.out.size)); have HQ := Lib.hid hrd; clear hrd hq)
            | ((with_reducible refine (O1 _ HA.out).out.mono ?_); rintro e w9 ⟨AO, cO, rfl, hrd, hq⟩; (try replace HA := Lib.hid (HA.out.call hq)); (try replace HB := Lib.hid (HB.out.call hq)); (try replace HU := Lib.hid (HU.out.call hq)); (try replace HM := Lib.hid (HM.out.call hq)); (try replace HD := Lib.hid (HD.out.call hq)); (try replace HQ := Lib.hid (HQ.out.call hq)); replace HW := Lib.hid (HW.out.trans (hq.mono HW.out.size)); have HO := Lib.hid hrd; clear hrd hq)
            | ((with_reducible refine (S1 _ _ _ _ _ HQ.out HO.out).out.mono ?_); rintro e w9 ⟨rfl, hq⟩; (try replace HA := Lib.hid (HA.out.call hq)); (try replace HB := Lib.hid (HB.out.call hq)); (try replace HU := Lib.hid (HU.out.call hq)); (try replace HM := Lib.hid (HM.out.call hq)); (try replace HD := Lib.hid (HD.out.call hq)); (try replace HQ := Lib.hid (HQ.out.call hq)); (try replace HO := Lib.hid (HO.out.call hq)); replace HW := Lib.hid (HW.out.trans (hq.mono HW.out.size)); clear hq)
            | ((with_reducible refine (P2 _ _ _ HD.out HB.out).out.mono ?_); rintro e w9 ⟨AQ, cQ, rfl, hrd, hq⟩; (try clear HQ); (try replace HA := Lib.hid (HA.out.call hq)); (try replace HB := Lib.hid (HB.out.call hq)); (try replace HU := Lib.hid (HU.out.call hq)); (try replace HM := Lib.hid (HM.out.call hq)); (try replace HD := Lib.hid (HD.out.call hq)); (try replace HO := Lib.hid (HO.out.call hq)); replace HW := Lib.hid (HW.out.trans (hq.mono HW.out.size)); have HQ := Lib.hid hrd; clear hrd hq)
            | ((with_reducible refine (S2 _ _ _ _ _ HQ.out HU.out).out.mono ?_); rintro e w9 ⟨rfl, hq⟩; (try replace HA := Lib.hid (HA.out.call hq)); (try replace HB := Lib.hid (HB.out.call hq)); (try replace HU := Lib.hid (HU.out.call hq)); (try replace HM := Lib.hid (HM.out.call hq)); (try replace HD := Lib.hid (HD.out.call hq)); (try replace HQ := Lib.hid (HQ.out.call hq)); (try replace HO := Lib.hid (HO.out.call hq)); replace HW := Lib.hid (HW.out.trans (hq.mono HW.out.size)); clear hq)
            | ((with_reducible refine (P3 _ _ _ HD.out HB.out).out.mono ?_); rintro e w9 ⟨AQ, cQ, rfl, hrd, hq⟩; (try clear HQ); (try replace HA := Lib.hid (HA.out.call hq)); (try replace HB := Lib.hid (HB.out.call hq)); (try replace HU := Lib.hid (HU.out.call hq)); (try replace HM := Lib.hid (HM.out.call hq)); (try replace HD := Lib.hid (HD.out.call hq)); (try replace HO := Lib.hid (HO.out.call hq)); replace HW := Lib.hid (HW.out.trans (hq.mono HW.out.size)); have HQ := Lib.hid hrd; clear hrd hq)
            | ((with_reducible refine (P4 _ HB.out HA.out).out.mono ?_); rintro e w9 ⟨AQ, cQ, rfl, hrd, hq⟩; (try clear HQ); (try replace HA := Lib.hid (HA.out.call hq)); (try replace HB := Lib.hid (HB.out.call hq)); (try replace HU := Lib.hid (HU.out.call hq)); (try replace HM := Lib.hid (HM.out.call hq)); (try replace HD := Lib.hid (HD.out.call hq)); (try replace HO := Lib.hid (HO.out.call hq)); replace HW := Lib.hid (HW.out.trans (hq.mono HW.out.size)); have HQ := Lib.hid hrd; clear hrd hq)
            | ((with_reducible refine (S2 _ _ _ _ _ HU.out HQ.out).out.mono ?_); rintro e w9 ⟨rfl, hq⟩; (try replace HA := Lib.hid (HA.out.call hq)); (try replace HB := Lib.hid (HB.out.call hq)); (try replace HU := Lib.hid (HU.out.call hq)); (try replace HM := Lib.hid (HM.out.call hq)); (try replace HD := Lib.hid (HD.out.call hq)); (try replace HQ := Lib.hid (HQ.out.call hq)); (try replace HO := Lib.hid (HO.out.call hq)); replace HW := Lib.hid (HW.out.trans (hq.mono HW.out.size)); clear hq)
            | ((with_reducible refine (I1 _ _ _ HM.out HA.out).out.mono ?_); rintro e w9 ⟨rfl, hq⟩; (try replace HA := Lib.hid (HA.out.call hq)); (try replace HB := Lib.hid (HB.out.call hq)); (try replace HU := Lib.hid (HU.out.call hq)); (try replace HM := Lib.hid (HM.out.call hq)); (try replace HD := Lib.hid (HD.out.call hq)); (try replace HQ := Lib.hid (HQ.out.call hq)); (try replace HO := Lib.hid (HO.out.call hq)); replace HW := Lib.hid (HW.out.trans (hq.mono HW.out.size)); clear hq)
            | ((with_reducible refine (I2 _ _ _ HA.out HU.out).out.mono ?_); rintro e w9 ⟨rfl, hq⟩; (try replace HA := Lib.hid (HA.out.call hq)); (try replace HB := Lib.hid (HB.out.call hq)); (try replace HU := Lib.hid (HU.out.call hq)); (try replace HM := Lib.hid (HM.out.call hq)); (try replace HD := Lib.hid (HD.out.call hq)); (try replace HQ := Lib.hid (HQ.out.call hq)); (try replace HO := Lib.hid (HO.out.call hq)); replace HW := Lib.hid (HW.out.trans (hq.mono HW.out.size)); clear hq))
          go_ret
          exact ⟨rfl, HW.out⟩
end Go.Proofs.Ytdlloobdmfoalaa

/-
  Layer 12 (version), the program: is a version right?
-/
namespace Go.Proofs.Ytdlloobdmfoalaa
open Go.RowKit

def VRightC (F : FuncId) : Prop := ∀ (v : Vr) (x y : Int), v.rep = x → v.cnt = y → ∀ z, rightVr v = z → ∀ w, Calls Try.prog F #[.agg #[.int .i64 x, .int .i64 y]] w fun e w' => e = .returned (.bool z) ∧ Below w.heap.size w w'
set_option maxRecDepth 100000 in
theorem k_vright : VRightC 31 := by
  intro v x y hx hy z hz w
  unfold rightVr at hz
  rw [hx, hy] at hz
  have HB := Lib.hid (below_new w (.cells #[.int .i64 x, .int .i64 y] 25))
  obtain ⟨b1, h1⟩ : ∃ b, decide (1 ≤ x) = b := ⟨_, rfl⟩
  obtain ⟨b2, h2⟩ : ∃ b, decide (x ≤ 16) = b := ⟨_, rfl⟩
  obtain ⟨b3, h3⟩ : ∃ b, decide (1 ≤ y) = b := ⟨_, rfl⟩
  obtain ⟨b4, h4⟩ : ∃ b, decide (y ≤ 1099511627776) = b := ⟨_, rfl⟩
  rw [h1, h2, h3, h4] at hz
  subst hz
  clear hx hy
  cases b1
  case' true =>
    cases b2
    case' true =>
      cases b3
      case' true =>
        cases b4
  all_goals
    go_enter Try.func31, Try.ntmps31
    go_wp2_with fail
    go_ret
    exact ⟨rfl, HB.out⟩
end Go.Proofs.Ytdlloobdmfoalaa
