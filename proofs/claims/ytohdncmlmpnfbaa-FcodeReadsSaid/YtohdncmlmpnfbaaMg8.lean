/-
  Several texts in one: FcdK, Law10H, Pieces, OpenMore, OpenNds.
-/
import Derived.Handy
import Derived.Deep.Strs
import Derived.Test.YtohdncmlmpnfbaaMg7
/-
  Layer 10 (fcode), the program: lists of ranges and filters, read.
-/
namespace Go.Proofs.Ytohdncmlmpnfbaa
open Go.RowKit

theorem nodeRd_size {B : Nat} (l : List UInt8) (e : Int) (h : l.length ≤ B) : ((nodeRd l e).1.lo.length ≤ B ∧ (nodeRd l e).1.hi.length ≤ B) ∧ (nodeRd l e).2.1.length ≤ B := by
  obtain ⟨o, l1, e1, ha⟩ : ∃ o l1 e1, withinR 1 8 l e = (o, l1, e1) := ⟨_, _, _, rfl⟩
  have h1 : l1.length ≤ B := by have := withinR_len 1 8 l e; rw [ha] at this; simp only at this; omega
  obtain ⟨s, l2, e2, hs⟩ : ∃ s l2 e2, (if 3 ≤ o ∧ o ≤ 5 then textR 17 l1 e1 else ([], l1, e1)) = (s, l2, e2) := ⟨_, _, _, rfl⟩
  have h2 : s.length ≤ B ∧ l2.length ≤ B := by
    split at hs
    · have g1 := textR_size 17 l1 e1; have g2 := textR_len 17 l1 e1
      rw [hs] at g1 g2; simp only at g1 g2; omega
    · simp only [Prod.mk.injEq] at hs; obtain ⟨rfl, rfl, rfl⟩ := hs; exact ⟨Nat.zero_le _, h1⟩
  obtain ⟨t, l3, e3, ht⟩ : ∃ t l3 e3, (if o = 4 then textR 17 l2 e2 else ([], l2, e2)) = (t, l3, e3) := ⟨_, _, _, rfl⟩
  have h3 : t.length ≤ B ∧ l3.length ≤ B := by
    split at ht
    · have g1 := textR_size 17 l2 e2; have g2 := textR_len 17 l2 e2
      rw [ht] at g1 g2; simp only at g1 g2; omega
    · simp only [Prod.mk.injEq] at ht; obtain ⟨rfl, rfl, rfl⟩ := ht; exact ⟨Nat.zero_le _, h2.2⟩
  obtain ⟨k, l4, e4, hk⟩ : ∃ k l4 e4, (if o = 6 then (1, l3, e3) else if 7 ≤ o then withinR 0 32 l3 e3 else (0, l3, e3)) = (k, l4, e4) := ⟨_, _, _, rfl⟩
  have h4 : l4.length ≤ B := by
    split at hk
    · simp only [Prod.mk.injEq] at hk; obtain ⟨-, rfl, -⟩ := hk; exact h3.2
    · split at hk
      · have g2 := withinR_len 0 32 l3 e3
        rw [hk] at g2; simp only at g2; omega
      · simp only [Prod.mk.injEq] at hk; obtain ⟨-, rfl, -⟩ := hk; exact h3.2
  have e : nodeRd l e = (⟨o, k, s, t⟩, l4, e4) := by
    unfold nodeRd
    rw [ha]; simp only; rw [hs]; simp only; rw [ht]; simp only; rw [hk]
  rw [e]
  exact ⟨⟨h2.1, h3.1⟩, h4⟩
theorem fcd_nd_row (W : World) (n : Nd) (O Q : Int) (S T : ByteArray) (h : n.op = O ∧ n.kids = Q ∧ str n.lo = S ∧ str n.hi = T) :
    RowAt (W.alloc (.cells #[.int .i64 O, .int .i64 Q, .string S, .string T] 51)) (W.heap.size + 1) (some ⟨W.heap.size, 0, none⟩) (kNd.row [n]) := by
  obtain ⟨rfl, rfl, rfl, rfl⟩ := h
  exact (Kind.rd_new (k := kNd) (l := [n]) (n := 1) (by rw [kNd.row_one]; rfl) rfl (by simp)).row
def lenOf : Value → Nat
  | .slice _ n _ => n
  | _ => 0
theorem grown_below {w w1 w2 : World} {m : Option Nat} {B : Nat} (h : w.grownBy w1 m) (hb : Below B w1 w2) (hB : w.heap.size ≤ B) : w.grownBy w2 m :=
  ⟨hb.os.trans h.os, hb.tape.trans h.tape, hb.output.trans h.output, Nat.le_trans h.size hb.size, fun j hj hne => (hb.block j (Nat.lt_of_lt_of_le hj hB)).trans (h.block j hj hne)⟩
set_option maxRecDepth 100000 in
set_option maxHeartbeats 8000000 in
theorem fcd_readr (b L N : Nat) (l : List UInt8) (hl : l.length ≤ L) (hL : L ≤ 200000) (y : List Rng) (x : Int) (hy : allR2 rngR 4096 rightL l = (y, x)) (hN : N = y.length) (w : World) (hr : RdAt w b l 0) :
    Calls Try.prog 27 #[.agg #[.pointer (some ⟨b, 0, none⟩)], .int .i64 4096, .func (.func 29) #[] #[], .func (.func 22) #[] #[]] w (fun e w' => ∃ A c, e = .returned (.tuple #[.slice A N c, .int .i64 x]) ∧ kRng.Rd w' w'.heap.size A c y ∧ w.grownBy w' (some b)) := by
  obtain ⟨n, q1, x1, h1⟩ : ∃ n q1 x1, withinR 0 4096 l 0 = (n, q1, x1) := ⟨_, _, _, rfl⟩
  have hn9 : n ≤ 4096 := by
    by_cases he : x1 = 0
    · subst he
      have := (withinR_back h1).2.2.2; omega
    · have h := withinR_same 0 4096 l 0
      rw [h1] at h
      have := (h he).1
      simp only at this
      omega
  have hq1 : q1.length ≤ L := by have := withinR_len 0 4096 l 0; rw [h1] at this; simp only at this; omega
  have W1 := fun (w' : World) (hf : RdAt w' b l 0) => Lib.hid (rd_within_q h1 hf (by omega))
  obtain ⟨M, hM⟩ : ∃ M, w.heap.size = M := ⟨_, rfl⟩
  have hbM : b < M := hM ▸ hr.lt
  have HMM := Lib.hid (show w.heap.size ≤ M + 1 by omega)
  have HBM := Lib.hid (show b < M + 1 by omega)
  have HNE := Lib.hid (show (some M : Option Nat) ≠ some b from fun e => by injection e with e; exact Nat.ne_of_gt hbM e)
  obtain ⟨w9, hw9⟩ : ∃ w9, w9 = w.alloc (.cells #[.pointer (some ⟨b, 0, none⟩)] 59) := ⟨_, rfl⟩
  have HR := Lib.hid (show RdAt w9 b l 0 by rw [hw9]; exact heap_old _ hr)
  have HGR := Lib.hid (show w.grownBy w9 (some b) by rw [hw9]; exact grown_alloc (World.grownBy.refl _ _) _)
  have p0 : w9.cell? ⟨M, 0, none⟩ = some (.pointer (some ⟨b, 0, none⟩)) := by
    rw [hw9, cell_of_row _ _ _ _ _ _ (heap_new w _ _ hM.symm)]; rfl
  have HP := Lib.hid p0
  have HW0 := Lib.hid h1
  have HQ1 := Lib.hid hq1
  have HY1 := Lib.hid hy
  have HNN := Lib.hid hN
  obtain ⟨Y, hY⟩ : ∃ Y, manyR rngR n q1 x1 = Y := ⟨_, rfl⟩
  have HY0 := Lib.hid hY
  have eg := enters_of Try.func29 (by kernel_rfl) rfl
  have eg2 := enters_of Try.func22 (by kernel_rfl) rfl
  clear hr h1 hq1 hy hN hY hbM
  go_enter Try.func27, Try.ntmps27
  go_upto_region 1 with fail
  rw [← hw9]
  clear hw9 hM
  go_upto_region 2 with ((with_reducible refine (W1 _ HR.out).out.mono ?_); rintro e8 w9 ⟨rfl, hrf, hg⟩; replace HGR := Lib.hid (HGR.out.trans hg); replace HP := Lib.hid (World.grownBy.cell hg HP.out HNE.out); replace HR := Lib.hid hrf; clear hrf hg p0; have p0 := HP.out)
  clear W1
  go_wp2_with fail
  go_loopw [11] (fun v wr => ∃ (k : Nat) (q : List UInt8) (e : Int) (dn : List Rng), k ≤ n ∧ Hid (k = dn.length) ∧ Hid (q.length ≤ L) ∧ Hid (Y = (dn ++ (manyR rngR (n - k) q e).1, (manyR rngR (n - k) q e).2)) ∧ Hid (RdAt wr b q e) ∧ Hid (kRng.Own wr (M + 1) v dn) ∧ Hid (w.grownBy wr (some b)) ∧ Hid (wr.cell? ⟨M, 0, none⟩ = some (.pointer (some ⟨b, 0, none⟩)))) (fun v _ => n - lenOf v)
  case atStart => exact ⟨0, q1, x1, [], by omega, rfl, HQ1, by rw [Nat.sub_zero, HY0.out]; rfl, HR, Kind.Own.nil _ _, HGR, HP⟩
  case round =>
    clear HR HGR HP p0
    obtain ⟨k, q, e, dn, hk, HK, HQ, HY, HR, HO, HGR, HP⟩ := hrel
    have p0 := HP.out
    obtain ⟨A6, c6, rfl, hrd6⟩ := HO.out.read_n HK.out
    have KE := fun (w' : World) (hr : RdAt w' b q e) => Lib.hid (rd_err (givenAt_some hr))
    have hkc : k ≤ c6 := by rw [HK.out]; exact hrd6.room
    by_cases hlt : k < n
    · by_cases he : e = 0
      · subst he
        obtain ⟨g, r, e2, hg9⟩ : ∃ g r e2, rngR q 0 = (g, r, e2) := ⟨_, _, _, rfl⟩
        obtain ⟨S, hS⟩ : ∃ S, str g.lo = S := ⟨_, rfl⟩
        obtain ⟨U, hT⟩ : ∃ T, str g.hi = T := ⟨_, rfl⟩
        obtain ⟨o, hO⟩ : ∃ o, g.op = o := ⟨_, rfl⟩
        have KN := fun (w' : World) (hr : RdAt w' b q 0) => Lib.hid (fcd_nextr b q r 0 e2 g hg9 S U o ⟨hS, hT, hO⟩ (by have := HQ.out; omega) w' hr)
        have HSTEP := Lib.hid (show manyR rngR (n - k) q 0 = _ from (manyR_step rngR hlt q).trans (by rw [hg9]))
        have HQ2 := Lib.hid (show r.length ≤ L by have := (rngR_size q 0 HQ.out).2; rw [hg9] at this; exact this)
        have HLE := Lib.hid (show dn.length + [g].length ≤ 1000000 by rw [← HK.out, List.length_singleton]; omega)
        have HRW := fun W : World => Lib.hid (rng_row_n W g S U o ⟨hS, hT, hO⟩)
        clear hg9 hrd6 hS hT hO
        go_wp2_with (first
          | ((with_reducible refine (KE _ HR.out).out.mono ?_); rintro e8 w9 ⟨rfl, hrf, hg⟩; replace HO := Lib.hid (HO.out.other hg HBM.out); replace HGR := Lib.hid (HGR.out.trans hg); replace HP := Lib.hid (World.grownBy.cell hg HP.out HNE.out); replace HR := Lib.hid hrf; clear hrf hg p0; have p0 := HP.out)
          | ((with_reducible refine (KN _ HR.out).out.mono ?_); rintro e8 w9 ⟨rfl, hrf, hg⟩; replace HO := Lib.hid (HO.out.other hg HBM.out); replace HGR := Lib.hid (HGR.out.trans hg); replace HP := Lib.hid (World.grownBy.cell hg HP.out HNE.out); replace HR := Lib.hid hrf; clear hrf hg p0; have p0 := HP.out)
          | (at_builtin; refine wpList_app_k kRng rfl (.tmp 27) (.tmp 31) rfl (M + 1) _ dn rfl (Kind.Own.alloc HO.out _) _ (some ⟨w9.heap.size, 0, none⟩) 1 1 [g] rfl rfl (HRW w9).out HLE.out (by decide) (by have := World.block_lt_of_cell? w9 _ HP.out; rw [size1]; exact Nat.le_succ_of_le this) ?_; intro v3 w3 hown3 hg3 hb3 _; have HV := HO.out.lt; obtain ⟨A7, c7, rfl, -⟩ := hown3.read_n (n := k + 1) (by rw [List.length_append, ← HK.out]; rfl); replace HO := Lib.hid hown3; have HP3 := Lib.hid (World.grownBy.cell hg3 (show (w9.alloc _).cell? ⟨M, 0, none⟩ = _ from (alloc_keeps _ _ _ _ (World.block_lt_of_cell? w9 _ HP.out)).trans HP.out) (fun e => by have := (HV _ e.symm).1; exact absurd this (by show ¬ (M + 1 ≤ M); omega))); have HR3 := Lib.hid (RdAt.kept (heap_old _ HR.out) hg3 (fun e => by have := (HV _ e.symm).1; have := HBM.out; omega)); have HGR3 := Lib.hid (grown_below (grown_alloc HGR.out _) hb3 HMM.out); clear hown3 hg3 hb3 HV))
        go_roundw
        case rel => exact ⟨k + 1, r, e2, dn ++ [g], by omega, by rw [List.length_append, ← HK.out]; rfl, HQ2, Lib.hid (by rw [HY.out, HSTEP.out, List.append_assoc]; rfl), HR3, HO, HGR3, HP3⟩
        case measure => simp [lenOf]; omega
      · have heb : (e == 0) = false := beq_eq_false_iff_ne.2 he
        have HD := Lib.hid (HY.out.trans (by rw [manyR_end rngR (n - k) q (.inr he), List.append_nil]))
        obtain ⟨z, hz⟩ : ∃ z, endR q e = z := ⟨_, rfl⟩
        obtain ⟨v, hv⟩ : ∃ v, rightL dn = v := ⟨_, rfl⟩
        have KZ := fun (w' : World) (hr : RdAt w' b q e) => Lib.hid (hz ▸ rd_end (givenAt_some hr))
        have HRD := Lib.hid (HY1.out.symm.trans (allR2_of HW0.out (HY0.out.trans HD.out) hz hv))
        have hrd7 := hrd6
        have KR := fun (w' : World) (h : kRng.Rd w' w'.heap.size A6 c6 dn) => Lib.hid (rgs_right A6 c6 k dn HK.out v hv w' h)
        clear hz hv hrd6
        by_cases h0 : z = 0
        · subst h0
          cases v
          · have HF := HRD.out
            rw [if_neg (by decide)] at HF
            injection HF with F1 F2
            subst F1 F2
            obtain rfl : N = 0 := HNN.out
            go_wp2_with (first
          | ((with_reducible refine (KE _ HR.out).out.mono ?_); rintro e8 w9 ⟨rfl, hrf, hg⟩; replace HO := Lib.hid (HO.out.other hg HBM.out); replace HGR := Lib.hid (HGR.out.trans hg); replace HP := Lib.hid (World.grownBy.cell hg HP.out HNE.out); replace HR := Lib.hid hrf; clear hrf hg p0; have p0 := HP.out) | ((with_reducible refine (KZ _ HR.out).out.mono ?_); rintro e8 w9 ⟨rfl, hrf, hg⟩; replace HO := Lib.hid (HO.out.other hg HBM.out); replace HGR := Lib.hid (HGR.out.trans hg); replace HP := Lib.hid (World.grownBy.cell hg HP.out HNE.out); replace HR := Lib.hid hrf; clear hrf hg p0; have p0 := HP.out) | ((with_reducible refine (KR _ (HO.out.rd)).out.mono ?_); rintro e8 w9 ⟨rfl, hq⟩; replace HO := Lib.hid (HO.out.below hq); replace HGR := Lib.hid (HGR.out.trans (grown_of_below hq _)); clear hq))
            go_ret2
            exact ⟨none, 0, rfl, Kind.Rd.nil _ _, HGR.out⟩
          · have HF := HRD.out
            rw [if_neg (by decide)] at HF
            injection HF with F1 F2
            subst F1 F2
            obtain rfl : N = k := HNN.out.trans HK.out.symm
            go_wp2_with (first
          | ((with_reducible refine (KE _ HR.out).out.mono ?_); rintro e8 w9 ⟨rfl, hrf, hg⟩; replace HO := Lib.hid (HO.out.other hg HBM.out); replace HGR := Lib.hid (HGR.out.trans hg); replace HP := Lib.hid (World.grownBy.cell hg HP.out HNE.out); replace HR := Lib.hid hrf; clear hrf hg p0; have p0 := HP.out) | ((with_reducible refine (KZ _ HR.out).out.mono ?_); rintro e8 w9 ⟨rfl, hrf, hg⟩; replace HO := Lib.hid (HO.out.other hg HBM.out); replace HGR := Lib.hid (HGR.out.trans hg); replace HP := Lib.hid (World.grownBy.cell hg HP.out HNE.out); replace HR := Lib.hid hrf; clear hrf hg p0; have p0 := HP.out) | ((with_reducible refine (KR _ (HO.out.rd)).out.mono ?_); rintro e8 w9 ⟨rfl, hq⟩; replace HO := Lib.hid (HO.out.below hq); replace HGR := Lib.hid (HGR.out.trans (grown_of_below hq _)); clear hq))
            go_ret2
            exact ⟨A6, c6, rfl, HO.out.rd, HGR.out⟩
        · have hzb : (z == 0) = false := beq_eq_false_iff_ne.2 h0
          have HF := HRD.out
          rw [if_pos h0] at HF
          injection HF with F1 F2
          subst F1 F2
          obtain rfl : N = 0 := HNN.out
          go_wp2_with (first
          | ((with_reducible refine (KE _ HR.out).out.mono ?_); rintro e8 w9 ⟨rfl, hrf, hg⟩; replace HO := Lib.hid (HO.out.other hg HBM.out); replace HGR := Lib.hid (HGR.out.trans hg); replace HP := Lib.hid (World.grownBy.cell hg HP.out HNE.out); replace HR := Lib.hid hrf; clear hrf hg p0; have p0 := HP.out) | ((with_reducible refine (KZ _ HR.out).out.mono ?_); rintro e8 w9 ⟨rfl, hrf, hg⟩; replace HO := Lib.hid (HO.out.other hg HBM.out); replace HGR := Lib.hid (HGR.out.trans hg); replace HP := Lib.hid (World.grownBy.cell hg HP.out HNE.out); replace HR := Lib.hid hrf; clear hrf hg p0; have p0 := HP.out) | ((with_reducible refine (KR _ (HO.out.rd)).out.mono ?_); rintro e8 w9 ⟨rfl, hq⟩; replace HO := Lib.hid (HO.out.below hq); replace HGR := Lib.hid (HGR.out.trans (grown_of_below hq _)); clear hq))
          go_ret2
          exact ⟨none, 0, rfl, Kind.Rd.nil _ _, HGR.out⟩
    · have HD := Lib.hid (HY.out.trans (by rw [manyR_end rngR (n - k) q (.inl (by omega)), List.append_nil]))
      obtain ⟨z, hz⟩ : ∃ z, endR q e = z := ⟨_, rfl⟩
      obtain ⟨v, hv⟩ : ∃ v, rightL dn = v := ⟨_, rfl⟩
      have KZ := fun (w' : World) (hr : RdAt w' b q e) => Lib.hid (hz ▸ rd_end (givenAt_some hr))
      have HRD := Lib.hid (HY1.out.symm.trans (allR2_of HW0.out (HY0.out.trans HD.out) hz hv))
      have hrd7 := hrd6
      have KR := fun (w' : World) (h : kRng.Rd w' w'.heap.size A6 c6 dn) => Lib.hid (rgs_right A6 c6 k dn HK.out v hv w' h)
      clear hz hv hrd6
      by_cases h0 : z = 0
      · subst h0
        cases v
        · have HF := HRD.out
          rw [if_neg (by decide)] at HF
          injection HF with F1 F2
          subst F1 F2
          obtain rfl : N = 0 := HNN.out
          go_wp2_with (first
          | ((with_reducible refine (KE _ HR.out).out.mono ?_); rintro e8 w9 ⟨rfl, hrf, hg⟩; replace HO := Lib.hid (HO.out.other hg HBM.out); replace HGR := Lib.hid (HGR.out.trans hg); replace HP := Lib.hid (World.grownBy.cell hg HP.out HNE.out); replace HR := Lib.hid hrf; clear hrf hg p0; have p0 := HP.out) | ((with_reducible refine (KZ _ HR.out).out.mono ?_); rintro e8 w9 ⟨rfl, hrf, hg⟩; replace HO := Lib.hid (HO.out.other hg HBM.out); replace HGR := Lib.hid (HGR.out.trans hg); replace HP := Lib.hid (World.grownBy.cell hg HP.out HNE.out); replace HR := Lib.hid hrf; clear hrf hg p0; have p0 := HP.out) | ((with_reducible refine (KR _ (HO.out.rd)).out.mono ?_); rintro e8 w9 ⟨rfl, hq⟩; replace HO := Lib.hid (HO.out.below hq); replace HGR := Lib.hid (HGR.out.trans (grown_of_below hq _)); clear hq))
          go_ret2
          exact ⟨none, 0, rfl, Kind.Rd.nil _ _, HGR.out⟩
        · have HF := HRD.out
          rw [if_neg (by decide)] at HF
          injection HF with F1 F2
          subst F1 F2
          obtain rfl : N = k := HNN.out.trans HK.out.symm
          go_wp2_with (first
          | ((with_reducible refine (KE _ HR.out).out.mono ?_); rintro e8 w9 ⟨rfl, hrf, hg⟩; replace HO := Lib.hid (HO.out.other hg HBM.out); replace HGR := Lib.hid (HGR.out.trans hg); replace HP := Lib.hid (World.grownBy.cell hg HP.out HNE.out); replace HR := Lib.hid hrf; clear hrf hg p0; have p0 := HP.out) | ((with_reducible refine (KZ _ HR.out).out.mono ?_); rintro e8 w9 ⟨rfl, hrf, hg⟩; replace HO := Lib.hid (HO.out.other hg HBM.out); replace HGR := Lib.hid (HGR.out.trans hg); replace HP := Lib.hid (World.grownBy.cell hg HP.out HNE.out); replace HR := Lib.hid hrf; clear hrf hg p0; have p0 := HP.out) | ((with_reducible refine (KR _ (HO.out.rd)).out.mono ?_); rintro e8 w9 ⟨rfl, hq⟩; replace HO := Lib.hid (HO.out.below hq); replace HGR := Lib.hid (HGR.out.trans (grown_of_below hq _)); clear hq))
          go_ret2
          exact ⟨A6, c6, rfl, HO.out.rd, HGR.out⟩
      · have hzb : (z == 0) = false := beq_eq_false_iff_ne.2 h0
        have HF := HRD.out
        rw [if_pos h0] at HF
        injection HF with F1 F2
        subst F1 F2
        obtain rfl : N = 0 := HNN.out
        go_wp2_with (first
          | ((with_reducible refine (KE _ HR.out).out.mono ?_); rintro e8 w9 ⟨rfl, hrf, hg⟩; replace HO := Lib.hid (HO.out.other hg HBM.out); replace HGR := Lib.hid (HGR.out.trans hg); replace HP := Lib.hid (World.grownBy.cell hg HP.out HNE.out); replace HR := Lib.hid hrf; clear hrf hg p0; have p0 := HP.out) | ((with_reducible refine (KZ _ HR.out).out.mono ?_); rintro e8 w9 ⟨rfl, hrf, hg⟩; replace HO := Lib.hid (HO.out.other hg HBM.out); replace HGR := Lib.hid (HGR.out.trans hg); replace HP := Lib.hid (World.grownBy.cell hg HP.out HNE.out); replace HR := Lib.hid hrf; clear hrf hg p0; have p0 := HP.out) | ((with_reducible refine (KR _ (HO.out.rd)).out.mono ?_); rintro e8 w9 ⟨rfl, hq⟩; replace HO := Lib.hid (HO.out.below hq); replace HGR := Lib.hid (HGR.out.trans (grown_of_below hq _)); clear hq))
        go_ret2
        exact ⟨none, 0, rfl, Kind.Rd.nil _ _, HGR.out⟩
set_option maxRecDepth 100000 in
set_option maxHeartbeats 8000000 in
theorem fcd_readn (b L N : Nat) (l : List UInt8) (hl : l.length ≤ L) (hL : L ≤ 200000) (y : List Nd) (x : Int) (hy : allR2 nodeRd 32 rightN l = (y, x)) (hN : N = y.length) (w : World) (hr : RdAt w b l 0) :
    Calls Try.prog 36 #[.agg #[.pointer (some ⟨b, 0, none⟩)], .int .i64 32, .func (.func 37) #[] #[], .func (.func 32) #[] #[]] w (fun e w' => ∃ A c, e = .returned (.tuple #[.slice A N c, .int .i64 x]) ∧ kNd.Rd w' w'.heap.size A c y ∧ w.grownBy w' (some b)) := by
  obtain ⟨n, q1, x1, h1⟩ : ∃ n q1 x1, withinR 0 32 l 0 = (n, q1, x1) := ⟨_, _, _, rfl⟩
  have hn9 : n ≤ 32 := by
    by_cases he : x1 = 0
    · subst he
      have := (withinR_back h1).2.2.2; omega
    · have h := withinR_same 0 32 l 0
      rw [h1] at h
      have := (h he).1
      simp only at this
      omega
  have hq1 : q1.length ≤ L := by have := withinR_len 0 32 l 0; rw [h1] at this; simp only at this; omega
  have W1 := fun (w' : World) (hf : RdAt w' b l 0) => Lib.hid (rd_within_q h1 hf (by omega))
  obtain ⟨M, hM⟩ : ∃ M, w.heap.size = M := ⟨_, rfl⟩
  have hbM : b < M := hM ▸ hr.lt
  have HMM := Lib.hid (show w.heap.size ≤ M + 1 by omega)
  have HBM := Lib.hid (show b < M + 1 by omega)
  have HNE := Lib.hid (show (some M : Option Nat) ≠ some b from fun e => by injection e with e; exact Nat.ne_of_gt hbM e)
  obtain ⟨w9, hw9⟩ : ∃ w9, w9 = w.alloc (.cells #[.pointer (some ⟨b, 0, none⟩)] 69) := ⟨_, rfl⟩
  have HR := Lib.hid (show RdAt w9 b l 0 by rw [hw9]; exact heap_old _ hr)
  have HGR := Lib.hid (show w.grownBy w9 (some b) by rw [hw9]; exact grown_alloc (World.grownBy.refl _ _) _)
  have p0 : w9.cell? ⟨M, 0, none⟩ = some (.pointer (some ⟨b, 0, none⟩)) := by
    rw [hw9, cell_of_row _ _ _ _ _ _ (heap_new w _ _ hM.symm)]; rfl
  have HP := Lib.hid p0
  have HW0 := Lib.hid h1
  have HQ1 := Lib.hid hq1
  have HY1 := Lib.hid hy
  have HNN := Lib.hid hN
  obtain ⟨Y, hY⟩ : ∃ Y, manyR nodeRd n q1 x1 = Y := ⟨_, rfl⟩
  have HY0 := Lib.hid hY
  have eg := enters_of Try.func37 (by kernel_rfl) rfl
  have eg2 := enters_of Try.func32 (by kernel_rfl) rfl
  clear hr h1 hq1 hy hN hY hbM
  go_enter Try.func36, Try.ntmps36
  go_upto_region 1 with fail
  rw [← hw9]
  clear hw9 hM
  go_upto_region 2 with ((with_reducible refine (W1 _ HR.out).out.mono ?_); rintro e8 w9 ⟨rfl, hrf, hg⟩; replace HGR := Lib.hid (HGR.out.trans hg); replace HP := Lib.hid (World.grownBy.cell hg HP.out HNE.out); replace HR := Lib.hid hrf; clear hrf hg p0; have p0 := HP.out)
  clear W1
  go_wp2_with fail
  go_loopw [11] (fun v wr => ∃ (k : Nat) (q : List UInt8) (e : Int) (dn : List Nd), k ≤ n ∧ Hid (k = dn.length) ∧ Hid (q.length ≤ L) ∧ Hid (Y = (dn ++ (manyR nodeRd (n - k) q e).1, (manyR nodeRd (n - k) q e).2)) ∧ Hid (RdAt wr b q e) ∧ Hid (kNd.Own wr (M + 1) v dn) ∧ Hid (w.grownBy wr (some b)) ∧ Hid (wr.cell? ⟨M, 0, none⟩ = some (.pointer (some ⟨b, 0, none⟩)))) (fun v _ => n - lenOf v)
  case atStart => exact ⟨0, q1, x1, [], by omega, rfl, HQ1, by rw [Nat.sub_zero, HY0.out]; rfl, HR, Kind.Own.nil _ _, HGR, HP⟩
  case round =>
    clear HR HGR HP p0
    obtain ⟨k, q, e, dn, hk, HK, HQ, HY, HR, HO, HGR, HP⟩ := hrel
    have p0 := HP.out
    obtain ⟨A6, c6, rfl, hrd6⟩ := HO.out.read_n HK.out
    have KE := fun (w' : World) (hr : RdAt w' b q e) => Lib.hid (rd_err (givenAt_some hr))
    have hkc : k ≤ c6 := by rw [HK.out]; exact hrd6.room
    by_cases hlt : k < n
    · by_cases he : e = 0
      · subst he
        obtain ⟨g, r, e2, hg9⟩ : ∃ g r e2, nodeRd q 0 = (g, r, e2) := ⟨_, _, _, rfl⟩
        obtain ⟨S, hS⟩ : ∃ S, str g.lo = S := ⟨_, rfl⟩
        obtain ⟨U, hT⟩ : ∃ T, str g.hi = T := ⟨_, rfl⟩
        obtain ⟨O, hO⟩ : ∃ o, g.op = o := ⟨_, rfl⟩
        obtain ⟨Q, hQ⟩ : ∃ o, g.kids = o := ⟨_, rfl⟩
        have KN := fun (w' : World) (hr : RdAt w' b q 0) => Lib.hid (fcd_nextn b q r 0 e2 g hg9 O Q S U ⟨hO, hQ, hS, hT⟩ (by have := HQ.out; omega) w' hr)
        have HSTEP := Lib.hid (show manyR nodeRd (n - k) q 0 = _ from (manyR_step nodeRd hlt q).trans (by rw [hg9]))
        have HQ2 := Lib.hid (show r.length ≤ L by have := (nodeRd_size q 0 HQ.out).2; rw [hg9] at this; exact this)
        have HLE := Lib.hid (show dn.length + [g].length ≤ 1000000 by rw [← HK.out, List.length_singleton]; omega)
        have HRW := fun W : World => Lib.hid (fcd_nd_row W g O Q S U ⟨hO, hQ, hS, hT⟩)
        clear hg9 hrd6 hS hT hO hQ
        go_wp2_with (first
          | ((with_reducible refine (KE _ HR.out).out.mono ?_); rintro e8 w9 ⟨rfl, hrf, hg⟩; replace HO := Lib.hid (HO.out.other hg HBM.out); replace HGR := Lib.hid (HGR.out.trans hg); replace HP := Lib.hid (World.grownBy.cell hg HP.out HNE.out); replace HR := Lib.hid hrf; clear hrf hg p0; have p0 := HP.out)
          | ((with_reducible refine (KN _ HR.out).out.mono ?_); rintro e8 w9 ⟨rfl, hrf, hg⟩; replace HO := Lib.hid (HO.out.other hg HBM.out); replace HGR := Lib.hid (HGR.out.trans hg); replace HP := Lib.hid (World.grownBy.cell hg HP.out HNE.out); replace HR := Lib.hid hrf; clear hrf hg p0; have p0 := HP.out)
          | (at_builtin; refine wpList_app_k kNd rfl (.tmp 27) (.tmp 31) rfl (M + 1) _ dn rfl (Kind.Own.alloc HO.out _) _ (some ⟨w9.heap.size, 0, none⟩) 1 1 [g] rfl rfl (HRW w9).out HLE.out (by decide) (by have := World.block_lt_of_cell? w9 _ HP.out; rw [size1]; exact Nat.le_succ_of_le this) ?_; intro v3 w3 hown3 hg3 hb3 _; have HV := HO.out.lt; obtain ⟨A7, c7, rfl, -⟩ := hown3.read_n (n := k + 1) (by rw [List.length_append, ← HK.out]; rfl); replace HO := Lib.hid hown3; have HP3 := Lib.hid (World.grownBy.cell hg3 (show (w9.alloc _).cell? ⟨M, 0, none⟩ = _ from (alloc_keeps _ _ _ _ (World.block_lt_of_cell? w9 _ HP.out)).trans HP.out) (fun e => by have := (HV _ e.symm).1; exact absurd this (by show ¬ (M + 1 ≤ M); omega))); have HR3 := Lib.hid (RdAt.kept (heap_old _ HR.out) hg3 (fun e => by have := (HV _ e.symm).1; have := HBM.out; omega)); have HGR3 := Lib.hid (grown_below (grown_alloc HGR.out _) hb3 HMM.out); clear hown3 hg3 hb3 HV))
        go_roundw
        case rel => exact ⟨k + 1, r, e2, dn ++ [g], by omega, by rw [List.length_append, ← HK.out]; rfl, HQ2, Lib.hid (by rw [HY.out, HSTEP.out, List.append_assoc]; rfl), HR3, HO, HGR3, HP3⟩
        case measure => simp [lenOf]; omega
      · have heb : (e == 0) = false := beq_eq_false_iff_ne.2 he
        have HD := Lib.hid (HY.out.trans (by rw [manyR_end nodeRd (n - k) q (.inr he), List.append_nil]))
        obtain ⟨z, hz⟩ : ∃ z, endR q e = z := ⟨_, rfl⟩
        obtain ⟨v, hv⟩ : ∃ v, rightN dn = v := ⟨_, rfl⟩
        have KZ := fun (w' : World) (hr : RdAt w' b q e) => Lib.hid (hz ▸ rd_end (givenAt_some hr))
        have HRD := Lib.hid (HY1.out.symm.trans (allR2_of HW0.out (HY0.out.trans HD.out) hz hv))
        have hrd7 := hrd6
        have HALL := Lib.hid (show ∀ r ∈ dn, r.lo.length ≤ 1000000 from by
          have := manyR_all (f := nodeRd) (p := fun r => r.lo.length ≤ L ∧ r.hi.length ≤ L) (fun l e h => nodeRd_size l e h) n q1 x1 HQ1.out
          rw [HY0.out, HD.out] at this
          exact fun r hr => by have := (this r hr).1; omega)
        have KR := fun (w' : World) (h : kNd.Rd w' w'.heap.size A6 c6 dn) => Lib.hid (flt_right A6 c6 k dn HK.out HALL.out v hv w' h)
        clear hz hv hrd6
        by_cases h0 : z = 0
        · subst h0
          cases v
          · have HF := HRD.out
            rw [if_neg (by decide)] at HF
            injection HF with F1 F2
            subst F1 F2
            obtain rfl : N = 0 := HNN.out
            go_wp2_with (first
          | ((with_reducible refine (KE _ HR.out).out.mono ?_); rintro e8 w9 ⟨rfl, hrf, hg⟩; replace HO := Lib.hid (HO.out.other hg HBM.out); replace HGR := Lib.hid (HGR.out.trans hg); replace HP := Lib.hid (World.grownBy.cell hg HP.out HNE.out); replace HR := Lib.hid hrf; clear hrf hg p0; have p0 := HP.out) | ((with_reducible refine (KZ _ HR.out).out.mono ?_); rintro e8 w9 ⟨rfl, hrf, hg⟩; replace HO := Lib.hid (HO.out.other hg HBM.out); replace HGR := Lib.hid (HGR.out.trans hg); replace HP := Lib.hid (World.grownBy.cell hg HP.out HNE.out); replace HR := Lib.hid hrf; clear hrf hg p0; have p0 := HP.out) | ((with_reducible refine (KR _ (HO.out.rd)).out.mono ?_); rintro e8 w9 ⟨rfl, hq⟩; replace HO := Lib.hid (HO.out.below hq); replace HGR := Lib.hid (HGR.out.trans (grown_of_below hq _)); clear hq))
            go_ret2
            exact ⟨none, 0, rfl, Kind.Rd.nil _ _, HGR.out⟩
          · have HF := HRD.out
            rw [if_neg (by decide)] at HF
            injection HF with F1 F2
            subst F1 F2
            obtain rfl : N = k := HNN.out.trans HK.out.symm
            go_wp2_with (first
          | ((with_reducible refine (KE _ HR.out).out.mono ?_); rintro e8 w9 ⟨rfl, hrf, hg⟩; replace HO := Lib.hid (HO.out.other hg HBM.out); replace HGR := Lib.hid (HGR.out.trans hg); replace HP := Lib.hid (World.grownBy.cell hg HP.out HNE.out); replace HR := Lib.hid hrf; clear hrf hg p0; have p0 := HP.out) | ((with_reducible refine (KZ _ HR.out).out.mono ?_); rintro e8 w9 ⟨rfl, hrf, hg⟩; replace HO := Lib.hid (HO.out.other hg HBM.out); replace HGR := Lib.hid (HGR.out.trans hg); replace HP := Lib.hid (World.grownBy.cell hg HP.out HNE.out); replace HR := Lib.hid hrf; clear hrf hg p0; have p0 := HP.out) | ((with_reducible refine (KR _ (HO.out.rd)).out.mono ?_); rintro e8 w9 ⟨rfl, hq⟩; replace HO := Lib.hid (HO.out.below hq); replace HGR := Lib.hid (HGR.out.trans (grown_of_below hq _)); clear hq))
            go_ret2
            exact ⟨A6, c6, rfl, HO.out.rd, HGR.out⟩
        · have hzb : (z == 0) = false := beq_eq_false_iff_ne.2 h0
          have HF := HRD.out
          rw [if_pos h0] at HF
          injection HF with F1 F2
          subst F1 F2
          obtain rfl : N = 0 := HNN.out
          go_wp2_with (first
          | ((with_reducible refine (KE _ HR.out).out.mono ?_); rintro e8 w9 ⟨rfl, hrf, hg⟩; replace HO := Lib.hid (HO.out.other hg HBM.out); replace HGR := Lib.hid (HGR.out.trans hg); replace HP := Lib.hid (World.grownBy.cell hg HP.out HNE.out); replace HR := Lib.hid hrf; clear hrf hg p0; have p0 := HP.out) | ((with_reducible refine (KZ _ HR.out).out.mono ?_); rintro e8 w9 ⟨rfl, hrf, hg⟩; replace HO := Lib.hid (HO.out.other hg HBM.out); replace HGR := Lib.hid (HGR.out.trans hg); replace HP := Lib.hid (World.grownBy.cell hg HP.out HNE.out); replace HR := Lib.hid hrf; clear hrf hg p0; have p0 := HP.out) | ((with_reducible refine (KR _ (HO.out.rd)).out.mono ?_); rintro e8 w9 ⟨rfl, hq⟩; replace HO := Lib.hid (HO.out.below hq); replace HGR := Lib.hid (HGR.out.trans (grown_of_below hq _)); clear hq))
          go_ret2
          exact ⟨none, 0, rfl, Kind.Rd.nil _ _, HGR.out⟩
    · have HD := Lib.hid (HY.out.trans (by rw [manyR_end nodeRd (n - k) q (.inl (by omega)), List.append_nil]))
      obtain ⟨z, hz⟩ : ∃ z, endR q e = z := ⟨_, rfl⟩
      obtain ⟨v, hv⟩ : ∃ v, rightN dn = v := ⟨_, rfl⟩
      have KZ := fun (w' : World) (hr : RdAt w' b q e) => Lib.hid (hz ▸ rd_end (givenAt_some hr))
      have HRD := Lib.hid (HY1.out.symm.trans (allR2_of HW0.out (HY0.out.trans HD.out) hz hv))
      have hrd7 := hrd6
      have HALL := Lib.hid (show ∀ r ∈ dn, r.lo.length ≤ 1000000 from by
        have := manyR_all (f := nodeRd) (p := fun r => r.lo.length ≤ L ∧ r.hi.length ≤ L) (fun l e h => nodeRd_size l e h) n q1 x1 HQ1.out
        rw [HY0.out, HD.out] at this
        exact fun r hr => by have := (this r hr).1; omega)
      have KR := fun (w' : World) (h : kNd.Rd w' w'.heap.size A6 c6 dn) => Lib.hid (flt_right A6 c6 k dn HK.out HALL.out v hv w' h)
      clear hz hv hrd6
      by_cases h0 : z = 0
      · subst h0
        cases v
        · have HF := HRD.out
          rw [if_neg (by decide)] at HF
          injection HF with F1 F2
          subst F1 F2
          obtain rfl : N = 0 := HNN.out
          go_wp2_with (first
          | ((with_reducible refine (KE _ HR.out).out.mono ?_); rintro e8 w9 ⟨rfl, hrf, hg⟩; replace HO := Lib.hid (HO.out.other hg HBM.out); replace HGR := Lib.hid (HGR.out.trans hg); replace HP := Lib.hid (World.grownBy.cell hg HP.out HNE.out); replace HR := Lib.hid hrf; clear hrf hg p0; have p0 := HP.out) | ((with_reducible refine (KZ _ HR.out).out.mono ?_); rintro e8 w9 ⟨rfl, hrf, hg⟩; replace HO := Lib.hid (HO.out.other hg HBM.out); replace HGR := Lib.hid (HGR.out.trans hg); replace HP := Lib.hid (World.grownBy.cell hg HP.out HNE.out); replace HR := Lib.hid hrf; clear hrf hg p0; have p0 := HP.out) | ((with_reducible refine (KR _ (HO.out.rd)).out.mono ?_); rintro e8 w9 ⟨rfl, hq⟩; replace HO := Lib.hid (HO.out.below hq); replace HGR := Lib.hid (HGR.out.trans (grown_of_below hq _)); clear hq))
          go_ret2
          exact ⟨none, 0, rfl, Kind.Rd.nil _ _, HGR.out⟩
        · have HF := HRD.out
          rw [if_neg (by decide)] at HF
          injection HF with F1 F2
          subst F1 F2
          obtain rfl : N = k := HNN.out.trans HK.out.symm
          go_wp2_with (first
          | ((with_reducible refine (KE _ HR.out).out.mono ?_); rintro e8 w9 ⟨rfl, hrf, hg⟩; replace HO := Lib.hid (HO.out.other hg HBM.out); replace HGR := Lib.hid (HGR.out.trans hg); replace HP := Lib.hid (World.grownBy.cell hg HP.out HNE.out); replace HR := Lib.hid hrf; clear hrf hg p0; have p0 := HP.out) | ((with_reducible refine (KZ _ HR.out).out.mono ?_); rintro e8 w9 ⟨rfl, hrf, hg⟩; replace HO := Lib.hid (HO.out.other hg HBM.out); replace HGR := Lib.hid (HGR.out.trans hg); replace HP := Lib.hid (World.grownBy.cell hg HP.out HNE.out); replace HR := Lib.hid hrf; clear hrf hg p0; have p0 := HP.out) | ((with_reducible refine (KR _ (HO.out.rd)).out.mono ?_); rintro e8 w9 ⟨rfl, hq⟩; replace HO := Lib.hid (HO.out.below hq); replace HGR := Lib.hid (HGR.out.trans (grown_of_below hq _)); clear hq))
          go_ret2
          exact ⟨A6, c6, rfl, HO.out.rd, HGR.out⟩
      · have hzb : (z == 0) = false := beq_eq_false_iff_ne.2 h0
        have HF := HRD.out
        rw [if_pos h0] at HF
        injection HF with F1 F2
        subst F1 F2
        obtain rfl : N = 0 := HNN.out
        go_wp2_with (first
          | ((with_reducible refine (KE _ HR.out).out.mono ?_); rintro e8 w9 ⟨rfl, hrf, hg⟩; replace HO := Lib.hid (HO.out.other hg HBM.out); replace HGR := Lib.hid (HGR.out.trans hg); replace HP := Lib.hid (World.grownBy.cell hg HP.out HNE.out); replace HR := Lib.hid hrf; clear hrf hg p0; have p0 := HP.out) | ((with_reducible refine (KZ _ HR.out).out.mono ?_); rintro e8 w9 ⟨rfl, hrf, hg⟩; replace HO := Lib.hid (HO.out.other hg HBM.out); replace HGR := Lib.hid (HGR.out.trans hg); replace HP := Lib.hid (World.grownBy.cell hg HP.out HNE.out); replace HR := Lib.hid hrf; clear hrf hg p0; have p0 := HP.out) | ((with_reducible refine (KR _ (HO.out.rd)).out.mono ?_); rintro e8 w9 ⟨rfl, hq⟩; replace HO := Lib.hid (HO.out.below hq); replace HGR := Lib.hid (HGR.out.trans (grown_of_below hq _)); clear hq))
        go_ret2
        exact ⟨none, 0, rfl, Kind.Rd.nil _ _, HGR.out⟩
end Go.Proofs.Ytohdncmlmpnfbaa

/-
  The laws of layer 10: what the program's functions do, as they ask it.
-/
namespace Go.Proofs.Ytohdncmlmpnfbaa
open Go.RowKit

set_option maxHeartbeats 1000000 in
theorem k_fput : PutC kRng (SmallL 60) rightL rngsB 8 := fun A c n a hn hs => by
  have hn9 : n ≤ 60 := by rw [hn]; exact hs.1
  refine ⟨fun hv N l hl hN w hr => ?_, fun hv w hr => ?_⟩
  · have C1 := Lib.hid (rgs_right A c n a hn true hv w hr)
    have C2 := fun (w' : World) (h : kRng.Rd w' w'.heap.size A c a) => Lib.hid (fcd_putr A c n a hn hn9 hs.2 N l (by rw [hn]; exact hl) hN.symm w' h)
    have HR := Lib.hid hr
    clear hn hs hl hN hr
    go_enter Try.func8, Try.ntmps8
    go_wp2_with (first
      | ((with_reducible refine C1.out.mono ?_); rintro e w1 ⟨rfl, hq⟩; replace HR := Lib.hid (HR.out.call hq); have HB := Lib.hid hq; clear hq)
      | ((with_reducible refine (C2 _ HR.out).out.mono ?_); rintro e w2 ⟨A2, c2, rfl, -, hrd, hq⟩; have H2 := Lib.hid hrd; replace HB := Lib.hid (HB.out.trans (hq.mono HB.out.size)); clear hrd hq))
    go_ret2
    exact ⟨A2, c2, rfl, H2.out, HB.out⟩
  · have C1 := Lib.hid (rgs_right A c n a hn false hv w hr)
    clear hn hs hr
    go_enter Try.func8, Try.ntmps8
    go_wp2_with ((with_reducible refine C1.out.mono ?_); rintro e w1 ⟨rfl, hq⟩; have HB := Lib.hid hq; clear hq)
    go_ret2
    exact ⟨none, 0, rfl, rdB_nil _ _, HB.out⟩
set_option maxHeartbeats 1000000 in
theorem k_nput : PutC kNd (SmallN 60) rightN filterB 15 := fun A c n a hn hs => by
  have hn9 : n ≤ 60 := by rw [hn]; exact hs.1
  have hll : ∀ r ∈ a, r.lo.length ≤ 1000000 := fun r hr => by have := (hs.2 r hr).1; omega
  refine ⟨fun hv N l hl hN w hr => ?_, fun hv w hr => ?_⟩
  · have C1 := Lib.hid (flt_right A c n a hn hll true hv w hr)
    have C2 := fun (w' : World) (h : kNd.Rd w' w'.heap.size A c a) => Lib.hid (fcd_putn A c n a hn hn9 hs.2 (rightN_all hv) N l (by rw [hn]; exact hl) hN.symm w' h)
    have HR := Lib.hid hr
    clear hn hs hl hN hr hll
    go_enter Try.func15, Try.ntmps15
    go_wp2_with (first
      | ((with_reducible refine C1.out.mono ?_); rintro e w1 ⟨rfl, hq⟩; replace HR := Lib.hid (HR.out.call hq); have HB := Lib.hid hq; clear hq)
      | ((with_reducible refine (C2 _ HR.out).out.mono ?_); rintro e w2 ⟨A2, c2, rfl, -, hrd, hq⟩; have H2 := Lib.hid hrd; replace HB := Lib.hid (HB.out.trans (hq.mono HB.out.size)); clear hrd hq))
    go_ret2
    exact ⟨A2, c2, rfl, H2.out, HB.out⟩
  · have C1 := Lib.hid (flt_right A c n a hn hll false hv w hr)
    clear hn hs hr hll
    go_enter Try.func15, Try.ntmps15
    go_wp2_with ((with_reducible refine C1.out.mono ?_); rintro e w1 ⟨rfl, hq⟩; have HB := Lib.hid hq; clear hq)
    go_ret2
    exact ⟨none, 0, rfl, rdB_nil _ _, HB.out⟩
set_option maxHeartbeats 1000000 in
theorem k_fread : ReadC kRng readRs 10 := fun A c n b hn hn9 N y x hy hN w hr => by
  obtain ⟨M, hM⟩ : ∃ M, w.heap.size = M := ⟨_, rfl⟩
  have C1 := Lib.hid (show Calls Try.prog 28 #[.slice A n c] w fun e w' => e = .returned (.pointer (some ⟨M, 0, none⟩)) ∧ RdAt w' M b 0 ∧ Below M w w' by
    subst hn hM
    exact varint_new A c w.heap.size b w hr)
  have C2 := fun (w' : World) (h : RdAt w' M b 0) => Lib.hid (fcd_readr M n N b (Nat.le_of_eq hn.symm) hn9 y x hy hN.symm w' h)
  have HM := Lib.hid hM
  clear hy hN hr hM hn9 hn
  go_enter Try.func10, Try.ntmps10
  go_wp2_with (first
    | ((with_reducible refine C1.out.mono ?_); rintro e w1 ⟨rfl, hr, hq⟩; have HR := Lib.hid hr; have HB := Lib.hid hq; clear hr hq)
    | ((with_reducible refine (C2 _ HR.out).out.mono ?_); rintro e w2 ⟨A2, c2, rfl, hrd, hg⟩; have H2 := Lib.hid hrd; replace HB := Lib.hid (below_row HB.out hg (Nat.le_refl _) (Nat.le_of_lt HR.out.lt)); clear hrd hg))
  go_ret2
  exact ⟨A2, c2, rfl, H2.out, by rw [HM.out]; exact HB.out⟩
set_option maxHeartbeats 1000000 in
theorem k_nread : ReadC kNd readF 17 := fun A c n b hn hn9 N y x hy hN w hr => by
  obtain ⟨M, hM⟩ : ∃ M, w.heap.size = M := ⟨_, rfl⟩
  have C1 := Lib.hid (show Calls Try.prog 28 #[.slice A n c] w fun e w' => e = .returned (.pointer (some ⟨M, 0, none⟩)) ∧ RdAt w' M b 0 ∧ Below M w w' by
    subst hn hM
    exact varint_new A c w.heap.size b w hr)
  have C2 := fun (w' : World) (h : RdAt w' M b 0) => Lib.hid (fcd_readn M n N b (Nat.le_of_eq hn.symm) hn9 y x hy hN.symm w' h)
  have HM := Lib.hid hM
  clear hy hN hr hM hn9 hn
  go_enter Try.func17, Try.ntmps17
  go_wp2_with (first
    | ((with_reducible refine C1.out.mono ?_); rintro e w1 ⟨rfl, hr, hq⟩; have HR := Lib.hid hr; have HB := Lib.hid hq; clear hr hq)
    | ((with_reducible refine (C2 _ HR.out).out.mono ?_); rintro e w2 ⟨A2, c2, rfl, hrd, hg⟩; have H2 := Lib.hid hrd; replace HB := Lib.hid (below_row HB.out hg (Nat.le_refl _) (Nat.le_of_lt HR.out.lt)); clear hrd hg))
  go_ret2
  exact ⟨A2, c2, rfl, H2.out, by rw [HM.out]; exact HB.out⟩
end Go.Proofs.Ytohdncmlmpnfbaa

/-
  Words for bytes in pieces: a row of slices of bytes that is read.
-/
namespace Go.Proofs.Ytohdncmlmpnfbaa
open Go.RowKit

/-- Bytes in pieces: each a slice. -/
abbrev Piece := Option Addr × Nat × List UInt8
abbrev pieceV (p : Piece) : Value := .slice p.1 p.2.2.length p.2.1
abbrev pieces (l : List Piece) : List Value := l.map pieceV
def allP (l : List Piece) : List UInt8 := l.flatMap fun p => p.2.2
theorem allP_snoc (l : List Piece) (p : Piece) : allP (l ++ [p]) = allP l ++ p.2.2 := by simp [allP]
theorem take_snoc_piece (l : List Piece) (k : Nat) (h : k < l.length) : l.take (k + 1) = l.take k ++ [l.getD k (none, 0, [])] := by
  rw [List.take_succ_eq_append_getElem h]; simp [List.getD, List.getElem?_eq_getElem h]
theorem pieces_get {l : List Piece} {k : Nat} (h : k < l.length) : (pieces l)[k]? = some (pieceV (l.getD k (none, 0, []))) := by
  simp [pieces, List.getD, List.getElem?_eq_getElem h]
theorem RowAt.pieces_at {w : World} {B : Nat} {A : Option Addr} {l : List Piece} (h : RowAt w B A (pieces l)) (hp : 0 < l.length) :
    ∃ b o, A = some ⟨b, o, none⟩ ∧ b < B ∧ ∀ k, k < l.length → w.cell? ⟨b, o + k, none⟩ = some (pieceV (l.getD k (none, 0, []))) := by
  rcases h with h | ⟨b, o, h1, h2, h3⟩
  · have : l = [] := by simpa [pieces] using h
    subst this; simp at hp
  · exact ⟨b, o, h1, h2, fun k hk => h3 k _ (pieces_get hk)⟩
theorem getD_mem {l : List Piece} {k : Nat} (h : k < l.length) : l.getD k (none, 0, []) ∈ l := by
  simp [List.getD, List.getElem?_eq_getElem h]
/-- Pieces that read. -/
structure RdP (w : World) (B B2 : Nat) (A : Option Addr) (l : List Piece) : Prop where
  row : RowAt w B A (pieces l)
  each : ∀ p ∈ l, RdB w B2 p.1 p.2.1 p.2.2
theorem RdP.below {w w' : World} {B : Nat} {A : Option Addr} {l : List Piece} (h : RdP w B B A l) (hb : Below B w w') : RdP w' B B A l := ⟨h.row.below hb, fun p hp => (h.each p hp).below hb⟩
end Go.Proofs.Ytohdncmlmpnfbaa

/-
  What came in, opened: cells of slices, a slice of slices of bytes, numbers of unsigned kinds.
-/
namespace Go.Proofs.Ytohdncmlmpnfbaa
open Go.ChangeShapes Go.WideShapes Go.ChangeAt Go.RowKit

section
variable {H : Type} {enc : TypeId × Value → H} {W : World} {base : Nat}

set_option maxRecDepth 100000 in
/-- The cells of a slice, whatever its elements: each is what E says of some x that is good. -/
theorem cells_slice {α : Type} (E : α → List Value) (Good : α → Prop) {t e : TypeId} {k fuel : Nat} {cs : List Value} {y : DataW H × List MemPlace} (ht : Try.prog.underlying t = some (.slice e)) (hc : Try.prog.cellsOf e = k) (hk : 0 < k)
    (hE : ∀ (n : Nat) (cs : List Value) (y : DataW H × List MemPlace), cs.length = k → DataW.trod enc Try.prog W 0 (fun _ => true) true n e cs = some y → ∃ x, cs = E x ∧ Good x)
    (hf : DataW.trod enc Try.prog W 0 (fun _ => true) true fuel t cs = some y) :
    ∃ (A : Option Addr) (c : Nat) (l : List α), cs = [.slice A l.length c] ∧ RowAt W W.heap.size A (l.flatMap E) ∧ (∀ x ∈ l, Good x) ∧ l.length ≤ c ∧ c ≤ maxLen := by
  rcases Go.Deep.open_slice ht hf with ⟨hcs, -⟩ | ⟨x, len, cap, m, n, D, Pl, hcs, -, hl, hm, hmm, -, hi⟩
  · exact ⟨none, 0, [], hcs, RowAt.nil _ _ _, by intro x hx; simp at hx, Nat.le_refl _, Nat.zero_le _⟩
  · simp only [if_true] at hmm
    subst hmm
    have each : ∀ i, i < len → ∃ y : α, Good y ∧ (E y).length = k ∧ ∀ r, r < k → W.cell? (x.add (i * k + r)) = (E y)[r]? := by
      intro i hil
      obtain ⟨cs', h1, h2⟩ := hi i (by omega)
      obtain ⟨_, h4, h5⟩ := World.cells?_some h1
      rw [hc] at h4 h5
      obtain ⟨y, rfl, hg⟩ := hE n cs' _ h4 h2
      refine ⟨y, hg, h4, fun r hr => ?_⟩
      rw [← h5 r hr, Go.Deep.add_add]
    rcases Nat.eq_zero_or_pos len with h0 | h0
    · subst h0
      exact ⟨some x, m, [], hcs, .inl rfl, by intro x hx; simp at hx, by simp, hm⟩
    · have hne : Nonempty α := by obtain ⟨y, _⟩ := each 0 h0; exact ⟨y⟩
      have hch : ∃ f : Nat → α, ∀ i, i < len → Good (f i) ∧ (E (f i)).length = k ∧ ∀ r, r < k → W.cell? (x.add (i * k + r)) = (E (f i))[r]? :=
        ⟨fun i => if hi : i < len then (each i hi).choose else Classical.choice hne, fun i hi => by have := (each i hi).choose_spec; simpa only [dif_pos hi] using this⟩
      obtain ⟨f, hf⟩ := hch
      have hcell0 := (hf 0 h0).2.2 0 hk
      rw [List.getElem?_eq_getElem (by rw [(hf 0 h0).2.1]; exact hk)] at hcell0
      obtain ⟨b, o, spot⟩ := x
      have hspot : spot = none := by simpa [Addr.add] using World.cell?_spot hcell0
      subst hspot
      have hb : b < W.heap.size := by
        rw [Go.WideShapes.add_plain] at hcell0
        exact World.block_lt_of_cell? W _ hcell0
      refine ⟨some ⟨b, o, none⟩, m, (List.range len).map f, by simpa using hcs, .inr ⟨b, o, rfl, hb, fun j u hu => ?_⟩, ?_, by simp; omega, hm⟩
      · obtain ⟨i, r, rfl, hr, y, hy, hyu⟩ := flat_get E k _ (fun y hy => by
          simp only [List.mem_map, List.mem_range] at hy
          obtain ⟨i, hi, rfl⟩ := hy
          exact (hf i hi).2.1) j u hu
        rw [List.getElem?_map] at hy
        rcases Nat.lt_or_ge i len with hil | hil
        · rw [List.getElem?_range hil] at hy
          simp at hy
          subst hy
          have := (hf i hil).2.2 r hr
          rw [Go.WideShapes.add_plain] at this
          rw [this, hyu]
        · rw [List.getElem?_eq_none (by simpa using hil)] at hy
          simp at hy
      · intro y hy
        simp only [List.mem_map, List.mem_range] at hy
        obtain ⟨i, hi, rfl⟩ := hy
        exact (hf i hi).1

set_option maxRecDepth 100000 in
/-- Bytes, as a cell that was read. -/
theorem cells_bytes {t e : TypeId} {fuel : Nat} {cs : List Value} {y : DataW H × List MemPlace} (ht : Try.prog.underlying t = some (.slice e)) (he : Try.prog.underlying e = some (.int .u8)) (hc : Try.prog.cellsOf e = 1)
    (hf : DataW.trod enc Try.prog W 0 (fun _ => true) true fuel t cs = some y) : ∃ p : Piece, cs = [pieceV p] ∧ RdB W W.heap.size p.1 p.2.1 p.2.2 := by
  obtain ⟨A, c, l, rfl, h1, -, h3, h4⟩ := cells_slice (fun x : UInt8 => [Value.int .u8 (x.toNat : Int)]) (fun _ => True) ht hc Nat.one_pos (fun n cs y _ hy => by
    obtain ⟨x, rfl, -, hw⟩ := DataW.trod_int he hy
    have hb : 0 ≤ x ∧ x ≤ 255 := by simpa [Lit.wf, IntKind.min, IntKind.max, IntKind.signed, IntKind.bits] using hw
    exact ⟨UInt8.ofNat x.toNat, by simp; omega, trivial⟩) hf
  refine ⟨(A, c, l), rfl, ?_, h3, h4⟩
  show RowAt W W.heap.size A (bytes l)
  rw [show bytes l = l.flatMap (fun x : UInt8 => [Value.int .u8 (x.toNat : Int)]) from (flat_one _ l).symm]
  exact h1

set_option maxRecDepth 100000 in
/-- Slices of bytes that came in. -/
theorem in_pieces {t e b : TypeId} {v : Value} {d : DataW H} {p : List MemPlace} (ht : Try.prog.underlying t = some (.slice e)) (he : Try.prog.underlying e = some (.slice b)) (hb : Try.prog.underlying b = some (.int .u8)) (hc : Try.prog.cellsOf e = 1) (hcb : Try.prog.cellsOf b = 1)
    (hok : Value.okWide Try.prog W .any base t v) (h : DataW.Trod enc Try.prog W 0 (fun _ => true) true t v d p) :
    ∃ (A : Option Addr) (c : Nat) (l : List Piece), v = .slice A l.length c ∧ RdP W W.heap.size W.heap.size A l ∧ l.length ≤ c ∧ c ≤ maxLen := by
  obtain ⟨A, c, l, rfl, h1, h2, h3, h4⟩ := in_slice (fun x : Piece => [pieceV x]) (fun x => RdB W W.heap.size x.1 x.2.1 x.2.2) ht hc Nat.one_pos (fun n cs y _ hy => cells_bytes he hb hcb hy) hok h
  refine ⟨A, c, l, rfl, ⟨?_, h2⟩, h3, h4⟩
  rw [show pieces l = l.flatMap (fun x : Piece => [pieceV x]) from (flat_one _ l).symm]
  exact h1
set_option maxRecDepth 100000 in
/-- A number of some unsigned kind that came in. -/
theorem in_u16 {t : TypeId} {v : Value} {d : DataW H} {p : List MemPlace} (ht : Try.prog.underlying t = some (.int .u16)) (hok : Value.okWide Try.prog W .any base t v) (h : DataW.Trod enc Try.prog W 0 (fun _ => true) true t v d p) :
    ∃ x : Nat, v = .int .u16 (x : Int) ∧ x < 65536 := by
  obtain ⟨x, rfl, -, -, wx⟩ := open_int ht hok h
  have hb : 0 ≤ x ∧ x ≤ 65535 := by simpa [Lit.wf, IntKind.min, IntKind.max, IntKind.signed, IntKind.bits] using wx
  obtain ⟨n, rfl⟩ := Int.eq_ofNat_of_zero_le hb.1
  exact ⟨n, rfl, by omega⟩
set_option maxRecDepth 100000 in
theorem in_u32 {t : TypeId} {v : Value} {d : DataW H} {p : List MemPlace} (ht : Try.prog.underlying t = some (.int .u32)) (hok : Value.okWide Try.prog W .any base t v) (h : DataW.Trod enc Try.prog W 0 (fun _ => true) true t v d p) :
    ∃ x : Nat, v = .int .u32 (x : Int) ∧ x < 4294967296 := by
  obtain ⟨x, rfl, -, -, wx⟩ := open_int ht hok h
  have hb : 0 ≤ x ∧ x ≤ 4294967295 := by simpa [Lit.wf, IntKind.min, IntKind.max, IntKind.signed, IntKind.bits] using wx
  obtain ⟨n, rfl⟩ := Int.eq_ofNat_of_zero_le hb.1
  exact ⟨n, rfl, by omega⟩
end
end Go.Proofs.Ytohdncmlmpnfbaa

/-
  Nodes that came in as a slice; filters that came in as a slice of slices.
-/
namespace Go.Proofs.Ytohdncmlmpnfbaa
open Go.ChangeShapes Go.WideShapes Go.ChangeAt Go.RowKit

theorem ncells_string : Try.prog.cellsOf 9 = 1 := by kernel_rfl
theorem ncells_int : Try.prog.cellsOf 3 = 1 := by kernel_rfl
/-- A struct of four fields, field by field. -/
theorem four_fields {H : Type} {enc : TypeId × Value → H} {W : World} {t : TypeId} {f0 f1 f2 f3 : Field} {fuel : Nat} {cs : List Value} {x : DataW H × List MemPlace} (ht : Try.prog.underlying t = some (.struct #[f0, f1, f2, f3])) (h : DataW.trod enc Try.prog W 0 (fun _ => true) true fuel t cs = some x) :
    ∃ y0 y1 y2 y3 n, DataW.trod enc Try.prog W 0 (fun _ => true) true n f0.type ((cs.drop f0.offset).take (Try.prog.cellsOf f0.type)) = some y0 ∧ DataW.trod enc Try.prog W 0 (fun _ => true) true n f1.type ((cs.drop f1.offset).take (Try.prog.cellsOf f1.type)) = some y1 ∧
      DataW.trod enc Try.prog W 0 (fun _ => true) true n f2.type ((cs.drop f2.offset).take (Try.prog.cellsOf f2.type)) = some y2 ∧ DataW.trod enc Try.prog W 0 (fun _ => true) true n f3.type ((cs.drop f3.offset).take (Try.prog.cellsOf f3.type)) = some y3 := by
  obtain ⟨xs, n, _, rfl, -, hlen, hf⟩ := DataW.trod_struct ht h
  match xs, hlen with
  | [y0, y1, y2, y3], _ => exact ⟨y0, y1, y2, y3, n, by simpa using hf 0 f0 rfl, by simpa using hf 1 f1 rfl, by simpa using hf 2 f2 rfl, by simpa using hf 3 f3 rfl⟩
theorem nd_of {H : Type} {enc : TypeId × Value → H} {W : World} (n : Nat) (cs : List Value) (y : DataW H × List MemPlace) (hl : cs.length = 4)
    (hy : DataW.trod enc Try.prog W 0 (fun _ => true) true n 51 cs = some y) : ∃ x : Nd, cs = ndCells x ∧ True := by
  obtain ⟨y0, y1, y2, y3, n', h0, h1, h2, h3⟩ := four_fields Try.underlying51 hy
  rw [ncells_int] at h0 h1
  rw [ncells_string] at h2 h3
  match cs, hl with
  | [a, b, c, d], _ =>
    obtain ⟨i, e0, -, w0⟩ := DataW.trod_int Try.underlying3 h0
    obtain ⟨j, e1, -, w1⟩ := DataW.trod_int Try.underlying3 h1
    obtain ⟨s, e2, -, w2⟩ := DataW.trod_string Try.underlying9 h2
    obtain ⟨t, e3, -, w3⟩ := DataW.trod_string Try.underlying9 h3
    simp at e0 e1 e2 e3
    subst e0 e1 e2 e3
    exact ⟨⟨i, j, s.data.toList, t.data.toList⟩, by simp only [ndCells, str_of], trivial⟩
set_option maxRecDepth 100000 in
theorem in_nds {H : Type} {enc : TypeId × Value → H} {W : World} {base : Nat} {v : Value} {d : DataW H} {p : List MemPlace}
    (hok : Value.okWide Try.prog W .any base 35 v) (h : DataW.Trod enc Try.prog W 0 (fun _ => true) true 35 v d p) :
    ∃ (A : Option Addr) (c : Nat) (l : List Nd), v = .slice A l.length c ∧ kNd.Rd W W.heap.size A c l := by
  obtain ⟨A, c, l, rfl, h1, -, h2, h3⟩ := in_slice ndCells (fun _ => True) Try.underlying35 (k := 4) (by kernel_rfl) (by omega) nd_of hok h
  exact ⟨A, c, l, rfl, h1, h2, h3⟩
end Go.Proofs.Ytohdncmlmpnfbaa
