/-
  Several texts in one: FcdE, Law08A, Law08B, Law08C, Law09A, Law09B, Law10A, Law10B, Law10C, FcdF, FcdG, FcdH.
-/
import Derived.Deep.DeepCutAuto
import Derived.Deep.RegionLaw
import Derived.Deep.CutRange
import Derived.Handy
import Derived.Test.YtohdncmlmpnfbaaMg5
/-
  Layer 10 (fcode), the document's words: the filter that bytes are.
-/
namespace Go.Proofs.Ytohdncmlmpnfbaa
open Go.RowKit

/-- A node lies in block g. -/
def NdAt (w : World) (g : Nat) (O K : Int) (S T : ByteArray) : Prop := w.cell? ⟨g, 0, none⟩ = some (.int .i64 O) ∧ w.cell? ⟨g, 1, none⟩ = some (.int .i64 K) ∧ w.cell? ⟨g, 2, none⟩ = some (.string S) ∧ w.cell? ⟨g, 3, none⟩ = some (.string T) ∧ ∀ k, w.frozen? ⟨g, k, none⟩ = false
section
variable {w w' : World} {g : Nat} {O K : Int} {S T : ByteArray}
theorem NdAt.lt (h : NdAt w g O K S T) : g < w.heap.size := World.block_lt_of_cell? w _ h.1
theorem ndAt_new (w : World) (O K : Int) (S T : ByteArray) (t : TypeId) : NdAt (w.alloc (.cells #[.int .i64 O, .int .i64 K, .string S, .string T] t)) w.heap.size O K S T := by
  have h := heap_new w (.cells #[.int .i64 O, .int .i64 K, .string S, .string T] t) _ rfl
  refine ⟨?_, ?_, ?_, ?_, fun k => ?_⟩
  · rw [cell_of_row _ _ _ _ _ _ h]; rfl
  · rw [cell_of_row _ _ _ _ _ _ h]; rfl
  · rw [cell_of_row _ _ _ _ _ _ h]; rfl
  · rw [cell_of_row _ _ _ _ _ _ h]; rfl
  · unfold World.frozen?; rw [h]; simp
theorem NdAt.kept {m : Nat} (h : NdAt w g O K S T) (hg : w.grownBy w' (some m)) (hne : g ≠ m) : NdAt w' g O K S T := by
  have hb := hg.block g h.lt (fun e => hne (by injection e))
  obtain ⟨h0, h1, h2, h3, h4⟩ := h
  have hn : some g ≠ some m := fun e => hne (by injection e)
  exact ⟨hg.cell h0 hn, hg.cell h1 hn, hg.cell h2 hn, hg.cell h3 hn, fun k => by
    have := h4 k
    unfold World.frozen? at this ⊢
    simp only [hb]
    exact this⟩
theorem NdAt.set0 (h : NdAt w g O K S T) (X : Int) : NdAt (w.setCell ⟨g, 0, none⟩ (.int .i64 X)) g X K S T :=
  ⟨set_same h.1 _, set_other h.2.1 (addr_off (by decide)) _, set_other h.2.2.1 (addr_off (by decide)) _, set_other h.2.2.2.1 (addr_off (by decide)) _, fun j => by rw [World.frozen?_setCell]; exact h.2.2.2.2 j⟩
theorem NdAt.set1 (h : NdAt w g O K S T) (X : Int) : NdAt (w.setCell ⟨g, 1, none⟩ (.int .i64 X)) g O X S T :=
  ⟨set_other h.1 (addr_off (by decide)) _, set_same h.2.1 _, set_other h.2.2.1 (addr_off (by decide)) _, set_other h.2.2.2.1 (addr_off (by decide)) _, fun j => by rw [World.frozen?_setCell]; exact h.2.2.2.2 j⟩
theorem NdAt.set2 (h : NdAt w g O K S T) (X : ByteArray) : NdAt (w.setCell ⟨g, 2, none⟩ (.string X)) g O K X T :=
  ⟨set_other h.1 (addr_off (by decide)) _, set_other h.2.1 (addr_off (by decide)) _, set_same h.2.2.1 _, set_other h.2.2.2.1 (addr_off (by decide)) _, fun j => by rw [World.frozen?_setCell]; exact h.2.2.2.2 j⟩
theorem NdAt.set3 (h : NdAt w g O K S T) (X : ByteArray) : NdAt (w.setCell ⟨g, 3, none⟩ (.string X)) g O K S X :=
  ⟨set_other h.1 (addr_off (by decide)) _, set_other h.2.1 (addr_off (by decide)) _, set_other h.2.2.1 (addr_off (by decide)) _, set_same h.2.2.2.1 _, fun j => by rw [World.frozen?_setCell]; exact h.2.2.2.2 j⟩
end
theorem ndq_rd (w : World) (O K : Int) (S T : ByteArray) (lo hi : List UInt8) (hS : str lo = S) (hT : str hi = T) : kNd.Rd (w.alloc (.cells #[.int .i64 O, .int .i64 K, .string S, .string T] 51)) (w.heap.size + 1) (some ⟨w.heap.size, 0, none⟩) 1 [⟨O, K, lo, hi⟩] := by
  subst hS hT
  exact Kind.rd_new (k := kNd) (l := [⟨O, K, lo, hi⟩]) rfl rfl (by simp)
/-- A filter that was read, and what is wrong. -/
def RetNs (w : World) (x : List Nd × Int) (e : Ending) (w' : World) : Prop := ∃ A c n, e = .returned (.tuple #[.slice A n c, .int .i64 x.2]) ∧ n = x.1.length ∧ kNd.Rd w' w'.heap.size A c x.1 ∧ Below w.heap.size w w'
set_option maxRecDepth 100000 in
set_option maxHeartbeats 8000000 in
theorem ref_rdflt (A : Option Addr) (c N : Nat) (b : List UInt8) (hN : N = b.length) (hN9 : N ≤ 100000) (w : World) (hr : RdB w w.heap.size A c b) :
    Calls Try.prog 21 #[.slice A N c] w (RetNs w (readF b)) := by
  have HR := Lib.hid hr
  have HN := Lib.hid hN
  obtain ⟨n, r1, e1, h1⟩ : ∃ n r1 e1, withinR 0 32 b 0 = (n, r1, e1) := ⟨_, _, _, rfl⟩
  have hn9 : n ≤ 32 := by
    by_cases he : e1 = 0
    · subst he
      have := (withinR_back h1).2.2.2; omega
    · have h := withinR_same 0 32 b 0
      rw [h1] at h
      have := (h he).1
      simp only at this
      omega
  have HW0 := Lib.hid h1
  have HR1 := Lib.hid (show r1.length ≤ N from by have := withinR_len 0 32 b 0; rw [h1] at this; simp only at this; omega)
  obtain ⟨M, hM⟩ : ∃ M, w.heap.size = M := ⟨_, rfl⟩
  have W1 := fun (w' : World) (hf : RfAt w' M A N c 0 0) (hq : Below M w w') => Lib.hid (rf_within_q (b := b) (l := b) hN h1 rfl hf ((hM ▸ hr).below hq) (Nat.zero_le _) (by omega))
  have HM := Lib.hid hM
  have HRM := Lib.hid (hM ▸ hr)
  have HB0 := Lib.hid (show Below M w w from Below.refl _ _)
  clear hr hN
  go_enter Try.func21, Try.ntmps21
  go_upto_region 2 with fail
  obtain ⟨w9, hw9⟩ : ∃ w9, w9 = w.alloc (.cells #[.slice A N c, .int .i64 0, .int .i64 0] 74) := ⟨_, rfl⟩
  have HF := Lib.hid (show RfAt w9 M A N c 0 0 by rw [hw9]; exact heap_new _ _ _ HM.out.symm)
  have HB := Lib.hid (show Below M w w9 by rw [hw9]; exact HB0.out.alloc (by rw [HM.out]; exact Nat.le_refl _) _)
  rw [← hw9]
  clear hw9 hM
  go_wp2_with ((with_reducible refine (W1 _ HF.out HB.out).out.mono ?_); rintro e w2 ⟨rfl, a1, ha1, hla, hrf, hg⟩; replace HB := Lib.hid (below_row HB.out hg (Nat.le_refl _) (Nat.le_of_lt HF.out.lt)); replace HF := Lib.hid hrf; have HA := Lib.hid ha1; have HLA := Lib.hid hla; clear hrf hg hla ha1)
  clear W1
  obtain ⟨Y, hY⟩ : ∃ Y, manyR nodeRd n r1 e1 = Y := ⟨_, rfl⟩
  have HY0 := Lib.hid hY
  clear hY h1
  go_loopw [6, 7] (fun v i wr => ∃ (k a : Nat) (e : Int) (dn : List Nd), k ≤ n ∧ i = .int .i64 k ∧ dn.length ≤ k ∧ Hid (a ≤ N) ∧ Hid (Y = (dn ++ (manyR nodeRd (n - k) (b.drop a) e).1, (manyR nodeRd (n - k) (b.drop a) e).2)) ∧ Hid (RfAt wr M A N c a e) ∧ Hid (kNd.Own wr (M + 1) v dn) ∧ Hid (Below M w wr)) (fun _ i _ => n - (intOf i).toNat)
  case atStart => exact ⟨0, a1, e1, [], by omega, rfl, Nat.le_refl _, HA, by rw [← HLA.out, Nat.sub_zero, HY0.out]; rfl, HF, Kind.Own.nil _ _, HB⟩
  case round =>
    clear HF HB HA
    obtain ⟨k, a, e, dn, hk, rfl, hdk, HA, HY, HF, HO, HB⟩ := hrel
    by_cases hlt : k < n
    · by_cases he : e = 0
      · subst he
        obtain ⟨c0, c1, c2, z0, z1, z2⟩ := HF.out.cells
        go_upto_region 8 with (first | (go_quiet (fail)))
        obtain ⟨o, q1, x1, ht1⟩ : ∃ o q1 x1, withinR 1 8 (b.drop a) 0 = (o, q1, x1) := ⟨_, _, _, rfl⟩
        obtain ⟨s, q2, x2, ht2⟩ : ∃ s q2 x2, textR 17 q1 x1 = (s, q2, x2) := ⟨_, _, _, rfl⟩
        obtain ⟨t, q3, x3, ht3⟩ : ∃ t q3 x3, textR 17 q2 x2 = (t, q3, x3) := ⟨_, _, _, rfl⟩
        obtain ⟨kk, q4, x4, ht4⟩ : ∃ kk q4 x4, withinR 0 32 q1 x1 = (kk, q4, x4) := ⟨_, _, _, rfl⟩
        obtain ⟨S, hS⟩ : ∃ S, str s = S := ⟨_, rfl⟩
        obtain ⟨T, hT⟩ : ∃ T, str t = T := ⟨_, rfl⟩
        have T1 := fun (w' : World) (hf : RfAt w' M A N c a 0) (hq : Below M w w') => Lib.hid (rf_within_q (b := b) HN.out ht1 rfl hf (HRM.out.below hq) HA.out (by omega))
        have T2 := fun (w' : World) (a' : Nat) (ha : a' ≤ N) (hl : q1 = b.drop a') (hf : RfAt w' M A N c a' x1) (hq : Below M w w') => Lib.hid (rf_text_q (b := b) HN.out ht2 hS hl hf (HRM.out.below hq) ha (Nat.le_refl _) (by omega))
        have T3 := fun (w' : World) (a' : Nat) (ha : a' ≤ N) (hl : q2 = b.drop a') (hf : RfAt w' M A N c a' x2) (hq : Below M w w') => Lib.hid (rf_text_q (b := b) HN.out ht3 hT hl hf (HRM.out.below hq) ha (Nat.le_refl _) (by omega))
        have T4 := fun (w' : World) (a' : Nat) (ha : a' ≤ N) (hl : q1 = b.drop a') (hf : RfAt w' M A N c a' x1) (hq : Below M w w') => Lib.hid (rf_within_q (b := b) HN.out ht4 hl hf (HRM.out.below hq) ha (by omega))
        have HSTEP := Lib.hid (manyR_step nodeRd hlt (b.drop a))
        have HS := Lib.hid hS
        have HT := Lib.hid hT
        obtain ⟨G, hG⟩ : ∃ G, wr.heap.size = G := ⟨_, rfl⟩
        have hMG : M < G := by rw [← hG]; exact HF.out.lt
        have hVG := Lib.hid (show ∀ x, u6.ownBlock = some x → M + 1 ≤ x ∧ x < G from fun x hx => hG ▸ HO.out.lt x hx)
        obtain ⟨w9, hw9⟩ : ∃ w9, w9 = wr.alloc (.cells #[.int .i64 0, .int .i64 0, .string ⟨#[]⟩, .string ⟨#[]⟩] 51) := ⟨_, rfl⟩
        have HG := Lib.hid (show NdAt w9 G 0 0 ⟨#[]⟩ ⟨#[]⟩ by rw [hw9, ← hG]; exact ndAt_new _ _ _ _ _ _)
        replace HF := Lib.hid (show RfAt w9 M A N c a 0 by rw [hw9]; exact heap_old _ HF.out)
        replace HO := Lib.hid (show kNd.Own w9 (M + 1) u6 dn by rw [hw9]; exact HO.out.alloc _)
        replace HB := Lib.hid (show Below M w w9 by rw [hw9]; exact HB.out.alloc (by rw [hG]; exact Nat.le_of_lt hMG) _)
        rw [hG, ← hw9]
        have ho8 : o ≤ 8 := by
          by_cases he : x1 = 0
          · subst he
            have := (withinR_back ht1).2.2.2; omega
          · have h := withinR_same 1 8 (b.drop a) 0
            rw [ht1] at h
            have := (h he).1
            simp only at this
            omega
        clear hw9 hS hT c0 c1 c2 z0 z1 z2
        obtain ⟨g0, g1, g2, g3, gz⟩ := HG.out
        go_upto_region 9 with ((with_reducible refine (T1 _ HF.out HB.out).out.mono ?_); rintro e w9 ⟨rfl, a1, ha1, hla, hrf, hg⟩; replace HG := Lib.hid (HG.out.kept hg (by omega)); replace HO := Lib.hid (HO.out.other hg (Nat.lt_succ_self _)); replace HB := Lib.hid (below_row HB.out hg (Nat.le_refl _) (Nat.le_of_lt HF.out.lt)); replace HF := Lib.hid hrf; have HA1 := Lib.hid ha1; have HL1 := Lib.hid hla; clear hrf hg ha1 hla g0 g1 g2 g3 gz; obtain ⟨g0, g1, g2, g3, gz⟩ := HG.out)
        obtain ⟨w8, hw8⟩ : ∃ w8, w8 = w9.setCell ⟨G, 0, none⟩ (.int .i64 (o : Int)) := ⟨_, rfl⟩
        have hgg : NdAt w8 G (o : Int) 0 ⟨#[]⟩ ⟨#[]⟩ := by rw [hw8]; exact HG.out.set0 _
        replace HG := Lib.hid hgg
        replace HF := Lib.hid (show RfAt w8 M A N c _ _ by rw [hw8]; exact HF.out.far (Nat.ne_of_lt hMG) _)
        replace HO := Lib.hid (show kNd.Own w8 (M + 1) u6 dn by rw [hw8]; exact HO.out.set_far (fun x hx => (hVG.out x hx).2) _)
        replace HB := Lib.hid (show Below M w w8 by rw [hw8]; exact HB.out.setCell (p := ⟨G, 0, none⟩) (Nat.le_of_lt hMG) _)
        rw [← hw8]
        clear hw8 g0 g1 g2 g3 gz hgg
        obtain ⟨g0, g1, g2, g3, gz⟩ := HG.out
        have hcs : o < 3 ∨ (o = 3 ∨ o = 5) ∨ o = 4 ∨ o = 6 ∨ 7 ≤ o := by omega
        rcases hcs with hA | hA | hA | hA | hA
        · have hnr : nodeRd (b.drop a) 0 = (⟨(o : Int), 0, [], []⟩, q1, x1) := by
            unfold nodeRd
            rw [ht1]
            simp only
            rw [if_neg (show ¬ (3 ≤ o ∧ o ≤ 5) by omega), if_neg (show ¬ o = 4 by omega), if_neg (show ¬ o = 6 by omega), if_neg (show ¬ 7 ≤ o by omega)]
            rfl
          rw [hnr] at HSTEP
          have HX := HSTEP
          clear hnr
          have f4 : ((o : Int) == 4) = false := beq_eq_false_iff_ne.2 (by omega)
          have f6 : ((o : Int) == 6) = false := beq_eq_false_iff_ne.2 (by omega)
          have l3 : (o : Int) < 3 := by omega
          clear ht1 ht2 ht3 ht4
          have HRW := fun w => Lib.hid (ndq_rd w (o : Int) 0 ⟨#[]⟩ ⟨#[]⟩ _ _ rfl rfl).row
          have HLE := Lib.hid (show dn.length + [(⟨(o : Int), 0, [], []⟩ : Nd)].length ≤ 1000000 by rw [List.length_singleton]; omega)
          clear HSTEP HS HT T1 T2 T3 T4
          go_wp2_with (first | (at_builtin; refine wpList_app_k kNd rfl (.tmp 57) (.tmp 59) rfl (M + 1) u6 dn rfl (Kind.Own.alloc HO.out _) _ (some ⟨w8.heap.size, 0, none⟩) 1 1 [⟨(o : Int), 0, [], []⟩] rfl rfl (HRW w8).out HLE.out (by decide) (le_alloc HF.out.lt _) ?_; intro v3 w3 hown3 hg3 hb3 _; have HO3 := Lib.hid hown3; have HF3 := Lib.hid (RfAt.kept (heap_old _ HF.out) hg3 (fun e => by have := hVG.out _ e.symm; omega)); have HB3 := Lib.hid ((HB.out.alloc (Nat.le_of_lt HF.out.lt) _).trans (hb3.mono (Nat.le_succ M))); clear hown3 hg3 hb3) | (go_quiet (fail)))
          go_roundw
          case rel => exact ⟨k + 1, a1, x1, dn ++ [⟨(o : Int), 0, [], []⟩], by omega, by go_num, by rw [List.length_append, List.length_singleton]; omega, HA1, Lib.hid (by rw [HY.out, HX.out, ← HL1.out, List.append_assoc]; rfl), HF3, HO3, HB3⟩
          case measure => simp [intOf]; omega
        · have hnr : nodeRd (b.drop a) 0 = (⟨(o : Int), 0, s, []⟩, q2, x2) := by
            unfold nodeRd
            rw [ht1]
            simp only
            rw [if_pos (show 3 ≤ o ∧ o ≤ 5 by omega), if_neg (show ¬ o = 4 by omega), ht2, if_neg (show ¬ o = 6 by omega), if_neg (show ¬ 7 ≤ o by omega)]
            rfl
          rw [hnr] at HSTEP
          have HX := HSTEP
          clear hnr
          have f4 : ((o : Int) == 4) = false := beq_eq_false_iff_ne.2 (by omega)
          have f6 : ((o : Int) == 6) = false := beq_eq_false_iff_ne.2 (by omega)
          have l3 : 3 ≤ (o : Int) := by omega
          have l5 : (o : Int) ≤ 5 := by omega
          clear ht1 ht2 ht3 ht4
          go_upto_region 11 with (first | ((with_reducible refine (T2 _ _ HA1.out HL1.out HF.out HB.out).out.mono ?_); rintro e w9 ⟨rfl, a2, ha1, hla, hrf, hg⟩; replace HG := Lib.hid (HG.out.kept hg (by omega)); replace HO := Lib.hid (HO.out.other hg (Nat.lt_succ_self _)); replace HB := Lib.hid (below_row HB.out hg (Nat.le_refl _) (Nat.le_of_lt HF.out.lt)); replace HF := Lib.hid hrf; have HA2 := Lib.hid ha1; have HL2 := Lib.hid hla; clear hrf hg ha1 hla g0 g1 g2 g3 gz; obtain ⟨g0, g1, g2, g3, gz⟩ := HG.out) | (go_quiet (fail)))
          obtain ⟨w8, hw8⟩ : ∃ w8, w8 = w9.setCell ⟨G, 2, none⟩ (.string S) := ⟨_, rfl⟩
          have hgg : NdAt w8 G (o : Int) 0 S ⟨#[]⟩ := by rw [hw8]; exact HG.out.set2 _
          replace HG := Lib.hid hgg
          replace HF := Lib.hid (show RfAt w8 M A N c _ _ by rw [hw8]; exact HF.out.far (Nat.ne_of_lt hMG) _)
          replace HO := Lib.hid (show kNd.Own w8 (M + 1) u6 dn by rw [hw8]; exact HO.out.set_far (fun x hx => (hVG.out x hx).2) _)
          replace HB := Lib.hid (show Below M w w8 by rw [hw8]; exact HB.out.setCell (p := ⟨G, 2, none⟩) (Nat.le_of_lt hMG) _)
          rw [← hw8]
          clear hw8 g0 g1 g2 g3 gz hgg
          obtain ⟨g0, g1, g2, g3, gz⟩ := HG.out
          have HRW := fun w => Lib.hid (ndq_rd w (o : Int) 0 S ⟨#[]⟩ _ _ HS.out rfl).row
          have HLE := Lib.hid (show dn.length + [(⟨(o : Int), 0, s, []⟩ : Nd)].length ≤ 1000000 by rw [List.length_singleton]; omega)
          clear HSTEP HS HT T1 T2 T3 T4
          go_wp2_with (first | (at_builtin; refine wpList_app_k kNd rfl (.tmp 57) (.tmp 59) rfl (M + 1) u6 dn rfl (Kind.Own.alloc HO.out _) _ (some ⟨w8.heap.size, 0, none⟩) 1 1 [⟨(o : Int), 0, s, []⟩] rfl rfl (HRW w8).out HLE.out (by decide) (le_alloc HF.out.lt _) ?_; intro v3 w3 hown3 hg3 hb3 _; have HO3 := Lib.hid hown3; have HF3 := Lib.hid (RfAt.kept (heap_old _ HF.out) hg3 (fun e => by have := hVG.out _ e.symm; omega)); have HB3 := Lib.hid ((HB.out.alloc (Nat.le_of_lt HF.out.lt) _).trans (hb3.mono (Nat.le_succ M))); clear hown3 hg3 hb3) | (go_quiet (fail)))
          go_roundw
          case rel => exact ⟨k + 1, a2, x2, dn ++ [⟨(o : Int), 0, s, []⟩], by omega, by go_num, by rw [List.length_append, List.length_singleton]; omega, HA2, Lib.hid (by rw [HY.out, HX.out, ← HL2.out, List.append_assoc]; rfl), HF3, HO3, HB3⟩
          case measure => simp [intOf]; omega
        · have hA4 := hA
          have hnr : nodeRd (b.drop a) 0 = (⟨(o : Int), 0, s, t⟩, q3, x3) := by
            unfold nodeRd
            rw [ht1]
            simp only
            rw [if_pos (show 3 ≤ o ∧ o ≤ 5 by omega), if_pos hA, ht2]
            simp only
            rw [ht3, if_neg (show ¬ o = 6 by omega), if_neg (show ¬ 7 ≤ o by omega)]
            rfl
          rw [hnr] at HSTEP
          have HX := HSTEP
          clear hnr
          clear ht1 ht2 ht3 ht4
          subst hA4
          clear hA
          replace HG := Lib.hid (show NdAt w8 G 4 0 ⟨#[]⟩ ⟨#[]⟩ from HG.out)
          clear g0 g1 g2 g3 gz
          obtain ⟨g0, g1, g2, g3, gz⟩ := HG.out
          go_upto_region 11 with (first | ((with_reducible refine (T2 _ _ HA1.out HL1.out HF.out HB.out).out.mono ?_); rintro e w9 ⟨rfl, a2, ha1, hla, hrf, hg⟩; replace HG := Lib.hid (HG.out.kept hg (by omega)); replace HO := Lib.hid (HO.out.other hg (Nat.lt_succ_self _)); replace HB := Lib.hid (below_row HB.out hg (Nat.le_refl _) (Nat.le_of_lt HF.out.lt)); replace HF := Lib.hid hrf; have HA2 := Lib.hid ha1; have HL2 := Lib.hid hla; clear hrf hg ha1 hla g0 g1 g2 g3 gz; obtain ⟨g0, g1, g2, g3, gz⟩ := HG.out) | (go_quiet (fail)))
          obtain ⟨w8, hw8⟩ : ∃ w8, w8 = w9.setCell ⟨G, 2, none⟩ (.string S) := ⟨_, rfl⟩
          have hgg : NdAt w8 G 4 0 S ⟨#[]⟩ := by rw [hw8]; exact HG.out.set2 _
          replace HG := Lib.hid hgg
          replace HF := Lib.hid (show RfAt w8 M A N c _ _ by rw [hw8]; exact HF.out.far (Nat.ne_of_lt hMG) _)
          replace HO := Lib.hid (show kNd.Own w8 (M + 1) u6 dn by rw [hw8]; exact HO.out.set_far (fun x hx => (hVG.out x hx).2) _)
          replace HB := Lib.hid (show Below M w w8 by rw [hw8]; exact HB.out.setCell (p := ⟨G, 2, none⟩) (Nat.le_of_lt hMG) _)
          rw [← hw8]
          clear hw8 g0 g1 g2 g3 gz hgg
          obtain ⟨g0, g1, g2, g3, gz⟩ := HG.out
          go_upto_region 13 with ((with_reducible refine (T3 _ _ HA2.out HL2.out HF.out HB.out).out.mono ?_); rintro e w9 ⟨rfl, a3, ha1, hla, hrf, hg⟩; replace HG := Lib.hid (HG.out.kept hg (by omega)); replace HO := Lib.hid (HO.out.other hg (Nat.lt_succ_self _)); replace HB := Lib.hid (below_row HB.out hg (Nat.le_refl _) (Nat.le_of_lt HF.out.lt)); replace HF := Lib.hid hrf; have HA3 := Lib.hid ha1; have HL3 := Lib.hid hla; clear hrf hg ha1 hla g0 g1 g2 g3 gz; obtain ⟨g0, g1, g2, g3, gz⟩ := HG.out)
          obtain ⟨w8, hw8⟩ : ∃ w8, w8 = w9.setCell ⟨G, 3, none⟩ (.string T) := ⟨_, rfl⟩
          have hgg : NdAt w8 G 4 0 S T := by rw [hw8]; exact HG.out.set3 _
          replace HG := Lib.hid hgg
          replace HF := Lib.hid (show RfAt w8 M A N c _ _ by rw [hw8]; exact HF.out.far (Nat.ne_of_lt hMG) _)
          replace HO := Lib.hid (show kNd.Own w8 (M + 1) u6 dn by rw [hw8]; exact HO.out.set_far (fun x hx => (hVG.out x hx).2) _)
          replace HB := Lib.hid (show Below M w w8 by rw [hw8]; exact HB.out.setCell (p := ⟨G, 3, none⟩) (Nat.le_of_lt hMG) _)
          rw [← hw8]
          clear hw8 g0 g1 g2 g3 gz hgg
          obtain ⟨g0, g1, g2, g3, gz⟩ := HG.out
          have HRW := fun w => Lib.hid (ndq_rd w 4 0 S T _ _ HS.out HT.out).row
          have HLE := Lib.hid (show dn.length + [(⟨4, 0, s, t⟩ : Nd)].length ≤ 1000000 by rw [List.length_singleton]; omega)
          clear HSTEP HS HT T1 T2 T3 T4
          go_wp2_with (first | (at_builtin; refine wpList_app_k kNd rfl (.tmp 57) (.tmp 59) rfl (M + 1) u6 dn rfl (Kind.Own.alloc HO.out _) _ (some ⟨w8.heap.size, 0, none⟩) 1 1 [⟨4, 0, s, t⟩] rfl rfl (HRW w8).out HLE.out (by decide) (le_alloc HF.out.lt _) ?_; intro v3 w3 hown3 hg3 hb3 _; have HO3 := Lib.hid hown3; have HF3 := Lib.hid (RfAt.kept (heap_old _ HF.out) hg3 (fun e => by have := hVG.out _ e.symm; omega)); have HB3 := Lib.hid ((HB.out.alloc (Nat.le_of_lt HF.out.lt) _).trans (hb3.mono (Nat.le_succ M))); clear hown3 hg3 hb3) | (go_quiet (fail)))
          go_roundw
          case rel => exact ⟨k + 1, a3, x3, dn ++ [⟨4, 0, s, t⟩], by omega, by go_num, by rw [List.length_append, List.length_singleton]; omega, HA3, Lib.hid (by rw [HY.out, HX.out, ← HL3.out, List.append_assoc]; rfl), HF3, HO3, HB3⟩
          case measure => simp [intOf]; omega
        · have hA4 := hA
          have hnr : nodeRd (b.drop a) 0 = (⟨(o : Int), 1, [], []⟩, q1, x1) := by
            unfold nodeRd
            rw [ht1]
            simp only
            rw [if_neg (show ¬ (3 ≤ o ∧ o ≤ 5) by omega), if_neg (show ¬ o = 4 by omega), if_pos hA]
            rfl
          rw [hnr] at HSTEP
          have HX := HSTEP
          clear hnr
          clear ht1 ht2 ht3 ht4
          subst hA4
          clear hA
          replace HG := Lib.hid (show NdAt w8 G 6 0 ⟨#[]⟩ ⟨#[]⟩ from HG.out)
          clear g0 g1 g2 g3 gz
          obtain ⟨g0, g1, g2, g3, gz⟩ := HG.out
          go_upto_region 15 with (first | (go_quiet (fail)))
          obtain ⟨w7, hw8⟩ : ∃ w7, w7 = w8.setCell ⟨G, 1, none⟩ (.int .i64 1) := ⟨_, rfl⟩
          have hgg : NdAt w7 G 6 1 ⟨#[]⟩ ⟨#[]⟩ := by rw [hw8]; exact HG.out.set1 _
          replace HG := Lib.hid hgg
          replace HF := Lib.hid (show RfAt w7 M A N c _ _ by rw [hw8]; exact HF.out.far (Nat.ne_of_lt hMG) _)
          replace HO := Lib.hid (show kNd.Own w7 (M + 1) u6 dn by rw [hw8]; exact HO.out.set_far (fun x hx => (hVG.out x hx).2) _)
          replace HB := Lib.hid (show Below M w w7 by rw [hw8]; exact HB.out.setCell (p := ⟨G, 1, none⟩) (Nat.le_of_lt hMG) _)
          rw [← hw8]
          clear hw8 g0 g1 g2 g3 gz hgg
          obtain ⟨g0, g1, g2, g3, gz⟩ := HG.out
          have HRW := fun w => Lib.hid (ndq_rd w 6 1 ⟨#[]⟩ ⟨#[]⟩ _ _ rfl rfl).row
          have HLE := Lib.hid (show dn.length + [(⟨6, 1, [], []⟩ : Nd)].length ≤ 1000000 by rw [List.length_singleton]; omega)
          clear HSTEP HS HT T1 T2 T3 T4
          go_wp2_with (first | (at_builtin; refine wpList_app_k kNd rfl (.tmp 57) (.tmp 59) rfl (M + 1) u6 dn rfl (Kind.Own.alloc HO.out _) _ (some ⟨w7.heap.size, 0, none⟩) 1 1 [⟨6, 1, [], []⟩] rfl rfl (HRW w7).out HLE.out (by decide) (le_alloc HF.out.lt _) ?_; intro v3 w3 hown3 hg3 hb3 _; have HO3 := Lib.hid hown3; have HF3 := Lib.hid (RfAt.kept (heap_old _ HF.out) hg3 (fun e => by have := hVG.out _ e.symm; omega)); have HB3 := Lib.hid ((HB.out.alloc (Nat.le_of_lt HF.out.lt) _).trans (hb3.mono (Nat.le_succ M))); clear hown3 hg3 hb3) | (go_quiet (fail)))
          go_roundw
          case rel => exact ⟨k + 1, a1, x1, dn ++ [⟨6, 1, [], []⟩], by omega, by go_num, by rw [List.length_append, List.length_singleton]; omega, HA1, Lib.hid (by rw [HY.out, HX.out, ← HL1.out, List.append_assoc]; rfl), HF3, HO3, HB3⟩
          case measure => simp [intOf]; omega
        · have hnr : nodeRd (b.drop a) 0 = (⟨(o : Int), (kk : Int), [], []⟩, q4, x4) := by
            unfold nodeRd
            rw [ht1]
            simp only
            rw [if_neg (show ¬ (3 ≤ o ∧ o ≤ 5) by omega), if_neg (show ¬ o = 4 by omega), if_neg (show ¬ o = 6 by omega), if_pos hA]
            simp only
            rw [ht4]
          rw [hnr] at HSTEP
          have HX := HSTEP
          clear hnr
          have f4 : ((o : Int) == 4) = false := beq_eq_false_iff_ne.2 (by omega)
          have f6 : ((o : Int) == 6) = false := beq_eq_false_iff_ne.2 (by omega)
          have l3 : 3 ≤ (o : Int) := by omega
          have l5 : ¬ (o : Int) ≤ 5 := by omega
          have l7 : 7 ≤ (o : Int) := by omega
          clear ht1 ht2 ht3 ht4
          go_upto_region 17 with (first | ((with_reducible refine (T4 _ _ HA1.out HL1.out HF.out HB.out).out.mono ?_); rintro e w9 ⟨rfl, a2, ha1, hla, hrf, hg⟩; replace HG := Lib.hid (HG.out.kept hg (by omega)); replace HO := Lib.hid (HO.out.other hg (Nat.lt_succ_self _)); replace HB := Lib.hid (below_row HB.out hg (Nat.le_refl _) (Nat.le_of_lt HF.out.lt)); replace HF := Lib.hid hrf; have HA2 := Lib.hid ha1; have HL2 := Lib.hid hla; clear hrf hg ha1 hla g0 g1 g2 g3 gz; obtain ⟨g0, g1, g2, g3, gz⟩ := HG.out) | (go_quiet (fail)))
          obtain ⟨w8, hw8⟩ : ∃ w8, w8 = w9.setCell ⟨G, 1, none⟩ (.int .i64 (kk : Int)) := ⟨_, rfl⟩
          have hgg : NdAt w8 G (o : Int) (kk : Int) ⟨#[]⟩ ⟨#[]⟩ := by rw [hw8]; exact HG.out.set1 _
          replace HG := Lib.hid hgg
          replace HF := Lib.hid (show RfAt w8 M A N c _ _ by rw [hw8]; exact HF.out.far (Nat.ne_of_lt hMG) _)
          replace HO := Lib.hid (show kNd.Own w8 (M + 1) u6 dn by rw [hw8]; exact HO.out.set_far (fun x hx => (hVG.out x hx).2) _)
          replace HB := Lib.hid (show Below M w w8 by rw [hw8]; exact HB.out.setCell (p := ⟨G, 1, none⟩) (Nat.le_of_lt hMG) _)
          rw [← hw8]
          clear hw8 g0 g1 g2 g3 gz hgg
          obtain ⟨g0, g1, g2, g3, gz⟩ := HG.out
          have HRW := fun w => Lib.hid (ndq_rd w (o : Int) (kk : Int) ⟨#[]⟩ ⟨#[]⟩ _ _ rfl rfl).row
          have HLE := Lib.hid (show dn.length + [(⟨(o : Int), (kk : Int), [], []⟩ : Nd)].length ≤ 1000000 by rw [List.length_singleton]; omega)
          clear HSTEP HS HT T1 T2 T3 T4
          go_wp2_with (first | (at_builtin; refine wpList_app_k kNd rfl (.tmp 57) (.tmp 59) rfl (M + 1) u6 dn rfl (Kind.Own.alloc HO.out _) _ (some ⟨w8.heap.size, 0, none⟩) 1 1 [⟨(o : Int), (kk : Int), [], []⟩] rfl rfl (HRW w8).out HLE.out (by decide) (le_alloc HF.out.lt _) ?_; intro v3 w3 hown3 hg3 hb3 _; have HO3 := Lib.hid hown3; have HF3 := Lib.hid (RfAt.kept (heap_old _ HF.out) hg3 (fun e => by have := hVG.out _ e.symm; omega)); have HB3 := Lib.hid ((HB.out.alloc (Nat.le_of_lt HF.out.lt) _).trans (hb3.mono (Nat.le_succ M))); clear hown3 hg3 hb3) | (go_quiet (fail)))
          go_roundw
          case rel => exact ⟨k + 1, a2, x4, dn ++ [⟨(o : Int), (kk : Int), [], []⟩], by omega, by go_num, by rw [List.length_append, List.length_singleton]; omega, HA2, Lib.hid (by rw [HY.out, HX.out, ← HL2.out, List.append_assoc]; rfl), HF3, HO3, HB3⟩
          case measure => simp [intOf]; omega
      · have hne : (e == 0) = false := beq_eq_false_iff_ne.2 he
        obtain ⟨c0, c1, c2, z0, z1, z2⟩ := HF.out.cells
        have HD := Lib.hid (HY.out.trans (by rw [manyR_end nodeRd (n - k) (b.drop a) (.inr he), List.append_nil]))
        obtain ⟨x, hx⟩ : ∃ x, endR (b.drop a) e = x := ⟨_, rfl⟩
        obtain ⟨v, hv⟩ : ∃ v, rightN dn = v := ⟨_, rfl⟩
        have EN := fun (w' : World) (a' : Nat) (ha : a' ≤ N) (hl : b.drop a = b.drop a') (hf : RfAt w' M A N c a' e) => Lib.hid (rf_end_q (b := b) HN.out hx hl hf ha)
        have HRD := Lib.hid (show readF b = _ from allR2_of HW0.out (HY0.out.trans HD.out) hx hv)
        obtain ⟨n6, hn6⟩ : ∃ n6, n6 = dn.length := ⟨_, rfl⟩
        obtain ⟨A6, c6, rfl, hrd6⟩ := HO.out.read_n hn6
        have LR := fun (w' : World) (ho : kNd.Own w' (M + 1) (.slice A6 n6 c6) dn) => Lib.hid (ref_nright A6 c6 n6 dn hn6 (by omega) v hv w' ho.rd)
        have HN6 := Lib.hid hn6
        clear hrd6 hn6 hx hv
        by_cases h0 : x = 0
        · subst h0
          cases v
          case true =>
            have HRE := Lib.hid (show readF b = (dn, 0) by rw [HRD.out, if_neg (by decide)])
            go_wp2_with (first | ((with_reducible refine (EN _ a HA.out rfl HF.out).out.mono ?_); rintro e8 w8 ⟨rfl, a8, ha8, hl8, hf8, hg8⟩; replace HO := Lib.hid (HO.out.other hg8 (Nat.lt_succ_self _)); replace HB := Lib.hid (below_row HB.out hg8 (Nat.le_refl _) (Nat.le_of_lt HF.out.lt)); replace HF := Lib.hid hf8; have HA8 := Lib.hid ha8; have HL8 := Lib.hid hl8; clear hf8 hg8 ha8 hl8) | ((with_reducible refine (LR _ HO.out).out.mono ?_); rintro e7 w7 ⟨rfl, hq⟩; replace HO := Lib.hid (HO.out.below hq); replace HB := Lib.hid (HB.out.trans (hq.mono (Nat.le_of_lt HF.out.lt))); clear hq))
            go_ret2
            exact ⟨A6, c6, n6, by rw [HRE.out]; rfl, by rw [HRE.out]; exact HN6.out, by rw [HRE.out]; exact HO.out.rd, by rw [HM.out]; exact HB.out⟩
          case false =>
            have HRE := Lib.hid (show readF b = ([], 11) by rw [HRD.out, if_neg (by decide)])
            go_wp2_with (first | ((with_reducible refine (EN _ a HA.out rfl HF.out).out.mono ?_); rintro e8 w8 ⟨rfl, a8, ha8, hl8, hf8, hg8⟩; replace HO := Lib.hid (HO.out.other hg8 (Nat.lt_succ_self _)); replace HB := Lib.hid (below_row HB.out hg8 (Nat.le_refl _) (Nat.le_of_lt HF.out.lt)); replace HF := Lib.hid hf8; have HA8 := Lib.hid ha8; have HL8 := Lib.hid hl8; clear hf8 hg8 ha8 hl8) | ((with_reducible refine (LR _ HO.out).out.mono ?_); rintro e7 w7 ⟨rfl, hq⟩; replace HO := Lib.hid (HO.out.below hq); replace HB := Lib.hid (HB.out.trans (hq.mono (Nat.le_of_lt HF.out.lt))); clear hq))
            go_ret2
            exact ⟨none, 0, 0, by rw [HRE.out]; rfl, by rw [HRE.out]; rfl, by rw [HRE.out]; exact Kind.Rd.nil _ _, by rw [HM.out]; exact HB.out⟩
        · have HRE := Lib.hid (show readF b = ([], x) by rw [HRD.out, if_pos h0])
          have hxe : (x == 0) = false := beq_eq_false_iff_ne.2 h0
          go_wp2_with (first | ((with_reducible refine (EN _ a8 HA8.out HL8.out HF.out).out.mono ?_); rintro e8 w8 ⟨rfl, a9, ha8, hl8, hf8, hg8⟩; replace HO := Lib.hid (HO.out.other hg8 (Nat.lt_succ_self _)); replace HB := Lib.hid (below_row HB.out hg8 (Nat.le_refl _) (Nat.le_of_lt HF.out.lt)); replace HF := Lib.hid hf8; clear hf8 hg8 ha8 hl8) | ((with_reducible refine (EN _ a HA.out rfl HF.out).out.mono ?_); rintro e8 w8 ⟨rfl, a8, ha8, hl8, hf8, hg8⟩; replace HO := Lib.hid (HO.out.other hg8 (Nat.lt_succ_self _)); replace HB := Lib.hid (below_row HB.out hg8 (Nat.le_refl _) (Nat.le_of_lt HF.out.lt)); replace HF := Lib.hid hf8; have HA8 := Lib.hid ha8; have HL8 := Lib.hid hl8; clear hf8 hg8 ha8 hl8))
          go_ret2
          exact ⟨none, 0, 0, by rw [HRE.out]; rfl, by rw [HRE.out]; rfl, by rw [HRE.out]; exact Kind.Rd.nil _ _, by rw [HM.out]; exact HB.out⟩
    · obtain ⟨c0, c1, c2, z0, z1, z2⟩ := HF.out.cells
      have HD := Lib.hid (HY.out.trans (by rw [manyR_end nodeRd (n - k) (b.drop a) (.inl (by omega)), List.append_nil]))
      obtain ⟨x, hx⟩ : ∃ x, endR (b.drop a) e = x := ⟨_, rfl⟩
      obtain ⟨v, hv⟩ : ∃ v, rightN dn = v := ⟨_, rfl⟩
      have EN := fun (w' : World) (a' : Nat) (ha : a' ≤ N) (hl : b.drop a = b.drop a') (hf : RfAt w' M A N c a' e) => Lib.hid (rf_end_q (b := b) HN.out hx hl hf ha)
      have HRD := Lib.hid (show readF b = _ from allR2_of HW0.out (HY0.out.trans HD.out) hx hv)
      obtain ⟨n6, hn6⟩ : ∃ n6, n6 = dn.length := ⟨_, rfl⟩
      obtain ⟨A6, c6, rfl, hrd6⟩ := HO.out.read_n hn6
      have LR := fun (w' : World) (ho : kNd.Own w' (M + 1) (.slice A6 n6 c6) dn) => Lib.hid (ref_nright A6 c6 n6 dn hn6 (by omega) v hv w' ho.rd)
      have HN6 := Lib.hid hn6
      clear hrd6 hn6 hx hv
      by_cases h0 : x = 0
      · subst h0
        cases v
        case true =>
          have HRE := Lib.hid (show readF b = (dn, 0) by rw [HRD.out, if_neg (by decide)])
          go_wp2_with (first | ((with_reducible refine (EN _ a HA.out rfl HF.out).out.mono ?_); rintro e8 w8 ⟨rfl, a8, ha8, hl8, hf8, hg8⟩; replace HO := Lib.hid (HO.out.other hg8 (Nat.lt_succ_self _)); replace HB := Lib.hid (below_row HB.out hg8 (Nat.le_refl _) (Nat.le_of_lt HF.out.lt)); replace HF := Lib.hid hf8; have HA8 := Lib.hid ha8; have HL8 := Lib.hid hl8; clear hf8 hg8 ha8 hl8) | ((with_reducible refine (LR _ HO.out).out.mono ?_); rintro e7 w7 ⟨rfl, hq⟩; replace HO := Lib.hid (HO.out.below hq); replace HB := Lib.hid (HB.out.trans (hq.mono (Nat.le_of_lt HF.out.lt))); clear hq))
          go_ret2
          exact ⟨A6, c6, n6, by rw [HRE.out]; rfl, by rw [HRE.out]; exact HN6.out, by rw [HRE.out]; exact HO.out.rd, by rw [HM.out]; exact HB.out⟩
        case false =>
          have HRE := Lib.hid (show readF b = ([], 11) by rw [HRD.out, if_neg (by decide)])
          go_wp2_with (first | ((with_reducible refine (EN _ a HA.out rfl HF.out).out.mono ?_); rintro e8 w8 ⟨rfl, a8, ha8, hl8, hf8, hg8⟩; replace HO := Lib.hid (HO.out.other hg8 (Nat.lt_succ_self _)); replace HB := Lib.hid (below_row HB.out hg8 (Nat.le_refl _) (Nat.le_of_lt HF.out.lt)); replace HF := Lib.hid hf8; have HA8 := Lib.hid ha8; have HL8 := Lib.hid hl8; clear hf8 hg8 ha8 hl8) | ((with_reducible refine (LR _ HO.out).out.mono ?_); rintro e7 w7 ⟨rfl, hq⟩; replace HO := Lib.hid (HO.out.below hq); replace HB := Lib.hid (HB.out.trans (hq.mono (Nat.le_of_lt HF.out.lt))); clear hq))
          go_ret2
          exact ⟨none, 0, 0, by rw [HRE.out]; rfl, by rw [HRE.out]; rfl, by rw [HRE.out]; exact Kind.Rd.nil _ _, by rw [HM.out]; exact HB.out⟩
      · have HRE := Lib.hid (show readF b = ([], x) by rw [HRD.out, if_pos h0])
        have hxe : (x == 0) = false := beq_eq_false_iff_ne.2 h0
        go_wp2_with (first | ((with_reducible refine (EN _ a8 HA8.out HL8.out HF.out).out.mono ?_); rintro e8 w8 ⟨rfl, a9, ha8, hl8, hf8, hg8⟩; replace HO := Lib.hid (HO.out.other hg8 (Nat.lt_succ_self _)); replace HB := Lib.hid (below_row HB.out hg8 (Nat.le_refl _) (Nat.le_of_lt HF.out.lt)); replace HF := Lib.hid hf8; clear hf8 hg8 ha8 hl8) | ((with_reducible refine (EN _ a HA.out rfl HF.out).out.mono ?_); rintro e8 w8 ⟨rfl, a8, ha8, hl8, hf8, hg8⟩; replace HO := Lib.hid (HO.out.other hg8 (Nat.lt_succ_self _)); replace HB := Lib.hid (below_row HB.out hg8 (Nat.le_refl _) (Nat.le_of_lt HF.out.lt)); replace HF := Lib.hid hf8; have HA8 := Lib.hid ha8; have HL8 := Lib.hid hl8; clear hf8 hg8 ha8 hl8))
        go_ret2
        exact ⟨none, 0, 0, by rw [HRE.out]; rfl, by rw [HRE.out]; rfl, by rw [HRE.out]; exact Kind.Rd.nil _ _, by rw [HM.out]; exact HB.out⟩
end Go.Proofs.Ytohdncmlmpnfbaa

/-
  The laws of layer 8: what they ask of the program's functions; the chapter's examples.
-/
namespace Go.Proofs.Ytohdncmlmpnfbaa
open Go.RowKit

/-- A function that makes the right list of what two lists have. -/
def SetC (F : FuncId) (op : Int) : Prop := ∀ (A B : Option Addr) (c d n m : Nat) (a b : List Rng), n = a.length → m = b.length → SmallL 400 a → SmallL 400 b → ∀ w, kRng.Rd w w.heap.size A c a → kRng.Rd w w.heap.size B d b →
  Calls Try.prog F #[.slice A n c, .slice B m d] w (RetR w (makeV op a b))
/-- .. of what one list has. -/
def OneC (F : FuncId) (op : Int) : Prop := ∀ (A : Option Addr) (c n : Nat) (a : List Rng), n = a.length → SmallL 400 a → ∀ w, kRng.Rd w w.heap.size A c a → Calls Try.prog F #[.slice A n c] w (RetR w (makeV op a []))
/-- A function that tells something of two lists. -/
def TellC (F : FuncId) (f : List Rng → List Rng → Bool) : Prop := ∀ (A B : Option Addr) (c d n m : Nat) (a b : List Rng), n = a.length → m = b.length → SmallL 400 a → SmallL 400 b → ∀ v, f a b = v → ∀ w, kRng.Rd w w.heap.size A c a → kRng.Rd w w.heap.size B d b →
  Calls Try.prog F #[.slice A n c, .slice B m d] w fun e w' => e = .returned (.bool v) ∧ Below w.heap.size w w'
def RightC (F : FuncId) : Prop := ∀ (A : Option Addr) (c n : Nat) (a : List Rng), n = a.length → SmallL 400 a → ∀ v, rightL a = v → ∀ w, kRng.Rd w w.heap.size A c a → Calls Try.prog F #[.slice A n c] w fun e w' => e = .returned (.bool v) ∧ Below w.heap.size w w'
def HasC (F : FuncId) : Prop := ∀ (A : Option Addr) (c n : Nat) (a : List Rng) (s : List UInt8), n = a.length → SmallL 400 a → s.length ≤ 1000 → ∀ v, hasL a s = v → ∀ w, kRng.Rd w w.heap.size A c a → Calls Try.prog F #[.slice A n c, .string (str s)] w fun e w' => e = .returned (.bool v) ∧ Below w.heap.size w w'

theorem same_is (A B : Option Addr) (c d : Nat) (a b : List Rng) (v : Bool) (hv : sameL a b = v) (w : World) (ha : kRng.Rd w w.heap.size A c a) (hb : kRng.Rd w w.heap.size B d b) :
    Calls Try.prog 13 #[.slice A a.length c, .slice B b.length d] w fun e w' => e = .returned (.bool v) ∧ Below w.heap.size w w' :=
  (ref_same A B c d _ _ a b rfl rfl v hv w ha hb).mono fun _ _ ⟨h1, _, h2⟩ => ⟨h1, below_quiet h2⟩
theorem set_is {F : FuncId} {op : Int} (h : SetC F op) (A B : Option Addr) (c d n m : Nat) (a b U : List Rng) (hU : makeV op a b = U) (hn : n = a.length) (hm : m = b.length) (ha' : SmallL 400 a) (hb' : SmallL 400 b) (w : World) (ha : kRng.Rd w w.heap.size A c a) (hb : kRng.Rd w w.heap.size B d b) :
    Calls Try.prog F #[.slice A n c, .slice B m d] w (RetR w U) := by
  subst hU
  exact h A B c d n m a b hn hm ha' hb' w ha hb
theorem one_is {F : FuncId} {op : Int} (h : OneC F op) (A : Option Addr) (c n : Nat) (a U : List Rng) (hU : makeV op a [] = U) (hn : n = a.length) (ha' : SmallL 400 a) (w : World) (ha : kRng.Rd w w.heap.size A c a) :
    Calls Try.prog F #[.slice A n c] w (RetR w U) := by
  subst hU
  exact h A c n a hn ha' w ha
theorem longL_small {most : Nat} {l : List Rng} (h : longL most l = false) : SmallL most l := by
  unfold longL at h
  simp only [Bool.or_eq_false_iff, decide_eq_false_iff_not, List.any_eq_false, Bool.or_eq_true, decide_eq_true_eq, not_or] at h
  exact ⟨by omega, fun r hr => by have := h.2 r hr; omega⟩
end Go.Proofs.Ytohdncmlmpnfbaa

/-
  The laws of layer 8: the chapter's examples.
-/
namespace Go.Proofs.Ytohdncmlmpnfbaa
open Go.RowKit

theorem row_two (w : World) (r t : Rng) : kRng.Rd (w.alloc (.cells #[.string (str r.lo), .string (str r.hi), .bool r.op, .string (str t.lo), .string (str t.hi), .bool t.op] 49)) (w.alloc (.cells #[.string (str r.lo), .string (str r.hi), .bool r.op, .string (str t.lo), .string (str t.hi), .bool t.op] 49)).heap.size (some ⟨w.heap.size, 0, none⟩) 2 [r, t] := by
  rw [size1]; exact Kind.rd_new rfl rfl (by simp)
theorem ex_of : makeV 1 [⟨[99], [100], false⟩, ⟨[97], [99], false⟩] [] = [⟨[97], [100], false⟩] := by decide +kernel
theorem ex_not : makeV 4 [] [] = [⟨[], [], true⟩] := by decide +kernel
theorem ex_all : makeV 4 [⟨[], [], true⟩] [] = [] := by decide +kernel
end Go.Proofs.Ytohdncmlmpnfbaa

/-
  The laws of layer 8: RangesSets.
-/
namespace Go.Proofs.Ytohdncmlmpnfbaa
open Go.RowKit

theorem long_is (x : Int) (A : Option Addr) (c n most : Nat) (hx : (most : Int) = x) (l : List Rng) (hn : n = l.length) (hm : most ≤ 1000) (v : Bool) (hv : longL most l = v) (w : World) (hr : kRng.Rd w w.heap.size A c l) :
    Calls Try.prog 7 #[.slice A n c, .int .i64 x] w fun e w' => e = .returned (.bool v) ∧ w = w' := by
  subst hx; exact ref_long A c n most l hn hm v hv w hr
theorem sameL_self (l : List Rng) : sameL l l = true := sameL_iff.2 rfl
end Go.Proofs.Ytohdncmlmpnfbaa

/-
  The laws of layer 9: what they ask of the program's functions; the chapter's example.
-/
namespace Go.Proofs.Ytohdncmlmpnfbaa
open Go.RowKit

/-- How many nodes, and how long their texts. -/
def SmallN (n : Nat) (l : List Nd) : Prop := l.length ≤ n ∧ ∀ r ∈ l, r.lo.length ≤ 1000 ∧ r.hi.length ≤ 1000
/-- What is handed back: a row of nodes that reads. -/
def RetN (w : World) (n : Nat) (l : List Nd) (e : Ending) (w' : World) : Prop := ∃ A c, e = .returned (.slice A n c) ∧ kNd.Rd w' w'.heap.size A c l ∧ Below w.heap.size w w'
/-- .. of ranges, with its length named. -/
def RetRn (w : World) (n : Nat) (l : List Rng) (e : Ending) (w' : World) : Prop := ∃ A c, e = .returned (.slice A n c) ∧ kRng.Rd w' w'.heap.size A c l ∧ Below w.heap.size w w'
theorem RetR.named {w w' : World} {l : List Rng} {e : Ending} {n : Nat} (h : RetR w l e w') (hn : l.length = n) : RetRn w n l e w' := by
  subst hn; exact h
/-- A slice of nodes, as an element. -/
structure Sl where
  A : Option Addr
  n : Nat
  c : Nat
def NRightC (F : FuncId) : Prop := ∀ (A : Option Addr) (c n : Nat) (a : List Nd), n = a.length → SmallN 64 a → ∀ v, rightN a = v → ∀ w, kNd.Rd w w.heap.size A c a → Calls Try.prog F #[.slice A n c] w fun e w' => e = .returned (.bool v) ∧ Below w.heap.size w w'
def NMatchC (F : FuncId) : Prop := ∀ (A : Option Addr) (c n : Nat) (a : List Nd) (s : List UInt8) (U : ByteArray), str s = U → n = a.length → SmallN 64 a → s.length ≤ 1000 → ∀ v, matchN a s = v → ∀ w, kNd.Rd w w.heap.size A c a → Calls Try.prog F #[.slice A n c, .string U] w fun e w' => e = .returned (.bool v) ∧ Below w.heap.size w w'
def NRangesC (F : FuncId) : Prop := ∀ (A : Option Addr) (c n : Nat) (a : List Nd), n = a.length → SmallN 64 a → ∀ w, kNd.Rd w w.heap.size A c a → Calls Try.prog F #[.slice A n c] w (RetR w (rangesN a))
def NNotC (F : FuncId) : Prop := ∀ (A : Option Addr) (c n : Nat) (a : List Nd), n = a.length → SmallN 500 a → ∀ N, (notN a).length = N → ∀ w, kNd.Rd w w.heap.size A c a → Calls Try.prog F #[.slice A n c] w (RetN w N (notN a))
def NLeaf0C (F : FuncId) (l : List Nd) : Prop := ∀ w, Calls Try.prog F #[] w (RetN w 1 l)
def NLeaf1C (F : FuncId) (f : List UInt8 → List Nd) : Prop := ∀ (s : List UInt8) (U : ByteArray), str s = U → s.length ≤ 1000 → ∀ w, Calls Try.prog F #[.string U] w (RetN w 1 (f s))
def NLeaf2C (F : FuncId) (f : List UInt8 → List UInt8 → List Nd) : Prop := ∀ (s t : List UInt8) (U V : ByteArray), str s = U → str t = V → s.length ≤ 1000 → t.length ≤ 1000 → ∀ w, Calls Try.prog F #[.string U, .string V] w (RetN w 1 (f s t))
def preN (s : List UInt8) : List Nd := [⟨3, 0, s, []⟩]
def btwN (s t : List UInt8) : List Nd := [⟨4, 0, s, t⟩]
def fromN (s : List UInt8) : List Nd := [⟨5, 0, s, []⟩]
theorem smallN_of {n : Nat} {l : List Nd} (h : l.length ≤ n) (h2 : l.all (fun r => decide (r.lo.length ≤ 1000) && decide (r.hi.length ≤ 1000)) = true) : SmallN n l := by
  refine ⟨h, fun r hr => ?_⟩
  have := List.all_eq_true.1 h2 r hr
  simpa using this
def awN : List Nd := [⟨3, 0, [97], []⟩, ⟨3, 0, [97, 98], []⟩, ⟨6, 1, [], []⟩, ⟨7, 2, [], []⟩]
theorem awN_right : rightN awN = true := by decide +kernel
theorem awN_ranges : rangesN awN = [⟨[97], [97, 98], false⟩, ⟨[97, 99], [98], false⟩] := by decide +kernel
theorem awN_m1 : matchN awN [97, 99] = true := by decide +kernel
theorem awN_m2 : matchN awN [97, 98, 99] = false := by decide +kernel
end Go.Proofs.Ytohdncmlmpnfbaa

/-
  The laws of layer 9: FilterMatches.
-/
namespace Go.Proofs.Ytohdncmlmpnfbaa
open Go.RowKit

theorem nlong_is (most : Nat) (A : Option Addr) (c n : Nat) (x : Int) (hx : (most : Int) = x) (l : List Nd) (hn : n = l.length) (hm : most ≤ 1000) (v : Bool) (hv : longN most l = v) (w : World) (hr : kNd.Rd w w.heap.size A c l) :
    Calls Try.prog 14 #[.slice A n c, .int .i64 x] w fun e w' => e = .returned (.bool v) ∧ w = w' := by
  subst hx
  exact ref_nlong A c n most l hn hm v hv w hr
theorem longN_small {most : Nat} {l : List Nd} (h : longN most l = false) : SmallN most l := by
  unfold longN at h
  simp only [Bool.or_eq_false_iff, decide_eq_false_iff_not, List.any_eq_false, Bool.or_eq_true, decide_eq_true_eq, not_or] at h
  exact ⟨by omega, fun r hr => by have := h.2 r hr; omega⟩
theorem SmallN.mono {n m : Nat} {l : List Nd} (h : SmallN n l) (hm : n ≤ m) : SmallN m l := ⟨Nat.le_trans h.1 hm, h.2⟩
theorem rsame_is (A B : Option Addr) (c d n : Nat) (a : List Rng) (hn : a.length = n) (w : World) (ha : kRng.Rd w w.heap.size A c a) (hb : kRng.Rd w w.heap.size B d a) :
    Calls Try.prog 13 #[.slice A n c, .slice B n d] w fun e w' => e = .returned (.bool true) ∧ Below w.heap.size w w' :=
  (ref_same A B c d n n a a hn.symm hn.symm true (sameL_iff.2 rfl) w ha hb).mono fun _ _ ⟨h1, _, h2⟩ => ⟨h1, below_quiet h2⟩
end Go.Proofs.Ytohdncmlmpnfbaa

/-
  The laws of layer 10: what they ask of the program's functions; the chapter's examples.
-/
namespace Go.Proofs.Ytohdncmlmpnfbaa
open Go.RowKit

/-- Bytes, and what is wrong. -/
def RetBE (w : World) (N : Nat) (x : Int) (l : List UInt8) (e : Ending) (w' : World) : Prop := ∃ A c, e = .returned (.tuple #[.slice A N c, .int .i64 x]) ∧ RdB w' w'.heap.size A c l ∧ Below w.heap.size w w'
/-- A list, and what is wrong. -/
def RetLE {α : Type} (K : Kind Try.prog α) (w : World) (N : Nat) (x : Int) (l : List α) (e : Ending) (w' : World) : Prop := ∃ A c, e = .returned (.tuple #[.slice A N c, .int .i64 x]) ∧ K.Rd w' w'.heap.size A c l ∧ Below w.heap.size w w'
def PutC {α : Type} (K : Kind Try.prog α) (small : List α → Prop) (right : List α → Bool) (put : List α → List UInt8) (F : FuncId) : Prop := ∀ (A : Option Addr) (c n : Nat) (a : List α), n = a.length → small a →
  (right a = true → ∀ N l, put a = l → l.length = N → ∀ w, K.Rd w w.heap.size A c a → Calls Try.prog F #[.slice A n c] w (RetBE w N 0 l)) ∧ (right a = false → ∀ w, K.Rd w w.heap.size A c a → Calls Try.prog F #[.slice A n c] w (RetBE w 0 2 []))
def ReadC {α : Type} (K : Kind Try.prog α) (read : List UInt8 → List α × Int) (F : FuncId) : Prop := ∀ (A : Option Addr) (c n : Nat) (b : List UInt8), n = b.length → n ≤ 200000 → ∀ (N : Nat) (y : List α) (x : Int), read b = (y, x) → y.length = N → ∀ w, RdB w w.heap.size A c b → Calls Try.prog F #[.slice A n c] w (RetLE K w N x y)
theorem RdB.call {w w' : World} {A : Option Addr} {c : Nat} {l : List UInt8} (h : RdB w w.heap.size A c l) (hb : Below w.heap.size w w') : RdB w' w'.heap.size A c l := ⟨(h.row.below hb).more hb.size, h.room, h.cap⟩
theorem rdB_new (w : World) (cs : Array Value) (l : List UInt8) (n : Nat) (hl : cs.toList = bytes l) (hn : n = l.length) (hm : l.length ≤ 1000000) : RdB (w.alloc (.cells cs 5)) (w.alloc (.cells cs 5)).heap.size (some ⟨w.heap.size, 0, none⟩) n l := rdB_block (heap_new w _ _ rfl) hl hn hm
theorem exR : rngsB [⟨[], [], true⟩] = [1, 0, 1] := by simp [rngsB, rngB, txtB, putV_zero, putV_one]
theorem exF : filterB [⟨1, 0, [], []⟩] = [1, 1] := by simp [filterB, nodeB, opB, putV_one]
theorem bytes_is (A A2 : Option Addr) (c c2 n : Nat) (a : List UInt8) (hn : n = a.length) (hl : a.length ≤ 1000000) (w : World) (ha : RdB w w.heap.size A c a) (hb : RdB w w.heap.size A2 c2 a) :
    Calls Try.prog 11 #[.slice A n c, .slice A2 n c2] w fun e w' => e = .returned (.bool true) ∧ Below w.heap.size w w' :=
  (ref_eq_same A A2 c c2 n n _ _ a w hn hn ha.row hb.row (by omega)).mono fun _ _ ⟨h1, h2⟩ => ⟨h1, grown_none h2⟩
set_option maxRecDepth 100000 in
set_option maxHeartbeats 4000000 in
theorem awake10 (HP : PutC kRng (SmallL 60) rightL rngsB 8) (HF : PutC kNd (SmallN 60) rightN filterB 15) (w : World) :
    Calls Try.prog 6 #[] w fun e w' => e = .returned (.bool true) ∧ Below w.heap.size w w' := by
  have R1 := fun A c w hr => Lib.hid ((HP A c 1 [⟨[], [], true⟩] rfl ⟨by simp, fun r hr => by simp at hr; subst hr; simp⟩).1 (by decide) 3 _ exR rfl w hr)
  have F1 := fun A c w hr => Lib.hid ((HF A c 1 [⟨1, 0, [], []⟩] rfl ⟨by simp, fun r hr => by simp at hr; subst hr; simp⟩).1 (by decide) 2 _ exF rfl w hr)
  have Q1 := fun (w : World) => Lib.hid (show kRng.Rd (w.alloc (.cells #[.string ⟨#[]⟩, .string ⟨#[]⟩, .bool true] 49)) (w.alloc (.cells #[.string ⟨#[]⟩, .string ⟨#[]⟩, .bool true] 49)).heap.size (some ⟨w.heap.size, 0, none⟩) 1 [⟨[], [], true⟩] by rw [size1]; exact Kind.rd_new (k := kRng) (l := [⟨[], [], true⟩]) rfl rfl (by simp))
  have Q2 := fun (w : World) => Lib.hid (show kNd.Rd (w.alloc (.cells #[.int .i64 1, .int .i64 0, .string ⟨#[]⟩, .string ⟨#[]⟩] 51)) (w.alloc (.cells #[.int .i64 1, .int .i64 0, .string ⟨#[]⟩, .string ⟨#[]⟩] 51)).heap.size (some ⟨w.heap.size, 0, none⟩) 1 [⟨1, 0, [], []⟩] by rw [size1]; exact ndq_rd w 1 0 _ _ [] [] rfl rfl)
  clear HP HF
  go_enter Try.func6, Try.ntmps6
  go_upto_region 3 with (first
    | ((with_reducible refine (R1 _ _ _ (Q1 _).out).out.mono ?_); rintro e w8 ⟨A1, c1, rfl, hr, hq⟩; have HB := Lib.hid ((below_new w _).trans (hq.mono (by rw [size1]; omega))); have H1 := Lib.hid hr; clear hr hq)
    | ((with_reducible refine (F1 _ _ _ (Q2 _).out).out.mono ?_); rintro e w9 ⟨A2, c2, rfl, hr, hq⟩; replace H1 := Lib.hid ((H1.out.call (below_new w8 _)).call hq); replace HB := Lib.hid (HB.out.trans (((below_new w8 _).trans (hq.mono (by rw [size1]; omega))).mono HB.out.size)); have H2 := Lib.hid hr; clear hr hq))
  clear R1 F1 Q1 Q2
  have E1 := fun (w : World) hb hc => Lib.hid (bytes_is A1 (some ⟨w.heap.size, 0, none⟩) c1 3 3 [1, 0, 1] rfl (by simp) (w.alloc (.cells #[.int .u8 1, .int .u8 0, .int .u8 1] 5)) hb hc)
  have E2 := fun (w : World) hb hc => Lib.hid (bytes_is A2 (some ⟨w.heap.size, 0, none⟩) c2 2 2 [1, 1] rfl (by simp) (w.alloc (.cells #[.int .u8 1, .int .u8 1] 5)) hb hc)
  go_wp2_with (first
    | ((with_reducible refine (E1 _ (H1.out.call (below_new _ _)) (rdB_new _ _ _ _ rfl rfl (by simp))).out.mono ?_); rintro e w7 ⟨rfl, hq⟩; replace H2 := Lib.hid ((H2.out.call (below_new w9 _)).call hq); replace HB := Lib.hid (HB.out.trans (((below_new w9 _).trans (hq.mono (by rw [size1]; omega))).mono HB.out.size)); clear hq)
    | ((with_reducible refine (E2 _ (H2.out.call (below_new _ _)) (rdB_new _ _ _ _ rfl rfl (by simp))).out.mono ?_); rintro e w6 ⟨rfl, hq⟩; replace HB := Lib.hid (HB.out.trans (((below_new w7 _).trans (hq.mono (by rw [size1]; omega))).mono HB.out.size)); clear hq))
  go_ret
  exact ⟨rfl, HB.out⟩
end Go.Proofs.Ytohdncmlmpnfbaa

/-
  The laws of layer 10: FcodeRanges, FcodeFilter.
-/
namespace Go.Proofs.Ytohdncmlmpnfbaa
open Go.RowKit

/-- A row of bytes that is handed back, its length named. -/
def RetBR (w : World) (N : Nat) (l : List UInt8) (e : Ending) (w' : World) : Prop := ∃ A c, e = .returned (.slice A N c) ∧ RdB w' w'.heap.size A c l ∧ Below w.heap.size w w'
theorem RetB.named {w w' : World} {l L : List UInt8} {e : Ending} {N : Nat} (h : RetB w.heap.size w l e w') (hL : l = L) (hN : L.length = N) : RetBR w N L e w' := by
  subst hL
  obtain ⟨v, h1, h2, h3⟩ := h
  obtain ⟨A, c, rfl, h4⟩ := h2.read_n hN.symm
  exact ⟨A, c, h1, h4, h3⟩
theorem txtB_len1 {s : List UInt8} (h : s.length ≤ 1000) : (txtB s).length ≤ 1009 := by
  have := putV_len10 s.length (by omega)
  unfold txtB
  rw [List.length_append]
  omega
theorem rngsB_len1 {l : List Rng} (h : SmallL 60 l) : (rngsB l).length ≤ 200000 := by
  have h0 := putV_len10 l.length (by have := h.1; omega)
  have h1 := flat_len rngB 2019 l (fun r hr => by
    have h1 := txtB_len1 (h.2 r hr).1
    have h2 := txtB_len1 (h.2 r hr).2
    unfold rngB
    rw [List.length_append]
    cases r.op <;> simp <;> omega)
  have h2 : l.length * 2019 ≤ 60 * 2019 := Nat.mul_le_mul_right _ h.1
  unfold rngsB
  rw [List.length_append]
  omega
theorem filterB_len1 {l : List Nd} (h : SmallN 60 l) : (filterB l).length ≤ 200000 := by
  have h0 := putV_len10 l.length (by have := h.1; omega)
  have h1 := flat_len nodeB 2020 l (fun r hr => by
    have h1 := txtB_len1 (h.2 r hr).1
    have h2 := txtB_len1 (h.2 r hr).2
    have e1 : (if 3 ≤ r.op ∧ r.op ≤ 5 then txtB r.lo else []).length ≤ 1009 := by by_cases h : 3 ≤ r.op ∧ r.op ≤ 5 <;> first | (rw [if_pos h]; omega) | (rw [if_neg h]; simp)
    have e2 : (if r.op = 4 then txtB r.hi else []).length ≤ 1009 := by by_cases h : r.op = 4 <;> first | (rw [if_pos h]; omega) | (rw [if_neg h]; simp)
    have e3 : (if 7 ≤ r.op then [opB r.kids] else []).length ≤ 1 := by split <;> simp
    unfold nodeB
    rw [List.length_cons, List.length_append, List.length_append]
    omega)
  have h2 : l.length * 2020 ≤ 60 * 2020 := Nat.mul_le_mul_right _ h.1
  unfold filterB
  rw [List.length_append]
  omega
theorem nsame10_is (A B : Option Addr) (c d n : Nat) (a : List Nd) (hn : a.length = n) (w : World) (ha : kNd.Rd w w.heap.size A c a) (hb : kNd.Rd w w.heap.size B d a) :
    Calls Try.prog 19 #[.slice A n c, .slice B n d] w fun e w' => e = .returned (.bool true) ∧ Below w.heap.size w w' :=
  (ref_nsame A B c d n n a a hn.symm hn.symm true (sameN_iff.2 rfl) w ha hb).mono fun _ _ ⟨h1, _, h2⟩ => ⟨h1, below_quiet h2⟩
set_option maxRecDepth 100000 in
set_option maxHeartbeats 4000000 in
theorem fcodeRanges_walk (HP : PutC kRng (SmallL 60) rightL rngsB 8) (HF : PutC kNd (SmallN 60) rightN filterB 15) (HRD : ReadC kRng readRs 10)
    (A : Option Addr) (c n : Nat) (l : List Rng) (hn : n = l.length) (w : World) (ha : kRng.Rd w w.heap.size A c l) :
    Calls Try.prog 3 #[.slice A n c] w fun e w' => e = .returned (.bool true) ∧ Below w.heap.size w w' := by
  have A0 := fun w => Lib.hid (awake10 HP HF w)
  obtain ⟨va, hva⟩ : ∃ v, longL 60 l = v := ⟨_, rfl⟩
  have La := fun w hr => Lib.hid (long_is 60 A c n 60 rfl l hn (by omega) va hva w hr)
  have HA := Lib.hid ha
  have HW := Lib.hid (Below.refl w.heap.size w)
  cases va
  case true =>
    clear HP HF HRD hva hn ha
    go_enter Try.func3, Try.ntmps3
    go_wp2_with (first
      | ((with_reducible refine (A0 _).out.mono ?_); rintro e w9 ⟨rfl, hq⟩; replace HW := Lib.hid (HW.out.trans (hq.mono HW.out.size)); replace HA := Lib.hid (HA.out.call hq); (try replace H1 := Lib.hid (H1.out.call hq)); (try replace H2 := Lib.hid (H2.out.call hq)); (try replace H3 := Lib.hid (H3.out.call hq)); clear hq)
      | ((with_reducible refine (La _ HA.out).out.mono ?_); rintro e w9 ⟨rfl, rfl⟩))
    go_ret
    exact ⟨rfl, HW.out⟩
  case false =>
    have hsm := longL_small hva
    obtain ⟨v1, hv1⟩ : ∃ v, rightL l = v := ⟨_, rfl⟩
    have RL := fun w hr => Lib.hid (ref_lright A c n l hn (fun r hr => by have := (hsm.2 r hr).2; omega) v1 hv1 w hr)
    have hp := HP A c n l hn hsm
    cases v1
    case false =>
      have P0 := fun w hr => Lib.hid (hp.2 hv1 w hr)
      clear HP HF HRD hva hn ha hsm hv1 hp
      go_enter Try.func3, Try.ntmps3
      go_wp2_with (first
        | ((with_reducible refine (A0 _).out.mono ?_); rintro e w9 ⟨rfl, hq⟩; replace HW := Lib.hid (HW.out.trans (hq.mono HW.out.size)); replace HA := Lib.hid (HA.out.call hq); (try replace H1 := Lib.hid (H1.out.call hq)); (try replace H2 := Lib.hid (H2.out.call hq)); (try replace H3 := Lib.hid (H3.out.call hq)); clear hq)
        | ((with_reducible refine (La _ HA.out).out.mono ?_); rintro e w9 ⟨rfl, rfl⟩)
        | ((with_reducible refine (P0 _ HA.out).out.mono ?_); rintro e w9 ⟨A1, c1, rfl, hr, hq⟩; replace HW := Lib.hid (HW.out.trans (hq.mono HW.out.size)); replace HA := Lib.hid (HA.out.call hq); (try replace H1 := Lib.hid (H1.out.call hq)); (try replace H2 := Lib.hid (H2.out.call hq)); (try replace H3 := Lib.hid (H3.out.call hq)); have H1 := Lib.hid hr; clear hr hq)
        | ((with_reducible refine (RL _ HA.out).out.mono ?_); rintro e w9 ⟨rfl, hq⟩; replace HW := Lib.hid (HW.out.trans (hq.mono HW.out.size)); replace HA := Lib.hid (HA.out.call hq); (try replace H1 := Lib.hid (H1.out.call hq)); (try replace H2 := Lib.hid (H2.out.call hq)); (try replace H3 := Lib.hid (H3.out.call hq)); clear hq))
      go_ret
      exact ⟨rfl, HW.out⟩
    case true =>
      obtain ⟨L, hL⟩ : ∃ L, rngsB l = L := ⟨_, rfl⟩
      obtain ⟨N, hN⟩ : ∃ N, L.length = N := ⟨_, rfl⟩
      have hN9 : N ≤ 200000 := by
        rw [← hN, ← hL]
        exact rngsB_len1 hsm
      have P1 := fun w hr => Lib.hid (hp.1 hv1 N L hL hN w hr)
      have RD := fun A1 c1 w hr => Lib.hid (HRD A1 c1 N L hN.symm hN9 n l 0 (by rw [← hL]; exact readRs_put l hv1 (by have := hsm.1; omega)) hn.symm w hr)
      have RR := fun w hr => Lib.hid ((ref_frngs A c n l hn (by have := hsm.1; omega) (fun r hr => by have := hsm.2 r hr; omega) w hr).mono fun e w' h => RetB.named h hL hN)
      have EQ := fun A1 A2 c1 c2 w h1 h2 => Lib.hid (bytes_is A1 A2 c1 c2 N L hN.symm (by omega) w h1 h2)
      have SM := fun A1 c1 w h1 h2 => Lib.hid (rsame_is A1 A c1 c n l hn.symm w h1 h2)
      clear HP HF HRD hva hn ha hsm hv1 hp hL hN hN9
      go_enter Try.func3, Try.ntmps3
      go_wp2_with (first
        | ((with_reducible refine (A0 _).out.mono ?_); rintro e w9 ⟨rfl, hq⟩; replace HW := Lib.hid (HW.out.trans (hq.mono HW.out.size)); replace HA := Lib.hid (HA.out.call hq); (try replace H1 := Lib.hid (H1.out.call hq)); (try replace H2 := Lib.hid (H2.out.call hq)); (try replace H3 := Lib.hid (H3.out.call hq)); clear hq)
        | ((with_reducible refine (La _ HA.out).out.mono ?_); rintro e w9 ⟨rfl, rfl⟩)
        | ((with_reducible refine (P1 _ HA.out).out.mono ?_); rintro e w9 ⟨A1, c1, rfl, hr, hq⟩; replace HW := Lib.hid (HW.out.trans (hq.mono HW.out.size)); replace HA := Lib.hid (HA.out.call hq); (try replace H1 := Lib.hid (H1.out.call hq)); (try replace H2 := Lib.hid (H2.out.call hq)); (try replace H3 := Lib.hid (H3.out.call hq)); have H1 := Lib.hid hr; clear hr hq)
        | ((with_reducible refine (RL _ HA.out).out.mono ?_); rintro e w9 ⟨rfl, hq⟩; replace HW := Lib.hid (HW.out.trans (hq.mono HW.out.size)); replace HA := Lib.hid (HA.out.call hq); (try replace H1 := Lib.hid (H1.out.call hq)); (try replace H2 := Lib.hid (H2.out.call hq)); (try replace H3 := Lib.hid (H3.out.call hq)); clear hq)
        | ((with_reducible refine (RD _ _ _ H1.out).out.mono ?_); rintro e w9 ⟨A2, c2, rfl, hr, hq⟩; replace HW := Lib.hid (HW.out.trans (hq.mono HW.out.size)); replace HA := Lib.hid (HA.out.call hq); (try replace H1 := Lib.hid (H1.out.call hq)); (try replace H2 := Lib.hid (H2.out.call hq)); (try replace H3 := Lib.hid (H3.out.call hq)); have H2 := Lib.hid hr; clear hr hq)
        | ((with_reducible refine (RR _ HA.out).out.mono ?_); rintro e w9 ⟨A3, c3, rfl, hr, hq⟩; replace HW := Lib.hid (HW.out.trans (hq.mono HW.out.size)); replace HA := Lib.hid (HA.out.call hq); (try replace H1 := Lib.hid (H1.out.call hq)); (try replace H2 := Lib.hid (H2.out.call hq)); (try replace H3 := Lib.hid (H3.out.call hq)); have H3 := Lib.hid hr; clear hr hq)
        | ((with_reducible refine (EQ _ _ _ _ _ H1.out H3.out).out.mono ?_); rintro e w9 ⟨rfl, hq⟩; replace HW := Lib.hid (HW.out.trans (hq.mono HW.out.size)); replace HA := Lib.hid (HA.out.call hq); (try replace H1 := Lib.hid (H1.out.call hq)); (try replace H2 := Lib.hid (H2.out.call hq)); (try replace H3 := Lib.hid (H3.out.call hq)); clear hq)
        | ((with_reducible refine (SM _ _ _ H2.out HA.out).out.mono ?_); rintro e w9 ⟨rfl, hq⟩; replace HW := Lib.hid (HW.out.trans (hq.mono HW.out.size)); replace HA := Lib.hid (HA.out.call hq); (try replace H1 := Lib.hid (H1.out.call hq)); (try replace H2 := Lib.hid (H2.out.call hq)); (try replace H3 := Lib.hid (H3.out.call hq)); clear hq))
      go_ret
      exact ⟨rfl, HW.out⟩
set_option maxRecDepth 100000 in
set_option maxHeartbeats 4000000 in
theorem fcodeFilter_walk (HP : PutC kRng (SmallL 60) rightL rngsB 8) (HF : PutC kNd (SmallN 60) rightN filterB 15) (HRD : ReadC kNd readF 17)
    (A : Option Addr) (c n : Nat) (l : List Nd) (hn : n = l.length) (w : World) (ha : kNd.Rd w w.heap.size A c l) :
    Calls Try.prog 4 #[.slice A n c] w fun e w' => e = .returned (.bool true) ∧ Below w.heap.size w w' := by
  have A0 := fun w => Lib.hid (awake10 HP HF w)
  obtain ⟨va, hva⟩ : ∃ v, longN 60 l = v := ⟨_, rfl⟩
  have La := fun w hr => Lib.hid (nlong_is 60 A c n 60 rfl l hn (by omega) va hva w hr)
  have HA := Lib.hid ha
  have HW := Lib.hid (Below.refl w.heap.size w)
  cases va
  case true =>
    clear HP HF HRD hva hn ha
    go_enter Try.func4, Try.ntmps4
    go_wp2_with (first
      | ((with_reducible refine (A0 _).out.mono ?_); rintro e w9 ⟨rfl, hq⟩; replace HW := Lib.hid (HW.out.trans (hq.mono HW.out.size)); replace HA := Lib.hid (HA.out.call hq); (try replace H1 := Lib.hid (H1.out.call hq)); (try replace H2 := Lib.hid (H2.out.call hq)); (try replace H3 := Lib.hid (H3.out.call hq)); clear hq)
      | ((with_reducible refine (La _ HA.out).out.mono ?_); rintro e w9 ⟨rfl, rfl⟩))
    go_ret
    exact ⟨rfl, HW.out⟩
  case false =>
    have hsm := longN_small hva
    obtain ⟨v1, hv1⟩ : ∃ v, rightN l = v := ⟨_, rfl⟩
    have RL := fun w hr => Lib.hid (ref_nright A c n l hn (by have := hsm.1; omega) v1 hv1 w hr)
    have hp := HF A c n l hn hsm
    cases v1
    case false =>
      have P0 := fun w hr => Lib.hid (hp.2 hv1 w hr)
      clear HP HF HRD hva hn ha hsm hv1 hp
      go_enter Try.func4, Try.ntmps4
      go_wp2_with (first
        | ((with_reducible refine (A0 _).out.mono ?_); rintro e w9 ⟨rfl, hq⟩; replace HW := Lib.hid (HW.out.trans (hq.mono HW.out.size)); replace HA := Lib.hid (HA.out.call hq); (try replace H1 := Lib.hid (H1.out.call hq)); (try replace H2 := Lib.hid (H2.out.call hq)); (try replace H3 := Lib.hid (H3.out.call hq)); clear hq)
        | ((with_reducible refine (La _ HA.out).out.mono ?_); rintro e w9 ⟨rfl, rfl⟩)
        | ((with_reducible refine (P0 _ HA.out).out.mono ?_); rintro e w9 ⟨A1, c1, rfl, hr, hq⟩; replace HW := Lib.hid (HW.out.trans (hq.mono HW.out.size)); replace HA := Lib.hid (HA.out.call hq); (try replace H1 := Lib.hid (H1.out.call hq)); (try replace H2 := Lib.hid (H2.out.call hq)); (try replace H3 := Lib.hid (H3.out.call hq)); have H1 := Lib.hid hr; clear hr hq)
        | ((with_reducible refine (RL _ HA.out).out.mono ?_); rintro e w9 ⟨rfl, hq⟩; replace HW := Lib.hid (HW.out.trans (hq.mono HW.out.size)); replace HA := Lib.hid (HA.out.call hq); (try replace H1 := Lib.hid (H1.out.call hq)); (try replace H2 := Lib.hid (H2.out.call hq)); (try replace H3 := Lib.hid (H3.out.call hq)); clear hq))
      go_ret
      exact ⟨rfl, HW.out⟩
    case true =>
      obtain ⟨L, hL⟩ : ∃ L, filterB l = L := ⟨_, rfl⟩
      obtain ⟨N, hN⟩ : ∃ N, L.length = N := ⟨_, rfl⟩
      have hN9 : N ≤ 200000 := by
        rw [← hN, ← hL]
        exact filterB_len1 hsm
      have P1 := fun w hr => Lib.hid (hp.1 hv1 N L hL hN w hr)
      have RD := fun A1 c1 w hr => Lib.hid (HRD A1 c1 N L hN.symm hN9 n l 0 (by rw [← hL]; exact readF_put l hv1) hn.symm w hr)
      have RR := fun w hr => Lib.hid ((ref_ffilter A c n l hn (by have := hsm.1; omega) (fun r hr => by have := hsm.2 r hr; omega) (rightN_all hv1) w hr).mono fun e w' h => RetB.named h hL hN)
      have EQ := fun A1 A2 c1 c2 w h1 h2 => Lib.hid (bytes_is A1 A2 c1 c2 N L hN.symm (by omega) w h1 h2)
      have SM := fun A1 c1 w h1 h2 => Lib.hid (nsame10_is A1 A c1 c n l hn.symm w h1 h2)
      clear HP HF HRD hva hn ha hsm hv1 hp hL hN hN9
      go_enter Try.func4, Try.ntmps4
      go_wp2_with (first
        | ((with_reducible refine (A0 _).out.mono ?_); rintro e w9 ⟨rfl, hq⟩; replace HW := Lib.hid (HW.out.trans (hq.mono HW.out.size)); replace HA := Lib.hid (HA.out.call hq); (try replace H1 := Lib.hid (H1.out.call hq)); (try replace H2 := Lib.hid (H2.out.call hq)); (try replace H3 := Lib.hid (H3.out.call hq)); clear hq)
        | ((with_reducible refine (La _ HA.out).out.mono ?_); rintro e w9 ⟨rfl, rfl⟩)
        | ((with_reducible refine (P1 _ HA.out).out.mono ?_); rintro e w9 ⟨A1, c1, rfl, hr, hq⟩; replace HW := Lib.hid (HW.out.trans (hq.mono HW.out.size)); replace HA := Lib.hid (HA.out.call hq); (try replace H1 := Lib.hid (H1.out.call hq)); (try replace H2 := Lib.hid (H2.out.call hq)); (try replace H3 := Lib.hid (H3.out.call hq)); have H1 := Lib.hid hr; clear hr hq)
        | ((with_reducible refine (RL _ HA.out).out.mono ?_); rintro e w9 ⟨rfl, hq⟩; replace HW := Lib.hid (HW.out.trans (hq.mono HW.out.size)); replace HA := Lib.hid (HA.out.call hq); (try replace H1 := Lib.hid (H1.out.call hq)); (try replace H2 := Lib.hid (H2.out.call hq)); (try replace H3 := Lib.hid (H3.out.call hq)); clear hq)
        | ((with_reducible refine (RD _ _ _ H1.out).out.mono ?_); rintro e w9 ⟨A2, c2, rfl, hr, hq⟩; replace HW := Lib.hid (HW.out.trans (hq.mono HW.out.size)); replace HA := Lib.hid (HA.out.call hq); (try replace H1 := Lib.hid (H1.out.call hq)); (try replace H2 := Lib.hid (H2.out.call hq)); (try replace H3 := Lib.hid (H3.out.call hq)); have H2 := Lib.hid hr; clear hr hq)
        | ((with_reducible refine (RR _ HA.out).out.mono ?_); rintro e w9 ⟨A3, c3, rfl, hr, hq⟩; replace HW := Lib.hid (HW.out.trans (hq.mono HW.out.size)); replace HA := Lib.hid (HA.out.call hq); (try replace H1 := Lib.hid (H1.out.call hq)); (try replace H2 := Lib.hid (H2.out.call hq)); (try replace H3 := Lib.hid (H3.out.call hq)); have H3 := Lib.hid hr; clear hr hq)
        | ((with_reducible refine (EQ _ _ _ _ _ H1.out H3.out).out.mono ?_); rintro e w9 ⟨rfl, hq⟩; replace HW := Lib.hid (HW.out.trans (hq.mono HW.out.size)); replace HA := Lib.hid (HA.out.call hq); (try replace H1 := Lib.hid (H1.out.call hq)); (try replace H2 := Lib.hid (H2.out.call hq)); (try replace H3 := Lib.hid (H3.out.call hq)); clear hq)
        | ((with_reducible refine (SM _ _ _ H2.out HA.out).out.mono ?_); rintro e w9 ⟨rfl, hq⟩; replace HW := Lib.hid (HW.out.trans (hq.mono HW.out.size)); replace HA := Lib.hid (HA.out.call hq); (try replace H1 := Lib.hid (H1.out.call hq)); (try replace H2 := Lib.hid (H2.out.call hq)); (try replace H3 := Lib.hid (H3.out.call hq)); clear hq))
      go_ret
      exact ⟨rfl, HW.out⟩
end Go.Proofs.Ytohdncmlmpnfbaa

/-
  The laws of layer 10: FcodeReads.
-/
namespace Go.Proofs.Ytohdncmlmpnfbaa
open Go.RowKit

theorem RetRs.named {w w' : World} {x : List Rng × Int} {l : List Rng} {f : Int} {e : Ending} {N : Nat} (h : RetRs w x e w') (hx : x = (l, f)) (hN : l.length = N) : RetLE kRng w N f l e w' := by
  subst hx
  obtain ⟨A, c, n, h1, h2, h3, h4⟩ := h
  subst hN h2
  exact ⟨A, c, h1, h3, h4⟩
theorem RetNs.named {w w' : World} {x : List Nd × Int} {l : List Nd} {f : Int} {e : Ending} {N : Nat} (h : RetNs w x e w') (hx : x = (l, f)) (hN : l.length = N) : RetLE kNd w N f l e w' := by
  subst hx
  obtain ⟨A, c, n, h1, h2, h3, h4⟩ := h
  subst hN h2
  exact ⟨A, c, h1, h3, h4⟩
theorem rightR_len {r : Rng} (h : rightR r = true) : r.lo.length ≤ 17 ∧ r.hi.length ≤ 17 := by
  obtain ⟨lo, hi, op⟩ := r
  unfold rightR at h
  rw [Bool.and_eq_true, decide_eq_true_eq] at h
  obtain ⟨h1, h2⟩ := h
  refine ⟨h1, ?_⟩
  cases op with
  | true => simp at h2; simp [h2]
  | false => simp only [Bool.and_eq_true, decide_eq_true_eq] at h2; exact h2.1
theorem nodeV_len {n : Nd} (h : nodeV n = true) : n.lo.length ≤ 17 ∧ n.hi.length ≤ 17 := by
  unfold nodeV at h
  split at h
  · simp at h; simp [h.2.1, h.2.2]
  · split at h
    · simp at h; simp [h.2.2]; omega
    · split at h
      · simp only [Bool.and_eq_true] at h; exact rightR_len h.2
      · split at h
        · simp at h; simp [h.2.2]; omega
        · simp only [Bool.and_eq_true, List.isEmpty_iff] at h; simp [h.1.1, h.1.2]
set_option maxRecDepth 100000 in
set_option maxHeartbeats 8000000 in
theorem fcodeReads_walk (HP : PutC kRng (SmallL 60) rightL rngsB 8) (HF : PutC kNd (SmallN 60) rightN filterB 15) (HR1 : ReadC kRng readRs 10) (HR2 : ReadC kNd readF 17)
    (A : Option Addr) (c n : Nat) (b : List UInt8) (hn : n = b.length) (w : World) (ha : RdB w w.heap.size A c b) :
    Calls Try.prog 5 #[.slice A n c] w fun e w' => e = .returned (.bool true) ∧ Below w.heap.size w w' := by
  have A0 := fun w => Lib.hid (awake10 HP HF w)
  have HA := Lib.hid ha
  have HW := Lib.hid (Below.refl w.heap.size w)
  by_cases h15 : n ≤ 1500
  · obtain ⟨L, f, h1⟩ : ∃ L f, readRs b = (L, f) := ⟨_, _, rfl⟩
    obtain ⟨X, g, h2⟩ : ∃ X g, readF b = (X, g) := ⟨_, _, rfl⟩
    obtain ⟨N1, hN1⟩ : ∃ N, L.length = N := ⟨_, rfl⟩
    obtain ⟨N2, hN2⟩ : ∃ N, X.length = N := ⟨_, rfl⟩
    have D1 := fun w hr => Lib.hid (HR1 A c n b hn (by omega) N1 L f h1 hN1 w hr)
    have R1 := fun w hr => Lib.hid ((ref_rdrngs A c n b hn (by omega) w hr).mono fun e w' h => RetRs.named h h1 hN1)
    have D2 := fun w hr => Lib.hid (HR2 A c n b hn (by omega) N2 X g h2 hN2 w hr)
    have R2 := fun w hr => Lib.hid ((ref_rdflt A c n b hn (by omega) w hr).mono fun e w' h => RetNs.named h h2 hN2)
    have S1 := fun A1 A2 c1 c2 w p q => Lib.hid (rsame_is A1 A2 c1 c2 N1 L hN1 w p q)
    have S2 := fun A1 A2 c1 c2 w p q => Lib.hid (nsame10_is A1 A2 c1 c2 N2 X hN2 w p q)
    have PR0 : f = 0 → ∀ A1 c1 w, kRng.Rd w w.heap.size A1 c1 L → Hid (Calls Try.prog 12 #[.slice A1 N1 c1] w (RetBR w n b)) := fun hf A1 c1 w hr => Lib.hid (by
      subst hf
      obtain ⟨g1, g2, g3⟩ := allR2_back (g := rngB) (fun _ _ _ _ hx => rngR_back hx) h1
      exact (ref_frngs A1 c1 N1 L hN1.symm (by omega) (fun r hr => by have := rightR_len (rightL_all g1 r hr); omega) w hr).mono fun e w' h => RetB.named h g2.symm hn.symm)
    have PF0 : g = 0 → ∀ A1 c1 w, kNd.Rd w w.heap.size A1 c1 X → Hid (Calls Try.prog 18 #[.slice A1 N2 c1] w (RetBR w n b)) := fun hf A1 c1 w hr => Lib.hid (by
      subst hf
      obtain ⟨g1, g2, g3⟩ := allR2_back (g := nodeB) (fun _ _ _ _ hx => nodeRd_back hx) h2
      exact (ref_ffilter A1 c1 N2 X hN2.symm (by omega) (fun r hr => by have := nodeV_len (rightN_all g1 r hr); omega) (rightN_all g1) w hr).mono fun e w' h => RetB.named h g2.symm hn.symm)
    have EQ := fun A1 c1 w p q => Lib.hid (bytes_is A1 A c1 c n b hn (by omega) w p q)
    clear HP HF HR1 HR2 h1 h2 hn ha hN1 hN2
    by_cases hf : f = 0
    · have PR := PR0 hf
      subst hf
      by_cases hg : g = 0
      · have PF := PF0 hg
        subst hg
        clear PR0 PF0
        go_enter Try.func5, Try.ntmps5
        go_wp2_with (first
        | ((with_reducible refine (A0 _).out.mono ?_); rintro e w9 ⟨rfl, hq⟩; replace HW := Lib.hid (HW.out.trans (hq.mono HW.out.size)); replace HA := Lib.hid (HA.out.call hq); (try replace H1 := Lib.hid (H1.out.call hq)); (try replace H2 := Lib.hid (H2.out.call hq)); (try replace H3 := Lib.hid (H3.out.call hq)); (try replace H4 := Lib.hid (H4.out.call hq)); (try replace H5 := Lib.hid (H5.out.call hq)); (try replace H6 := Lib.hid (H6.out.call hq)); clear hq)
        | ((with_reducible refine (D1 _ HA.out).out.mono ?_); rintro e w9 ⟨A1, c1, rfl, hr, hq⟩; replace HW := Lib.hid (HW.out.trans (hq.mono HW.out.size)); replace HA := Lib.hid (HA.out.call hq); (try replace H1 := Lib.hid (H1.out.call hq)); (try replace H2 := Lib.hid (H2.out.call hq)); (try replace H3 := Lib.hid (H3.out.call hq)); (try replace H4 := Lib.hid (H4.out.call hq)); (try replace H5 := Lib.hid (H5.out.call hq)); (try replace H6 := Lib.hid (H6.out.call hq)); have H1 := Lib.hid hr; clear hr hq)
        | ((with_reducible refine (R1 _ HA.out).out.mono ?_); rintro e w9 ⟨A2, c2, rfl, hr, hq⟩; replace HW := Lib.hid (HW.out.trans (hq.mono HW.out.size)); replace HA := Lib.hid (HA.out.call hq); (try replace H1 := Lib.hid (H1.out.call hq)); (try replace H2 := Lib.hid (H2.out.call hq)); (try replace H3 := Lib.hid (H3.out.call hq)); (try replace H4 := Lib.hid (H4.out.call hq)); (try replace H5 := Lib.hid (H5.out.call hq)); (try replace H6 := Lib.hid (H6.out.call hq)); have H2 := Lib.hid hr; clear hr hq)
        | ((with_reducible refine (D2 _ HA.out).out.mono ?_); rintro e w9 ⟨A3, c3, rfl, hr, hq⟩; replace HW := Lib.hid (HW.out.trans (hq.mono HW.out.size)); replace HA := Lib.hid (HA.out.call hq); (try replace H1 := Lib.hid (H1.out.call hq)); (try replace H2 := Lib.hid (H2.out.call hq)); (try replace H3 := Lib.hid (H3.out.call hq)); (try replace H4 := Lib.hid (H4.out.call hq)); (try replace H5 := Lib.hid (H5.out.call hq)); (try replace H6 := Lib.hid (H6.out.call hq)); have H3 := Lib.hid hr; clear hr hq)
        | ((with_reducible refine (R2 _ HA.out).out.mono ?_); rintro e w9 ⟨A4, c4, rfl, hr, hq⟩; replace HW := Lib.hid (HW.out.trans (hq.mono HW.out.size)); replace HA := Lib.hid (HA.out.call hq); (try replace H1 := Lib.hid (H1.out.call hq)); (try replace H2 := Lib.hid (H2.out.call hq)); (try replace H3 := Lib.hid (H3.out.call hq)); (try replace H4 := Lib.hid (H4.out.call hq)); (try replace H5 := Lib.hid (H5.out.call hq)); (try replace H6 := Lib.hid (H6.out.call hq)); have H4 := Lib.hid hr; clear hr hq)
        | ((with_reducible refine (S1 _ _ _ _ _ H1.out H2.out).out.mono ?_); rintro e w9 ⟨rfl, hq⟩; replace HW := Lib.hid (HW.out.trans (hq.mono HW.out.size)); replace HA := Lib.hid (HA.out.call hq); (try replace H1 := Lib.hid (H1.out.call hq)); (try replace H2 := Lib.hid (H2.out.call hq)); (try replace H3 := Lib.hid (H3.out.call hq)); (try replace H4 := Lib.hid (H4.out.call hq)); (try replace H5 := Lib.hid (H5.out.call hq)); (try replace H6 := Lib.hid (H6.out.call hq)); clear hq)
        | ((with_reducible refine (S2 _ _ _ _ _ H3.out H4.out).out.mono ?_); rintro e w9 ⟨rfl, hq⟩; replace HW := Lib.hid (HW.out.trans (hq.mono HW.out.size)); replace HA := Lib.hid (HA.out.call hq); (try replace H1 := Lib.hid (H1.out.call hq)); (try replace H2 := Lib.hid (H2.out.call hq)); (try replace H3 := Lib.hid (H3.out.call hq)); (try replace H4 := Lib.hid (H4.out.call hq)); (try replace H5 := Lib.hid (H5.out.call hq)); (try replace H6 := Lib.hid (H6.out.call hq)); clear hq)
        | ((with_reducible refine (PR _ _ _ H1.out).out.mono ?_); rintro e w9 ⟨A5, c5, rfl, hr, hq⟩; replace HW := Lib.hid (HW.out.trans (hq.mono HW.out.size)); replace HA := Lib.hid (HA.out.call hq); (try replace H1 := Lib.hid (H1.out.call hq)); (try replace H2 := Lib.hid (H2.out.call hq)); (try replace H3 := Lib.hid (H3.out.call hq)); (try replace H4 := Lib.hid (H4.out.call hq)); (try replace H5 := Lib.hid (H5.out.call hq)); (try replace H6 := Lib.hid (H6.out.call hq)); have H5 := Lib.hid hr; clear hr hq)
        | ((with_reducible refine (EQ _ _ _ H5.out HA.out).out.mono ?_); rintro e w9 ⟨rfl, hq⟩; replace HW := Lib.hid (HW.out.trans (hq.mono HW.out.size)); replace HA := Lib.hid (HA.out.call hq); (try replace H1 := Lib.hid (H1.out.call hq)); (try replace H2 := Lib.hid (H2.out.call hq)); (try replace H3 := Lib.hid (H3.out.call hq)); (try replace H4 := Lib.hid (H4.out.call hq)); (try replace H5 := Lib.hid (H5.out.call hq)); (try replace H6 := Lib.hid (H6.out.call hq)); clear hq)
        | ((with_reducible refine (PF _ _ _ H3.out).out.mono ?_); rintro e w9 ⟨A6, c6, rfl, hr, hq⟩; replace HW := Lib.hid (HW.out.trans (hq.mono HW.out.size)); replace HA := Lib.hid (HA.out.call hq); (try replace H1 := Lib.hid (H1.out.call hq)); (try replace H2 := Lib.hid (H2.out.call hq)); (try replace H3 := Lib.hid (H3.out.call hq)); (try replace H4 := Lib.hid (H4.out.call hq)); (try replace H5 := Lib.hid (H5.out.call hq)); (try replace H6 := Lib.hid (H6.out.call hq)); have H6 := Lib.hid hr; clear hr hq)
        | ((with_reducible refine (EQ _ _ _ H6.out HA.out).out.mono ?_); rintro e w9 ⟨rfl, hq⟩; replace HW := Lib.hid (HW.out.trans (hq.mono HW.out.size)); replace HA := Lib.hid (HA.out.call hq); (try replace H1 := Lib.hid (H1.out.call hq)); (try replace H2 := Lib.hid (H2.out.call hq)); (try replace H3 := Lib.hid (H3.out.call hq)); (try replace H4 := Lib.hid (H4.out.call hq)); (try replace H5 := Lib.hid (H5.out.call hq)); (try replace H6 := Lib.hid (H6.out.call hq)); clear hq))
        go_ret
        exact ⟨rfl, HW.out⟩
      · have hge : (g == 0) = false := beq_eq_false_iff_ne.2 hg
        clear PR0 PF0
        go_enter Try.func5, Try.ntmps5
        go_wp2_with (first
        | ((with_reducible refine (A0 _).out.mono ?_); rintro e w9 ⟨rfl, hq⟩; replace HW := Lib.hid (HW.out.trans (hq.mono HW.out.size)); replace HA := Lib.hid (HA.out.call hq); (try replace H1 := Lib.hid (H1.out.call hq)); (try replace H2 := Lib.hid (H2.out.call hq)); (try replace H3 := Lib.hid (H3.out.call hq)); (try replace H4 := Lib.hid (H4.out.call hq)); (try replace H5 := Lib.hid (H5.out.call hq)); (try replace H6 := Lib.hid (H6.out.call hq)); clear hq)
        | ((with_reducible refine (D1 _ HA.out).out.mono ?_); rintro e w9 ⟨A1, c1, rfl, hr, hq⟩; replace HW := Lib.hid (HW.out.trans (hq.mono HW.out.size)); replace HA := Lib.hid (HA.out.call hq); (try replace H1 := Lib.hid (H1.out.call hq)); (try replace H2 := Lib.hid (H2.out.call hq)); (try replace H3 := Lib.hid (H3.out.call hq)); (try replace H4 := Lib.hid (H4.out.call hq)); (try replace H5 := Lib.hid (H5.out.call hq)); (try replace H6 := Lib.hid (H6.out.call hq)); have H1 := Lib.hid hr; clear hr hq)
        | ((with_reducible refine (R1 _ HA.out).out.mono ?_); rintro e w9 ⟨A2, c2, rfl, hr, hq⟩; replace HW := Lib.hid (HW.out.trans (hq.mono HW.out.size)); replace HA := Lib.hid (HA.out.call hq); (try replace H1 := Lib.hid (H1.out.call hq)); (try replace H2 := Lib.hid (H2.out.call hq)); (try replace H3 := Lib.hid (H3.out.call hq)); (try replace H4 := Lib.hid (H4.out.call hq)); (try replace H5 := Lib.hid (H5.out.call hq)); (try replace H6 := Lib.hid (H6.out.call hq)); have H2 := Lib.hid hr; clear hr hq)
        | ((with_reducible refine (D2 _ HA.out).out.mono ?_); rintro e w9 ⟨A3, c3, rfl, hr, hq⟩; replace HW := Lib.hid (HW.out.trans (hq.mono HW.out.size)); replace HA := Lib.hid (HA.out.call hq); (try replace H1 := Lib.hid (H1.out.call hq)); (try replace H2 := Lib.hid (H2.out.call hq)); (try replace H3 := Lib.hid (H3.out.call hq)); (try replace H4 := Lib.hid (H4.out.call hq)); (try replace H5 := Lib.hid (H5.out.call hq)); (try replace H6 := Lib.hid (H6.out.call hq)); have H3 := Lib.hid hr; clear hr hq)
        | ((with_reducible refine (R2 _ HA.out).out.mono ?_); rintro e w9 ⟨A4, c4, rfl, hr, hq⟩; replace HW := Lib.hid (HW.out.trans (hq.mono HW.out.size)); replace HA := Lib.hid (HA.out.call hq); (try replace H1 := Lib.hid (H1.out.call hq)); (try replace H2 := Lib.hid (H2.out.call hq)); (try replace H3 := Lib.hid (H3.out.call hq)); (try replace H4 := Lib.hid (H4.out.call hq)); (try replace H5 := Lib.hid (H5.out.call hq)); (try replace H6 := Lib.hid (H6.out.call hq)); have H4 := Lib.hid hr; clear hr hq)
        | ((with_reducible refine (S1 _ _ _ _ _ H1.out H2.out).out.mono ?_); rintro e w9 ⟨rfl, hq⟩; replace HW := Lib.hid (HW.out.trans (hq.mono HW.out.size)); replace HA := Lib.hid (HA.out.call hq); (try replace H1 := Lib.hid (H1.out.call hq)); (try replace H2 := Lib.hid (H2.out.call hq)); (try replace H3 := Lib.hid (H3.out.call hq)); (try replace H4 := Lib.hid (H4.out.call hq)); (try replace H5 := Lib.hid (H5.out.call hq)); (try replace H6 := Lib.hid (H6.out.call hq)); clear hq)
        | ((with_reducible refine (S2 _ _ _ _ _ H3.out H4.out).out.mono ?_); rintro e w9 ⟨rfl, hq⟩; replace HW := Lib.hid (HW.out.trans (hq.mono HW.out.size)); replace HA := Lib.hid (HA.out.call hq); (try replace H1 := Lib.hid (H1.out.call hq)); (try replace H2 := Lib.hid (H2.out.call hq)); (try replace H3 := Lib.hid (H3.out.call hq)); (try replace H4 := Lib.hid (H4.out.call hq)); (try replace H5 := Lib.hid (H5.out.call hq)); (try replace H6 := Lib.hid (H6.out.call hq)); clear hq)
        | ((with_reducible refine (PR _ _ _ H1.out).out.mono ?_); rintro e w9 ⟨A5, c5, rfl, hr, hq⟩; replace HW := Lib.hid (HW.out.trans (hq.mono HW.out.size)); replace HA := Lib.hid (HA.out.call hq); (try replace H1 := Lib.hid (H1.out.call hq)); (try replace H2 := Lib.hid (H2.out.call hq)); (try replace H3 := Lib.hid (H3.out.call hq)); (try replace H4 := Lib.hid (H4.out.call hq)); (try replace H5 := Lib.hid (H5.out.call hq)); (try replace H6 := Lib.hid (H6.out.call hq)); have H5 := Lib.hid hr; clear hr hq)
        | ((with_reducible refine (EQ _ _ _ H5.out HA.out).out.mono ?_); rintro e w9 ⟨rfl, hq⟩; replace HW := Lib.hid (HW.out.trans (hq.mono HW.out.size)); replace HA := Lib.hid (HA.out.call hq); (try replace H1 := Lib.hid (H1.out.call hq)); (try replace H2 := Lib.hid (H2.out.call hq)); (try replace H3 := Lib.hid (H3.out.call hq)); (try replace H4 := Lib.hid (H4.out.call hq)); (try replace H5 := Lib.hid (H5.out.call hq)); (try replace H6 := Lib.hid (H6.out.call hq)); clear hq)
        | ((with_reducible refine (PF _ _ _ H3.out).out.mono ?_); rintro e w9 ⟨A6, c6, rfl, hr, hq⟩; replace HW := Lib.hid (HW.out.trans (hq.mono HW.out.size)); replace HA := Lib.hid (HA.out.call hq); (try replace H1 := Lib.hid (H1.out.call hq)); (try replace H2 := Lib.hid (H2.out.call hq)); (try replace H3 := Lib.hid (H3.out.call hq)); (try replace H4 := Lib.hid (H4.out.call hq)); (try replace H5 := Lib.hid (H5.out.call hq)); (try replace H6 := Lib.hid (H6.out.call hq)); have H6 := Lib.hid hr; clear hr hq)
        | ((with_reducible refine (EQ _ _ _ H6.out HA.out).out.mono ?_); rintro e w9 ⟨rfl, hq⟩; replace HW := Lib.hid (HW.out.trans (hq.mono HW.out.size)); replace HA := Lib.hid (HA.out.call hq); (try replace H1 := Lib.hid (H1.out.call hq)); (try replace H2 := Lib.hid (H2.out.call hq)); (try replace H3 := Lib.hid (H3.out.call hq)); (try replace H4 := Lib.hid (H4.out.call hq)); (try replace H5 := Lib.hid (H5.out.call hq)); (try replace H6 := Lib.hid (H6.out.call hq)); clear hq))
        go_ret
        exact ⟨rfl, HW.out⟩
    · have hfe : (f == 0) = false := beq_eq_false_iff_ne.2 hf
      clear PR0
      by_cases hg : g = 0
      · have PF := PF0 hg
        subst hg
        clear PF0
        go_enter Try.func5, Try.ntmps5
        go_wp2_with (first
        | ((with_reducible refine (A0 _).out.mono ?_); rintro e w9 ⟨rfl, hq⟩; replace HW := Lib.hid (HW.out.trans (hq.mono HW.out.size)); replace HA := Lib.hid (HA.out.call hq); (try replace H1 := Lib.hid (H1.out.call hq)); (try replace H2 := Lib.hid (H2.out.call hq)); (try replace H3 := Lib.hid (H3.out.call hq)); (try replace H4 := Lib.hid (H4.out.call hq)); (try replace H5 := Lib.hid (H5.out.call hq)); (try replace H6 := Lib.hid (H6.out.call hq)); clear hq)
        | ((with_reducible refine (D1 _ HA.out).out.mono ?_); rintro e w9 ⟨A1, c1, rfl, hr, hq⟩; replace HW := Lib.hid (HW.out.trans (hq.mono HW.out.size)); replace HA := Lib.hid (HA.out.call hq); (try replace H1 := Lib.hid (H1.out.call hq)); (try replace H2 := Lib.hid (H2.out.call hq)); (try replace H3 := Lib.hid (H3.out.call hq)); (try replace H4 := Lib.hid (H4.out.call hq)); (try replace H5 := Lib.hid (H5.out.call hq)); (try replace H6 := Lib.hid (H6.out.call hq)); have H1 := Lib.hid hr; clear hr hq)
        | ((with_reducible refine (R1 _ HA.out).out.mono ?_); rintro e w9 ⟨A2, c2, rfl, hr, hq⟩; replace HW := Lib.hid (HW.out.trans (hq.mono HW.out.size)); replace HA := Lib.hid (HA.out.call hq); (try replace H1 := Lib.hid (H1.out.call hq)); (try replace H2 := Lib.hid (H2.out.call hq)); (try replace H3 := Lib.hid (H3.out.call hq)); (try replace H4 := Lib.hid (H4.out.call hq)); (try replace H5 := Lib.hid (H5.out.call hq)); (try replace H6 := Lib.hid (H6.out.call hq)); have H2 := Lib.hid hr; clear hr hq)
        | ((with_reducible refine (D2 _ HA.out).out.mono ?_); rintro e w9 ⟨A3, c3, rfl, hr, hq⟩; replace HW := Lib.hid (HW.out.trans (hq.mono HW.out.size)); replace HA := Lib.hid (HA.out.call hq); (try replace H1 := Lib.hid (H1.out.call hq)); (try replace H2 := Lib.hid (H2.out.call hq)); (try replace H3 := Lib.hid (H3.out.call hq)); (try replace H4 := Lib.hid (H4.out.call hq)); (try replace H5 := Lib.hid (H5.out.call hq)); (try replace H6 := Lib.hid (H6.out.call hq)); have H3 := Lib.hid hr; clear hr hq)
        | ((with_reducible refine (R2 _ HA.out).out.mono ?_); rintro e w9 ⟨A4, c4, rfl, hr, hq⟩; replace HW := Lib.hid (HW.out.trans (hq.mono HW.out.size)); replace HA := Lib.hid (HA.out.call hq); (try replace H1 := Lib.hid (H1.out.call hq)); (try replace H2 := Lib.hid (H2.out.call hq)); (try replace H3 := Lib.hid (H3.out.call hq)); (try replace H4 := Lib.hid (H4.out.call hq)); (try replace H5 := Lib.hid (H5.out.call hq)); (try replace H6 := Lib.hid (H6.out.call hq)); have H4 := Lib.hid hr; clear hr hq)
        | ((with_reducible refine (S1 _ _ _ _ _ H1.out H2.out).out.mono ?_); rintro e w9 ⟨rfl, hq⟩; replace HW := Lib.hid (HW.out.trans (hq.mono HW.out.size)); replace HA := Lib.hid (HA.out.call hq); (try replace H1 := Lib.hid (H1.out.call hq)); (try replace H2 := Lib.hid (H2.out.call hq)); (try replace H3 := Lib.hid (H3.out.call hq)); (try replace H4 := Lib.hid (H4.out.call hq)); (try replace H5 := Lib.hid (H5.out.call hq)); (try replace H6 := Lib.hid (H6.out.call hq)); clear hq)
        | ((with_reducible refine (S2 _ _ _ _ _ H3.out H4.out).out.mono ?_); rintro e w9 ⟨rfl, hq⟩; replace HW := Lib.hid (HW.out.trans (hq.mono HW.out.size)); replace HA := Lib.hid (HA.out.call hq); (try replace H1 := Lib.hid (H1.out.call hq)); (try replace H2 := Lib.hid (H2.out.call hq)); (try replace H3 := Lib.hid (H3.out.call hq)); (try replace H4 := Lib.hid (H4.out.call hq)); (try replace H5 := Lib.hid (H5.out.call hq)); (try replace H6 := Lib.hid (H6.out.call hq)); clear hq)
        | ((with_reducible refine (PR _ _ _ H1.out).out.mono ?_); rintro e w9 ⟨A5, c5, rfl, hr, hq⟩; replace HW := Lib.hid (HW.out.trans (hq.mono HW.out.size)); replace HA := Lib.hid (HA.out.call hq); (try replace H1 := Lib.hid (H1.out.call hq)); (try replace H2 := Lib.hid (H2.out.call hq)); (try replace H3 := Lib.hid (H3.out.call hq)); (try replace H4 := Lib.hid (H4.out.call hq)); (try replace H5 := Lib.hid (H5.out.call hq)); (try replace H6 := Lib.hid (H6.out.call hq)); have H5 := Lib.hid hr; clear hr hq)
        | ((with_reducible refine (EQ _ _ _ H5.out HA.out).out.mono ?_); rintro e w9 ⟨rfl, hq⟩; replace HW := Lib.hid (HW.out.trans (hq.mono HW.out.size)); replace HA := Lib.hid (HA.out.call hq); (try replace H1 := Lib.hid (H1.out.call hq)); (try replace H2 := Lib.hid (H2.out.call hq)); (try replace H3 := Lib.hid (H3.out.call hq)); (try replace H4 := Lib.hid (H4.out.call hq)); (try replace H5 := Lib.hid (H5.out.call hq)); (try replace H6 := Lib.hid (H6.out.call hq)); clear hq)
        | ((with_reducible refine (PF _ _ _ H3.out).out.mono ?_); rintro e w9 ⟨A6, c6, rfl, hr, hq⟩; replace HW := Lib.hid (HW.out.trans (hq.mono HW.out.size)); replace HA := Lib.hid (HA.out.call hq); (try replace H1 := Lib.hid (H1.out.call hq)); (try replace H2 := Lib.hid (H2.out.call hq)); (try replace H3 := Lib.hid (H3.out.call hq)); (try replace H4 := Lib.hid (H4.out.call hq)); (try replace H5 := Lib.hid (H5.out.call hq)); (try replace H6 := Lib.hid (H6.out.call hq)); have H6 := Lib.hid hr; clear hr hq)
        | ((with_reducible refine (EQ _ _ _ H6.out HA.out).out.mono ?_); rintro e w9 ⟨rfl, hq⟩; replace HW := Lib.hid (HW.out.trans (hq.mono HW.out.size)); replace HA := Lib.hid (HA.out.call hq); (try replace H1 := Lib.hid (H1.out.call hq)); (try replace H2 := Lib.hid (H2.out.call hq)); (try replace H3 := Lib.hid (H3.out.call hq)); (try replace H4 := Lib.hid (H4.out.call hq)); (try replace H5 := Lib.hid (H5.out.call hq)); (try replace H6 := Lib.hid (H6.out.call hq)); clear hq))
        go_ret
        exact ⟨rfl, HW.out⟩
      · have hge : (g == 0) = false := beq_eq_false_iff_ne.2 hg
        clear PF0
        go_enter Try.func5, Try.ntmps5
        go_wp2_with (first
        | ((with_reducible refine (A0 _).out.mono ?_); rintro e w9 ⟨rfl, hq⟩; replace HW := Lib.hid (HW.out.trans (hq.mono HW.out.size)); replace HA := Lib.hid (HA.out.call hq); (try replace H1 := Lib.hid (H1.out.call hq)); (try replace H2 := Lib.hid (H2.out.call hq)); (try replace H3 := Lib.hid (H3.out.call hq)); (try replace H4 := Lib.hid (H4.out.call hq)); (try replace H5 := Lib.hid (H5.out.call hq)); (try replace H6 := Lib.hid (H6.out.call hq)); clear hq)
        | ((with_reducible refine (D1 _ HA.out).out.mono ?_); rintro e w9 ⟨A1, c1, rfl, hr, hq⟩; replace HW := Lib.hid (HW.out.trans (hq.mono HW.out.size)); replace HA := Lib.hid (HA.out.call hq); (try replace H1 := Lib.hid (H1.out.call hq)); (try replace H2 := Lib.hid (H2.out.call hq)); (try replace H3 := Lib.hid (H3.out.call hq)); (try replace H4 := Lib.hid (H4.out.call hq)); (try replace H5 := Lib.hid (H5.out.call hq)); (try replace H6 := Lib.hid (H6.out.call hq)); have H1 := Lib.hid hr; clear hr hq)
        | ((with_reducible refine (R1 _ HA.out).out.mono ?_); rintro e w9 ⟨A2, c2, rfl, hr, hq⟩; replace HW := Lib.hid (HW.out.trans (hq.mono HW.out.size)); replace HA := Lib.hid (HA.out.call hq); (try replace H1 := Lib.hid (H1.out.call hq)); (try replace H2 := Lib.hid (H2.out.call hq)); (try replace H3 := Lib.hid (H3.out.call hq)); (try replace H4 := Lib.hid (H4.out.call hq)); (try replace H5 := Lib.hid (H5.out.call hq)); (try replace H6 := Lib.hid (H6.out.call hq)); have H2 := Lib.hid hr; clear hr hq)
        | ((with_reducible refine (D2 _ HA.out).out.mono ?_); rintro e w9 ⟨A3, c3, rfl, hr, hq⟩; replace HW := Lib.hid (HW.out.trans (hq.mono HW.out.size)); replace HA := Lib.hid (HA.out.call hq); (try replace H1 := Lib.hid (H1.out.call hq)); (try replace H2 := Lib.hid (H2.out.call hq)); (try replace H3 := Lib.hid (H3.out.call hq)); (try replace H4 := Lib.hid (H4.out.call hq)); (try replace H5 := Lib.hid (H5.out.call hq)); (try replace H6 := Lib.hid (H6.out.call hq)); have H3 := Lib.hid hr; clear hr hq)
        | ((with_reducible refine (R2 _ HA.out).out.mono ?_); rintro e w9 ⟨A4, c4, rfl, hr, hq⟩; replace HW := Lib.hid (HW.out.trans (hq.mono HW.out.size)); replace HA := Lib.hid (HA.out.call hq); (try replace H1 := Lib.hid (H1.out.call hq)); (try replace H2 := Lib.hid (H2.out.call hq)); (try replace H3 := Lib.hid (H3.out.call hq)); (try replace H4 := Lib.hid (H4.out.call hq)); (try replace H5 := Lib.hid (H5.out.call hq)); (try replace H6 := Lib.hid (H6.out.call hq)); have H4 := Lib.hid hr; clear hr hq)
        | ((with_reducible refine (S1 _ _ _ _ _ H1.out H2.out).out.mono ?_); rintro e w9 ⟨rfl, hq⟩; replace HW := Lib.hid (HW.out.trans (hq.mono HW.out.size)); replace HA := Lib.hid (HA.out.call hq); (try replace H1 := Lib.hid (H1.out.call hq)); (try replace H2 := Lib.hid (H2.out.call hq)); (try replace H3 := Lib.hid (H3.out.call hq)); (try replace H4 := Lib.hid (H4.out.call hq)); (try replace H5 := Lib.hid (H5.out.call hq)); (try replace H6 := Lib.hid (H6.out.call hq)); clear hq)
        | ((with_reducible refine (S2 _ _ _ _ _ H3.out H4.out).out.mono ?_); rintro e w9 ⟨rfl, hq⟩; replace HW := Lib.hid (HW.out.trans (hq.mono HW.out.size)); replace HA := Lib.hid (HA.out.call hq); (try replace H1 := Lib.hid (H1.out.call hq)); (try replace H2 := Lib.hid (H2.out.call hq)); (try replace H3 := Lib.hid (H3.out.call hq)); (try replace H4 := Lib.hid (H4.out.call hq)); (try replace H5 := Lib.hid (H5.out.call hq)); (try replace H6 := Lib.hid (H6.out.call hq)); clear hq)
        | ((with_reducible refine (PR _ _ _ H1.out).out.mono ?_); rintro e w9 ⟨A5, c5, rfl, hr, hq⟩; replace HW := Lib.hid (HW.out.trans (hq.mono HW.out.size)); replace HA := Lib.hid (HA.out.call hq); (try replace H1 := Lib.hid (H1.out.call hq)); (try replace H2 := Lib.hid (H2.out.call hq)); (try replace H3 := Lib.hid (H3.out.call hq)); (try replace H4 := Lib.hid (H4.out.call hq)); (try replace H5 := Lib.hid (H5.out.call hq)); (try replace H6 := Lib.hid (H6.out.call hq)); have H5 := Lib.hid hr; clear hr hq)
        | ((with_reducible refine (EQ _ _ _ H5.out HA.out).out.mono ?_); rintro e w9 ⟨rfl, hq⟩; replace HW := Lib.hid (HW.out.trans (hq.mono HW.out.size)); replace HA := Lib.hid (HA.out.call hq); (try replace H1 := Lib.hid (H1.out.call hq)); (try replace H2 := Lib.hid (H2.out.call hq)); (try replace H3 := Lib.hid (H3.out.call hq)); (try replace H4 := Lib.hid (H4.out.call hq)); (try replace H5 := Lib.hid (H5.out.call hq)); (try replace H6 := Lib.hid (H6.out.call hq)); clear hq)
        | ((with_reducible refine (PF _ _ _ H3.out).out.mono ?_); rintro e w9 ⟨A6, c6, rfl, hr, hq⟩; replace HW := Lib.hid (HW.out.trans (hq.mono HW.out.size)); replace HA := Lib.hid (HA.out.call hq); (try replace H1 := Lib.hid (H1.out.call hq)); (try replace H2 := Lib.hid (H2.out.call hq)); (try replace H3 := Lib.hid (H3.out.call hq)); (try replace H4 := Lib.hid (H4.out.call hq)); (try replace H5 := Lib.hid (H5.out.call hq)); (try replace H6 := Lib.hid (H6.out.call hq)); have H6 := Lib.hid hr; clear hr hq)
        | ((with_reducible refine (EQ _ _ _ H6.out HA.out).out.mono ?_); rintro e w9 ⟨rfl, hq⟩; replace HW := Lib.hid (HW.out.trans (hq.mono HW.out.size)); replace HA := Lib.hid (HA.out.call hq); (try replace H1 := Lib.hid (H1.out.call hq)); (try replace H2 := Lib.hid (H2.out.call hq)); (try replace H3 := Lib.hid (H3.out.call hq)); (try replace H4 := Lib.hid (H4.out.call hq)); (try replace H5 := Lib.hid (H5.out.call hq)); (try replace H6 := Lib.hid (H6.out.call hq)); clear hq))
        go_ret
        exact ⟨rfl, HW.out⟩
  · have h15' : 1500 < n := by omega
    clear HP HF HR1 HR2 hn ha h15
    go_enter Try.func5, Try.ntmps5
    go_wp2_with (first
      | ((with_reducible refine (A0 _).out.mono ?_); rintro e w9 ⟨rfl, hq⟩; replace HW := Lib.hid (HW.out.trans (hq.mono HW.out.size)); replace HA := Lib.hid (HA.out.call hq); (try replace H1 := Lib.hid (H1.out.call hq)); (try replace H2 := Lib.hid (H2.out.call hq)); (try replace H3 := Lib.hid (H3.out.call hq)); (try replace H4 := Lib.hid (H4.out.call hq)); (try replace H5 := Lib.hid (H5.out.call hq)); (try replace H6 := Lib.hid (H6.out.call hq)); clear hq))
    go_ret
    exact ⟨rfl, HW.out⟩
end Go.Proofs.Ytohdncmlmpnfbaa

/-
  Layer 10 (fcode), the program: the bytes of a number, of a range, of a node.
-/
namespace Go.Proofs.Ytohdncmlmpnfbaa
open Go.RowKit

/-- Bytes of the call's own. -/
def RetO1 (w : World) (N : Nat) (l : List UInt8) (e : Ending) (w' : World) : Prop := ∃ A c, e = .returned (.slice A N c) ∧ OwnB w' w.heap.size (.slice A N c) l ∧ RdB w' w'.heap.size A c l ∧ Below w.heap.size w w'
theorem retO1_of {w w' : World} {N : Nat} {l : List UInt8} {v : Value} (hN : N = l.length) (ho : OwnB w' w.heap.size v l) (hb : Below w.heap.size w w') : RetO1 w N l (.returned v) w' := by
  obtain ⟨A, c, rfl, hr⟩ := ho.read_n hN
  exact ⟨A, c, rfl, ho, hr, hb⟩
theorem RdB.drew {w : World} {A : Option Addr} {c : Nat} {l : List UInt8} (h : RdB w w.heap.size A c l) : RdB w.drew w.drew.heap.size A c l := ⟨h.row, h.room, h.cap⟩
theorem rdB_call {w w' : World} {A : Option Addr} {c : Nat} {l : List UInt8} (h : RdB w w.heap.size A c l) (hb : Below w.heap.size w w') : RdB w' w'.heap.size A c l := ⟨(h.row.below hb).more hb.size, h.room, h.cap⟩
theorem okL_one {n : Nat} (h : n ≤ 281474976710656) : okL [(n : Int)] = true := by simp [okL, okN]; omega
theorem fcd_put1 (A A2 : Option Addr) (c N : Nat) (b : List UInt8) (hN : N = b.length) (hl : N ≤ 1000000) (n : Nat) (hn : n ≤ 281474976710656) (w : World) (hr : RdB w w.heap.size A c b) (h2 : RowAt w w.heap.size A2 (ints [(n : Int)])) :
    Calls Try.prog 53 #[.slice A N c, .slice A2 1 1] w (RetB2 w.heap.size w (b ++ putV n)) := by
  subst hN
  refine (varint_put A c w.heap.size b A2 1 1 [(n : Int)] w rfl hr h2 (fun x hx => ?_) (Nat.le_refl _) (by simp only [List.length_singleton]; omega)).mono fun e w' h => ?_
  · rw [List.mem_singleton] at hx
    subst hx
    omega
  · rcases h with ⟨-, h⟩ | ⟨h, -⟩
    · simpa [putsV] using h
    · rw [okL_one hn] at h; cases h
theorem int_row (w : World) (n : Nat) : RowAt (w.alloc (.cells #[.int .i64 n] 3)) (w.heap.size + 1) (some ⟨w.heap.size, 0, none⟩) (ints [(n : Int)]) := RowAt.of_block (heap_new w _ _ rfl)
theorem str_row (w : World) (s : List UInt8) (S : ByteArray) (h : str s = S) : RowAt (w.alloc (.cells #[.string S] 9)) (w.heap.size + 1) (some ⟨w.heap.size, 0, none⟩) (strs [s]) := by
  subst h
  exact RowAt.of_block (heap_new w _ _ rfl)
theorem str_row2 (w : World) (s t : List UInt8) (S T : ByteArray) (h : str s = S) (g : str t = T) : RowAt (w.alloc (.cells #[.string S, .string T] 9)) (w.heap.size + 1) (some ⟨w.heap.size, 0, none⟩) (strs [s, t]) := by
  subst h g
  exact RowAt.of_block (heap_new w _ _ rfl)
theorem textsV_one (s : List UInt8) : textsV [s] = txtB s := by simp [textsV, txtB]
theorem txtB_len9 (s : List UInt8) (h : s.length ≤ 100000) : (txtB s).length ≤ s.length + 9 := by
  have := putV_len10 s.length (by omega)
  unfold txtB
  rw [List.length_append]
  omega
theorem textsV_two (s t : List UInt8) : textsV [s, t] = txtB s ++ txtB t := by simp [textsV, txtB]
theorem fcd_number (A : Option Addr) (c N : Nat) (b : List UInt8) (hN : N = b.length) (hl : N ≤ 1000000) (n : Nat) (x : Int) (hx : (n : Int) = x) (hn : n ≤ 281474976710656) (M : Nat) (R : List UInt8) (hR : b ++ putV n = R) (hM : M = R.length) (w : World) (hr : RdB w w.heap.size A c b) :
    Calls Try.prog 43 #[.slice A N c, .int .i64 x] w (RetO1 w M R) := by
  subst hx
  have HC := Lib.hid (fcd_put1 A (some ⟨w.heap.size, 0, none⟩) c N b hN hl n hn (w.alloc (.cells #[.int .i64 n] 3)) (by rw [size1]; exact (hr.below (below_new _ _)).more (by omega)) (by rw [size1]; exact int_row w n))
  have HB := Lib.hid (below_new w (.cells #[.int .i64 (n : Int)] 3))
  have HR := Lib.hid hR
  have HM := Lib.hid hM
  clear hN hl hr hR hM
  go_enter Try.func43, Try.ntmps43
  go_wp2_with ((with_reducible refine HC.out.mono ?_); rintro e w1 ⟨v1, rfl, hown, hq⟩; have HF := Lib.hid (retO1_of (w := w) HM.out (by rw [← HR.out]; exact hown.mono (by simp)) (HB.out.trans (hq.mono HB.out.size))); clear hown hq)
  go_ret
  exact HF.out
/-- Texts behind bytes. -/
theorem fcd_texts (A A2 : Option Addr) (c N n2 : Nat) (b : List UInt8) (hN : N = b.length) (l : List (List UInt8)) (hn2 : n2 = l.length) (h9 : n2 ≤ 9) (M : Nat) (R : List UInt8) (hR : b ++ textsV l = R) (hM : M = R.length) (hl : M ≤ 1000000) (w : World) (hr : RdB w w.heap.size A c b) (h2 : RowAt w w.heap.size A2 (strs l)) :
    Calls Try.prog 44 #[.slice A N c, .slice A2 n2 n2] w (RetO1 w M R) := by
  subst hN hR
  rw [List.length_append] at hM
  exact (varint_text A c w.heap.size b A2 n2 n2 l w hn2 (by omega) hr h2 (Nat.le_refl _) (by omega)).mono fun e w' ⟨v, he, h, hb⟩ => he ▸ retO1_of (by rw [List.length_append]; exact hM) h hb
set_option maxHeartbeats 1000000 in
theorem fcd_range (r : Rng) (S T : ByteArray) (o : Bool) (hr : IsR r S T o) (hl : r.lo.length ≤ 10000 ∧ r.hi.length ≤ 10000) (M : Nat) (R : List UInt8) (hR : rngB r = R) (hM : M = R.length) (w : World) :
    Calls Try.prog 24 #[.agg #[.string S, .string T, .bool o]] w (RetO1 w M R) := by
  obtain ⟨WB, hWB⟩ : ∃ WB, w.alloc (.cells #[.string S, .string T, .bool o] 49) = WB := ⟨_, rfl⟩
  have hg : RgAt WB w.heap.size S T o := hWB ▸ rgAt_new _ _ _ _ _
  have HB := Lib.hid (show Below w.heap.size w WB from hWB ▸ below_new _ _)
  have hlo := txtB_len9 r.lo (by omega)
  have hhi := txtB_len9 r.hi (by omega)
  obtain ⟨N, hN⟩ : ∃ N, N = (txtB r.lo).length := ⟨_, rfl⟩
  have C1 := Lib.hid (fcd_texts none (some ⟨WB.heap.size, 0, none⟩) 0 0 1 [] rfl [r.lo] rfl (by omega) N (txtB r.lo) (by rw [textsV_one]; rfl) hN (by omega) (WB.alloc (.cells #[.string S] 9)) (rdB_nil _ _) (by rw [size1]; exact str_row WB _ _ hr.lo))
  have HB1 := Lib.hid (HB.out.alloc HB.out.size (.cells #[.string S] 9))
  have HG := Lib.hid (hg.keep (.cells #[.string S] 9))
  obtain ⟨g0, g1, g2, gz⟩ := hg
  have HO := Lib.hid hr.op
  have HT := Lib.hid hr.hi
  have HN := Lib.hid hN
  have HL := Lib.hid (show N ≤ 20000 by omega)
  have HR := Lib.hid hR
  have HM := Lib.hid hM
  have HHI := Lib.hid hhi
  clear hr hR hM hN hlo hhi gz
  go_enter Try.func24, Try.ntmps24
  go_upto_region 2 with ((with_reducible refine C1.out.mono ?_); rintro e w9 ⟨A1, c1, rfl, -, hrd, hq⟩; replace HG := Lib.hid (HG.out.below hq); have HB9 := Lib.hid (HB1.out.trans (hq.mono HB1.out.size)); have H1 := Lib.hid hrd; clear hrd hq g0 g1 g2; obtain ⟨g0, g1, g2, gz⟩ := HG.out)
  clear C1 gz
  cases o
  · have HX : Hid (txtB r.lo ++ putV 0 ++ textsV [r.hi] = R) := by rw [← HR.out, textsV_one, putV_zero]; unfold rngB; rw [HO.out]; simp [Hid]
    have C2 := fun (W : World) (h : RdB W W.heap.size A1 c1 (txtB r.lo)) => Lib.hid (fcd_number A1 c1 N (txtB r.lo) HN.out (by have := HL.out; omega) 0 0 rfl (by omega) (N + 1) (txtB r.lo ++ putV 0) rfl (by rw [List.length_append, HN.out, putV_zero]; rfl) W h)
    have hM9 : M ≤ 1000000 := by
      have h1 := congrArg List.length HX.out
      rw [textsV_one, putV_zero, List.length_append, List.length_append, ← HN.out, ← HM.out, List.length_singleton] at h1
      have := HHI.out
      have := HL.out
      omega
    have C3 := fun (W : World) (A2 A3 : Option Addr) (c3 : Nat) (h : RdB W W.heap.size A3 c3 (txtB r.lo ++ putV 0)) (g : RowAt W W.heap.size A2 (strs [r.hi])) => Lib.hid (fcd_texts A3 A2 c3 (N + 1) 1 (txtB r.lo ++ putV 0) (by rw [List.length_append, HN.out, putV_zero]; rfl) [r.hi] rfl (by omega) M R HX.out HM.out hM9 W h g)
    have HST := fun W : World => Lib.hid (str_row W r.hi T HT.out)
    have HRA := fun W : World => Lib.hid (str_row W r.hi T HT.out)
    go_upto_region 4 with fail
    go_region_law (first
      | (go_simp; (with_reducible refine (C3 _ (some ⟨w8.heap.size, 0, none⟩) A8 c8 (rdB_call H8.out (below_new w8 _)) (by rw [size1]; exact (HST w8).out)).out.mono ?_); rintro e w7 ⟨A7, c7, rfl, ho, hrd, hq⟩; have HF := Lib.hid (retO1_of (w := w) HM.out (OwnB.mono ho (Nat.le_trans HB8.out.size (by simp))) (HB8.out.trans (((below_new w8 _).trans (hq.mono (by simp))).mono HB8.out.size))); clear ho hrd hq)
      | (go_simp; (with_reducible refine (C3 _ (some ⟨w9.heap.size, 0, none⟩) A8 c8 H8.out HR8.out).out.mono ?_); rintro e w7 ⟨A7, c7, rfl, ho, hrd, hq⟩; have HF := Lib.hid (retO1_of (w := w) HM.out (OwnB.mono ho HB8.out.size) (HB8.out.trans (hq.mono HB8.out.size))); clear ho hrd hq)
      | (go_simp; (with_reducible refine (C2 _ H1.out.drew).out.mono ?_); rintro e w8 ⟨A8, c8, rfl, -, hrd, hq⟩; have HB8 := Lib.hid (HB9.out.drew.trans (hq.mono HB9.out.size)); have H8 := Lib.hid hrd; have hg8 := HG.out.drew.below hq; clear g0 g1 g2; obtain ⟨g0, g1, g2, -⟩ := hg8; clear hrd hq)
      | (go_simp; (with_reducible refine (C2 _ (rdB_call H1.out (below_new w9 (.cells #[.string T] 9))).drew).out.mono ?_); rintro e w8 ⟨A8, c8, rfl, -, hrd, hq⟩; have HB8 := Lib.hid ((HB9.out.alloc HB9.out.size (.cells #[.string T] 9)).drew.trans (hq.mono (Nat.le_trans HB9.out.size (by simp)))); have H8 := Lib.hid hrd; have HR8 := Lib.hid ((RowAt.below (HST w9).out ((Below.refl _ _).drew.trans (hq.mono (by simp)))).more (by have := hq.size; simp at this; exact this)); clear hrd hq))
    all_goals
      go_wp2_with fail
      go_ret
      exact HF.out
  · have HX : Hid (txtB r.lo ++ putV 1 = R) := by rw [← HR.out, putV_one]; unfold rngB; rw [HO.out]; exact Lib.hid rfl
    have C2 := Lib.hid (fcd_number A1 c1 N (txtB r.lo) HN.out (by have := HL.out; omega) 1 1 rfl (by omega) M R HX.out HM.out w9 H1.out)
    go_wp2_with ((with_reducible refine C2.out.mono ?_); rintro e w8 ⟨A8, c8, rfl, ho, hrd, hq⟩; have HF := Lib.hid (retO1_of (w := w) HM.out (OwnB.mono ho HB9.out.size) (HB9.out.trans (hq.mono HB9.out.size))); clear ho hrd hq)
    go_ret
    exact HF.out
end Go.Proofs.Ytohdncmlmpnfbaa

/-
  Layer 10 (fcode), the program: the bytes of a node.
-/
namespace Go.Proofs.Ytohdncmlmpnfbaa
open Go.RowKit

theorem nodeB_12 {n : Nd} {o : Nat} (h : n.op = o) (ho : o = 1 ∨ o = 2 ∨ o = 6) : nodeB n = putV o := by
  rw [← opB_put h (by omega)]
  unfold nodeB
  rw [if_neg (by omega), if_neg (by omega), if_neg (by omega)]
  rfl
theorem nodeB_35 {n : Nd} {o : Nat} (h : n.op = o) (ho : o = 3 ∨ o = 5) : nodeB n = putV o ++ textsV [n.lo] := by
  rw [← opB_put h (by omega), textsV_one]
  unfold nodeB
  rw [if_pos (by omega), if_neg (by omega), if_neg (by omega)]
  simp
theorem nodeB_4 {n : Nd} {o : Nat} (h : n.op = o) (ho : o = 4) : nodeB n = putV o ++ textsV [n.lo, n.hi] := by
  rw [← opB_put h (by omega), textsV_two]
  unfold nodeB
  rw [if_pos (by omega), if_pos (by omega), if_neg (by omega)]
  simp
theorem nodeB_78 {n : Nd} {o k : Nat} (h : n.op = o) (hk : n.kids = k) (hk9 : k < 128) (ho : o = 7 ∨ o = 8) : nodeB n = putV o ++ putV k := by
  rw [← opB_put h (by omega), ← opB_put hk (by omega)]
  unfold nodeB
  rw [if_neg (by omega), if_neg (by omega), if_pos (by omega)]
  simp
theorem nodeB_len9 {n : Nd} (hl : n.lo.length ≤ 10000 ∧ n.hi.length ≤ 10000) : (nodeB n).length ≤ 20030 := by
  have h1 := txtB_len9 n.lo (by omega)
  have h2 := txtB_len9 n.hi (by omega)
  unfold nodeB
  rw [List.length_cons, List.length_append, List.length_append]
  split <;> split <;> split <;> simp only [List.length_nil, List.length_singleton] <;> omega
set_option maxRecDepth 100000 in
set_option maxHeartbeats 2000000 in
theorem fcd_node (n : Nd) (hv : nodeV n = true) (O K : Int) (S T : ByteArray) (hO : n.op = O) (hK : n.kids = K) (hS : str n.lo = S) (hT : str n.hi = T) (hl : n.lo.length ≤ 10000 ∧ n.hi.length ≤ 10000) (M : Nat) (R : List UInt8) (hR : nodeB n = R) (hM : M = R.length) (w : World) :
    Calls Try.prog 34 #[.agg #[.int .i64 O, .int .i64 K, .string S, .string T]] w (RetO1 w M R) := by
  have h8 := nodeV_op hv
  obtain ⟨k0, k32⟩ := nodeV_kids hv
  obtain ⟨o, rfl⟩ : ∃ o : Nat, O = o := ⟨O.toNat, by omega⟩
  obtain ⟨k, rfl⟩ : ∃ k : Nat, K = k := ⟨K.toNat, by omega⟩
  have ho8 : 1 ≤ o ∧ o ≤ 8 := by omega
  obtain ⟨WB, hWB⟩ : ∃ WB, w.alloc (.cells #[.int .i64 (o : Int), .int .i64 (k : Int), .string S, .string T] 51) = WB := ⟨_, rfl⟩
  have hg : NdAt WB w.heap.size o k S T := hWB ▸ ndAt_new _ _ _ _ _ _
  have HB := Lib.hid (show Below w.heap.size w WB from hWB ▸ below_new _ _)
  have hm9 : M ≤ 20030 := by rw [hM, ← hR]; exact nodeB_len9 hl
  have hp1 : (putV o).length = 1 := by rw [putV_small (by omega)]; rfl
  have C1 := Lib.hid (fcd_number none 0 0 [] rfl (by omega) o (o : Int) rfl (by omega) 1 (putV o) rfl hp1.symm WB (rdB_nil _ _))
  have CN := fun (W : World) (A : Option Addr) (c : Nat) (h : RdB W W.heap.size A c (putV o)) (h7 : o = 7 ∨ o = 8) => Lib.hid (fcd_number A c 1 (putV o) hp1.symm (by omega) k (k : Int) rfl (by omega) M R ((nodeB_78 hO hK (by omega) h7).symm.trans hR) hM W h)
  have CT := fun (W : World) (A : Option Addr) (c : Nat) (h : RdB W W.heap.size A c (putV o)) (h7 : o = 3 ∨ o = 5) => Lib.hid (fcd_texts A (some ⟨W.heap.size, 0, none⟩) c 1 1 (putV o) hp1.symm [n.lo] rfl (by omega) M R ((nodeB_35 hO h7).symm.trans hR) hM (by omega) (W.alloc (.cells #[.string S] 9)) (rdB_call h (below_new _ _)) (by rw [size1]; exact str_row W _ _ hS))
  have CU := fun (W : World) (A : Option Addr) (c : Nat) (h : RdB W W.heap.size A c (putV o)) (h7 : o = 4) => Lib.hid (fcd_texts A (some ⟨W.heap.size, 0, none⟩) c 1 2 (putV o) hp1.symm [n.lo, n.hi] rfl (by omega) M R ((nodeB_4 hO h7).symm.trans hR) hM (by omega) (W.alloc (.cells #[.string S, .string T] 9)) (rdB_call h (below_new _ _)) (by rw [size1]; exact str_row2 W _ _ _ _ hS hT))
  have HE := Lib.hid (fun h7 : o = 1 ∨ o = 2 ∨ o = 6 => (nodeB_12 hO h7).symm.trans hR)
  have HM := Lib.hid hM
  have HG := Lib.hid hg
  have HP := Lib.hid hp1
  obtain ⟨g0, g1, g2, g3, -⟩ := hg
  clear hv h8 hO hK hS hT hl hR hM hp1 hm9
  go_enter Try.func34, Try.ntmps34
  go_upto_region 2 with ((with_reducible refine C1.out.mono ?_); rintro e w9 ⟨A1, c1, rfl, hown, hrd, hq⟩; have HB9 := Lib.hid (HB.out.trans (hq.mono HB.out.size)); have H1 := Lib.hid hrd; have HO1 := Lib.hid (hown.mono HB.out.size); obtain ⟨hc9, -⟩ := bcell hq; have hlt9 := HG.out.lt; replace g0 := (hc9 _ _ hlt9).trans g0; replace g1 := (hc9 _ _ hlt9).trans g1; replace g2 := (hc9 _ _ hlt9).trans g2; replace g3 := (hc9 _ _ hlt9).trans g3; clear hrd hq hown hc9 hlt9)
  clear C1 hWB
  have ho : o = 1 ∨ o = 2 ∨ o = 3 ∨ o = 4 ∨ o = 5 ∨ o = 6 ∨ o = 7 ∨ o = 8 := by omega
  rcases ho with rfl | rfl | rfl | rfl | rfl | rfl | rfl | rfl
  case inl | inr.inl | inr.inr.inr.inr.inr.inl =>
    obtain rfl : M = 1 := by rw [HM.out, ← HE.out (by omega), HP.out]
    have HF := Lib.hid (show RetO1 w 1 R (.returned (.slice A1 1 c1)) w9 from ⟨A1, c1, rfl, by rw [← HE.out (by omega)]; exact HO1.out, by rw [← HE.out (by omega)]; exact H1.out, HB9.out⟩)
    clear CN CT CU HE
    go_wp2_with fail
    go_ret
    exact HF.out
  case inr.inr.inl | inr.inr.inr.inr.inl =>
    have C2 := Lib.hid (CT w9 A1 c1 H1.out (by omega)).out
    clear CN CT CU HE
    go_wp2_with ((with_reducible refine C2.out.mono ?_); rintro e w8 ⟨A8, c8, rfl, ho, hrd, hq⟩; have HF := Lib.hid (retO1_of (w := w) HM.out (OwnB.mono ho (Nat.le_trans HB9.out.size (by simp))) (HB9.out.trans (((below_new w9 _).trans (hq.mono (by simp))).mono HB9.out.size))); clear ho hrd hq)
    go_ret
    exact HF.out
  case inr.inr.inr.inl =>
    have C2 := Lib.hid (CU w9 A1 c1 H1.out rfl).out
    clear CN CT CU HE
    go_wp2_with ((with_reducible refine C2.out.mono ?_); rintro e w8 ⟨A8, c8, rfl, ho, hrd, hq⟩; have HF := Lib.hid (retO1_of (w := w) HM.out (OwnB.mono ho (Nat.le_trans HB9.out.size (by simp))) (HB9.out.trans (((below_new w9 _).trans (hq.mono (by simp))).mono HB9.out.size))); clear ho hrd hq)
    go_ret
    exact HF.out
  all_goals
    have C2 := Lib.hid (CN w9 A1 c1 H1.out (by omega)).out
    clear CN CT CU HE
    go_wp2_with ((with_reducible refine C2.out.mono ?_); rintro e w8 ⟨A8, c8, rfl, ho, hrd, hq⟩; have HF := Lib.hid (retO1_of (w := w) HM.out (OwnB.mono ho HB9.out.size) (HB9.out.trans (hq.mono HB9.out.size))); clear ho hrd hq)
    go_ret
    exact HF.out
end Go.Proofs.Ytohdncmlmpnfbaa

/-
  Layer 10 (fcode), the program: the bytes of a list of ranges, of a filter.
-/
namespace Go.Proofs.Ytohdncmlmpnfbaa
open Go.RowKit

theorem rngB_len9 {n : Rng} (hl : n.lo.length ≤ 10000 ∧ n.hi.length ≤ 10000) : (rngB n).length ≤ 20030 := by
  have h1 := txtB_len9 n.lo (by omega)
  have h2 := txtB_len9 n.hi (by omega)
  unfold rngB
  rw [List.length_append]
  cases n.op <;> simp <;> omega
set_option maxRecDepth 100000 in
set_option maxHeartbeats 4000000 in
theorem fcd_putr (A : Option Addr) (c n : Nat) (l : List Rng) (hn : n = l.length) (hn9 : n ≤ 60) (hsm : ∀ r ∈ l, r.lo.length ≤ 1000 ∧ r.hi.length ≤ 1000) (N : Nat) (R : List UInt8) (hR : putV n ++ l.flatMap rngB = R) (hN : N = R.length) (w : World) (hr : kRng.Rd w w.heap.size A c l) :
    Calls Try.prog 23 #[.slice A n c, .func (.func 24) #[] #[]] w (RetO1 w N R) := by
  have HR := Lib.hid hr
  have HN := Lib.hid hn
  have HSM := Lib.hid hsm
  have HRR := Lib.hid hR
  have HNN := Lib.hid hN
  obtain ⟨M1, hM1⟩ : ∃ M1, M1 = (putV n).length := ⟨_, rfl⟩
  have h9 := putV_len10 n (by omega)
  have C0 := Lib.hid (fcd_number none 0 0 [] rfl (by omega) n (n : Int) rfl (by omega) M1 (putV n) rfl hM1 w (rdB_nil _ _))
  have hcx : n ≤ c := by rw [hn]; exact hr.room
  have eg := enters_of Try.func24 (by kernel_rfl) rfl
  clear hr hsm hn hR hN hM1
  go_enter Try.func23, Try.ntmps23
  go_wp2_with ((with_reducible refine C0.out.mono ?_); rintro e w1 ⟨A1, c1, rfl, hown1, -, hb1⟩; have HO1 := Lib.hid hown1; have HB1 := Lib.hid hb1; clear hown1 hb1)
  clear C0
  go_loopw [5, 13] (fun v i wr => ∃ k : Nat, k ≤ n ∧ i = .int .i64 k ∧ Hid (OwnB wr w.heap.size v (putV n ++ (l.take k).flatMap rngB)) ∧ Hid (Below w.heap.size w wr)) (fun _ i _ => n - (intOf i).toNat)
  case atStart => exact ⟨0, by omega, rfl, by rw [List.take_zero, List.flatMap_nil, List.append_nil]; exact HO1, HB1⟩
  case round =>
    obtain ⟨k, hk, rfl, HO, HB⟩ := hrel
    by_cases hlt : k < n
    · obtain ⟨b, o, hA, hb1, hcell⟩ := rngs_at HR.out (by have := HN.out; omega)
      subst hA
      obtain ⟨r, hg, -, hmem⟩ := get_some (l := l) (k := k) (by have := HN.out; omega)
      obtain ⟨d0, d1, d2⟩ := hcell k r hg
      have hsr := HSM.out r hmem
      have HX : Hid (putV n ++ (l.take (k + 1)).flatMap rngB = (putV n ++ (l.take k).flatMap rngB) ++ rngB r) := Lib.hid (by rw [flat_next rngB hg, List.append_assoc])
      have hm0 : (putV n ++ (l.take k).flatMap rngB).length ≤ 300003000009 := by
        have := flat_len rngB 20030 (l.take k) (fun x hx => rngB_len9 (by have := HSM.out x (take_mem hx); omega))
        have h2 : (l.take k).length ≤ 60 := by rw [List.length_take]; omega
        have h3 : (l.take k).length * 20030 ≤ 60 * 20030 := Nat.mul_le_mul_right _ h2
        rw [List.length_append]; omega
      have hm1 := rngB_len9 (n := r) (by omega)
      obtain ⟨M, hM⟩ : ∃ M, putV n ++ (l.take k).flatMap rngB = M := ⟨_, rfl⟩
      rw [hM] at HO HX hm0
      obtain ⟨y, hy⟩ : ∃ y, rngB r = y := ⟨_, rfl⟩
      obtain ⟨N1, hN1⟩ : ∃ N1, N1 = y.length := ⟨_, rfl⟩
      obtain ⟨S, hS⟩ : ∃ S, str r.lo = S := ⟨_, rfl⟩
      obtain ⟨T, hT⟩ : ∃ T, str r.hi = T := ⟨_, rfl⟩
      obtain ⟨q, hq1⟩ : ∃ q, r.op = q := ⟨_, rfl⟩
      have C := fun W => Lib.hid (fcd_range r S T q ⟨hS, hT, hq1⟩ (by omega) N1 y hy hN1 W)
      rw [hS] at d0
      rw [hT] at d1
      rw [hq1] at d2
      rw [hy] at hm1 HX
      have HLE := Lib.hid (show M.length + y.length ≤ 140737488355328 by omega)
      have HN1 := Lib.hid hN1
      have b0 := ((bcell HB.out).1 _ _ hb1).trans d0
      have b1 := ((bcell HB.out).1 _ _ hb1).trans d1
      have b2 := ((bcell HB.out).1 _ _ hb1).trans d2
      have hk2 : (0 : Int) ≤ (k : Int) := by omega
      have hkn2 : (k : Int) < (n : Int) := by omega
      clear hM hy hN1 hm0 hm1 d0 d1 d2 hS hT hq1 hcell hg hmem hsr hb1 h9
      go_wp2_with (first
        | ((with_reducible refine (C _).out.mono ?_); rintro e w3 ⟨A3, c3, rfl, -, hrd, hq⟩; have HB3 := Lib.hid ((HB.out.alloc HB.out.size (.cells #[.string S, .string T, .bool q] 49)).trans (hq.mono (Nat.le_trans HB.out.size (by simp)))); have HO3 := Lib.hid ((HO.out.alloc (.cells #[.string S, .string T, .bool q] 49)).below hq); have H3 := Lib.hid hrd; clear hrd hq)
        | (at_builtin; refine wpList_app_row rfl (.tmp 17) (.tmp 20) rfl w.heap.size _ M rfl HO3.out _ A3 c3 N1 y HN1.out rfl H3.out.row HLE.out HB3.out.size ?_; intro v4 w4 hown4 _ hb4 _; have HO4 := Lib.hid hown4; have HB4 := Lib.hid (HB3.out.trans hb4); clear hown4 hb4))
      go_roundw
      case rel => exact ⟨k + 1, by omega, by go_num, by rw [HX.out]; exact HO4, HB4⟩
      case measure => simp [intOf]; omega
    · obtain rfl : k = n := by omega
      have HL := Lib.hid (show l.take k = l by rw [HN.out, List.take_length])
      rw [HL.out, HRR.out] at HO
      obtain ⟨A5, c5, rfl, hrd⟩ := HO.out.read_n HNN.out
      have HF := Lib.hid (show RetO1 w N R (.returned (.slice A5 N c5)) wr from ⟨A5, c5, rfl, HO.out, hrd, HB.out⟩)
      clear hrd
      go_wp2_with fail
      go_ret
      exact HF.out
set_option maxRecDepth 100000 in
set_option maxHeartbeats 4000000 in
theorem fcd_putn (A : Option Addr) (c n : Nat) (l : List Nd) (hn : n = l.length) (hn9 : n ≤ 60) (hsm : ∀ r ∈ l, r.lo.length ≤ 1000 ∧ r.hi.length ≤ 1000) (hv : ∀ r ∈ l, nodeV r = true) (N : Nat) (R : List UInt8) (hR : putV n ++ l.flatMap nodeB = R) (hN : N = R.length) (w : World) (hr : kNd.Rd w w.heap.size A c l) :
    Calls Try.prog 33 #[.slice A n c, .func (.func 34) #[] #[]] w (RetO1 w N R) := by
  have HR := Lib.hid hr
  have HN := Lib.hid hn
  have HSM := Lib.hid hsm
  have HV := Lib.hid hv
  have HRR := Lib.hid hR
  have HNN := Lib.hid hN
  obtain ⟨M1, hM1⟩ : ∃ M1, M1 = (putV n).length := ⟨_, rfl⟩
  have h9 := putV_len10 n (by omega)
  have C0 := Lib.hid (fcd_number none 0 0 [] rfl (by omega) n (n : Int) rfl (by omega) M1 (putV n) rfl hM1 w (rdB_nil _ _))
  have hcx : n ≤ c := by rw [hn]; exact hr.room
  have eg := enters_of Try.func34 (by kernel_rfl) rfl
  clear hr hsm hn hR hN hM1 hv
  go_enter Try.func33, Try.ntmps33
  go_wp2_with ((with_reducible refine C0.out.mono ?_); rintro e w1 ⟨A1, c1, rfl, hown1, -, hb1⟩; have HO1 := Lib.hid hown1; have HB1 := Lib.hid hb1; clear hown1 hb1)
  clear C0
  go_loopw [5, 13] (fun v i wr => ∃ k : Nat, k ≤ n ∧ i = .int .i64 k ∧ Hid (OwnB wr w.heap.size v (putV n ++ (l.take k).flatMap nodeB)) ∧ Hid (Below w.heap.size w wr)) (fun _ i _ => n - (intOf i).toNat)
  case atStart => exact ⟨0, by omega, rfl, by rw [List.take_zero, List.flatMap_nil, List.append_nil]; exact HO1, HB1⟩
  case round =>
    obtain ⟨k, hk, rfl, HO, HB⟩ := hrel
    by_cases hlt : k < n
    · obtain ⟨b, o, hA, hb1, hcell⟩ := nds_at HR.out (by have := HN.out; omega)
      subst hA
      obtain ⟨r, hg, -, hmem⟩ := get_some (l := l) (k := k) (by have := HN.out; omega)
      obtain ⟨d0, d1, d2, d3⟩ := hcell k r hg
      have hsr := HSM.out r hmem
      have HX : Hid (putV n ++ (l.take (k + 1)).flatMap nodeB = (putV n ++ (l.take k).flatMap nodeB) ++ nodeB r) := Lib.hid (by rw [flat_next nodeB hg, List.append_assoc])
      have hm0 : (putV n ++ (l.take k).flatMap nodeB).length ≤ 300003000009 := by
        have := flat_len nodeB 20030 (l.take k) (fun x hx => nodeB_len9 (by have := HSM.out x (take_mem hx); omega))
        have h2 : (l.take k).length ≤ 60 := by rw [List.length_take]; omega
        have h3 : (l.take k).length * 20030 ≤ 60 * 20030 := Nat.mul_le_mul_right _ h2
        rw [List.length_append]; omega
      have hm1 := nodeB_len9 (n := r) (by omega)
      obtain ⟨M, hM⟩ : ∃ M, putV n ++ (l.take k).flatMap nodeB = M := ⟨_, rfl⟩
      rw [hM] at HO HX hm0
      obtain ⟨y, hy⟩ : ∃ y, nodeB r = y := ⟨_, rfl⟩
      obtain ⟨N1, hN1⟩ : ∃ N1, N1 = y.length := ⟨_, rfl⟩
      obtain ⟨S, hS⟩ : ∃ S, str r.lo = S := ⟨_, rfl⟩
      obtain ⟨T, hT⟩ : ∃ T, str r.hi = T := ⟨_, rfl⟩
      obtain ⟨O, hO⟩ : ∃ O, r.op = O := ⟨_, rfl⟩
      obtain ⟨Q, hQ⟩ : ∃ Q, r.kids = Q := ⟨_, rfl⟩
      have C := fun W => Lib.hid (fcd_node r (HV.out r hmem) O Q S T hO hQ hS hT (by omega) N1 y hy hN1 W)
      rw [hO] at d0
      rw [hQ] at d1
      rw [hS] at d2
      rw [hT] at d3
      rw [hy] at hm1 HX
      have HLE := Lib.hid (show M.length + y.length ≤ 140737488355328 by omega)
      have HN1 := Lib.hid hN1
      have b0 := ((bcell HB.out).1 _ _ hb1).trans d0
      have b1 := ((bcell HB.out).1 _ _ hb1).trans d1
      have b2 := ((bcell HB.out).1 _ _ hb1).trans d2
      have b3 := ((bcell HB.out).1 _ _ hb1).trans d3
      have hk2 : (0 : Int) ≤ (k : Int) := by omega
      have hkn2 : (k : Int) < (n : Int) := by omega
      clear hM hy hN1 hm0 hm1 d0 d1 d2 d3 hS hT hO hQ hcell hg hmem hsr hb1 h9
      go_wp2_with (first
        | ((with_reducible refine (C _).out.mono ?_); rintro e w3 ⟨A3, c3, rfl, -, hrd, hq⟩; have HB3 := Lib.hid ((HB.out.alloc HB.out.size (.cells #[.int .i64 O, .int .i64 Q, .string S, .string T] 51)).trans (hq.mono (Nat.le_trans HB.out.size (by simp)))); have HO3 := Lib.hid ((HO.out.alloc (.cells #[.int .i64 O, .int .i64 Q, .string S, .string T] 51)).below hq); have H3 := Lib.hid hrd; clear hrd hq)
        | (at_builtin; refine wpList_app_row rfl (.tmp 17) (.tmp 20) rfl w.heap.size _ M rfl HO3.out _ A3 c3 N1 y HN1.out rfl H3.out.row HLE.out HB3.out.size ?_; intro v4 w4 hown4 _ hb4 _; have HO4 := Lib.hid hown4; have HB4 := Lib.hid (HB3.out.trans hb4); clear hown4 hb4))
      go_roundw
      case rel => exact ⟨k + 1, by omega, by go_num, by rw [HX.out]; exact HO4, HB4⟩
      case measure => simp [intOf]; omega
    · obtain rfl : k = n := by omega
      have HL := Lib.hid (show l.take k = l by rw [HN.out, List.take_length])
      rw [HL.out, HRR.out] at HO
      obtain ⟨A5, c5, rfl, hrd⟩ := HO.out.read_n HNN.out
      have HF := Lib.hid (show RetO1 w N R (.returned (.slice A5 N c5)) wr from ⟨A5, c5, rfl, HO.out, hrd, HB.out⟩)
      clear hrd
      go_wp2_with fail
      go_ret
      exact HF.out
end Go.Proofs.Ytohdncmlmpnfbaa
