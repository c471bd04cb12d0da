/-
  Several texts in one: KcdE, KnwG, KnwH, KnwI, KnwCap, Law14A, Law15A, BytRet, Law16A, Law16B, Law16C, RowsG.
-/
import Derived.Deep.CutRange
import Derived.BigRegion
import Derived.Test.YtfklochgciijkaaMg9
/-
  Layer 16 (kcode), the document's words: the knowledge that bytes are, and what is wrong.
-/
namespace Go.Proofs.Ytfklochgciijkaa
open Go.RowKit

theorem textR_upto (m : Int) (hm : 0 ≤ m) (l : List UInt8) (e : Int) : ((textR m l e).1.length : Int) ≤ m := by
  unfold textR
  split
  · simpa using hm
  · obtain ⟨n, r, e2, h⟩ : ∃ n r e2, withinR 0 m l e = (n, r, e2) := ⟨_, _, _, rfl⟩
    have := withinR_hi hm h
    rw [h]
    simp only [List.length_take]
    omega
theorem rngR_upto (l : List UInt8) (e : Int) : (rngR l e).1.lo.length ≤ 17 ∧ (rngR l e).1.hi.length ≤ 17 := by
  obtain ⟨lo, q1, x1, h1⟩ : ∃ lo q1 x1, textR 17 l e = (lo, q1, x1) := ⟨_, _, _, rfl⟩
  obtain ⟨o, q2, x2, h2⟩ : ∃ o q2 x2, withinR 0 1 q1 x1 = (o, q2, x2) := ⟨_, _, _, rfl⟩
  obtain ⟨hi, q3, x3, h3⟩ : ∃ hi q3 x3, textR 17 q2 x2 = (hi, q3, x3) := ⟨_, _, _, rfl⟩
  have a1 := textR_upto 17 (by decide) l e
  have a3 := textR_upto 17 (by decide) q2 x2
  rw [h1] at a1
  rw [h3] at a3
  simp only at a1 a3
  unfold rngR
  rw [h1]
  simp only
  rw [h2]
  simp only
  rw [h3]
  split
  · exact ⟨by show lo.length ≤ 17; omega, by show ([] : List UInt8).length ≤ 17; simp⟩
  · exact ⟨by show lo.length ≤ 17; omega, by show hi.length ≤ 17; omega⟩
theorem manyR_each {α : Type} {f : List UInt8 → Int → α × List UInt8 × Int} {p : α → Prop} (hf : ∀ l e, p (f l e).1) : ∀ (n : Nat) (l : List UInt8) (e : Int), ∀ x ∈ (manyR f n l e).1, p x
  | 0, _, _, x, hx => by cases hx
  | n + 1, l, e, x, hx => by
    rw [manyR] at hx
    split at hx
    · rcases List.mem_cons.1 hx with rfl | hx
      · exact hf l e
      · exact manyR_each hf n _ _ x hx
    · cases hx
theorem deep_other {P : Program} {β α : Type} {d : Deep P β α} {w w' : World} {base m : Nat} {v : Value} {s : List α} (h : d.Own w base (fun g => base ≤ g) v s) (hg : w.grownBy w' (some m)) (hm : m < base) : d.Own w' base (fun g => base ≤ g) v s := by
  obtain ⟨bs, h1, h2⟩ := h
  exact ⟨bs, Kind.Own.other h1 hg hm, h2.keep (keptS_grown hg fun g hS e => by injection e with e; have := hS.1; omega)⟩
/-- A piece in a block. -/
def PcAt (w : World) (g : Nat) (S T : ByteArray) (q : Bool) (v : Value) : Prop := w.cell? ⟨g, 0, none⟩ = some (.string S) ∧ w.cell? ⟨g, 1, none⟩ = some (.string T) ∧ w.cell? ⟨g, 2, none⟩ = some (.bool q) ∧ w.cell? ⟨g, 3, none⟩ = some v ∧ ∀ k, w.frozen? ⟨g, k, none⟩ = false
theorem PcAt.lt {w : World} {g : Nat} {S T : ByteArray} {q : Bool} {v : Value} (h : PcAt w g S T q v) : g < w.heap.size := World.block_lt_of_cell? w _ h.1
theorem PcAt.grown {w w' : World} {row : Option Nat} {g : Nat} {S T : ByteArray} {q : Bool} {v : Value} (h : PcAt w g S T q v) (hg : w.grownBy w' row) (hne : some g ≠ row) : PcAt w' g S T q v :=
  ⟨hg.cell h.1 hne, hg.cell h.2.1 hne, hg.cell h.2.2.1 hne, hg.cell h.2.2.2.1 hne, fun k => (hg.frozen_far ⟨g, k, none⟩ h.lt hne).trans (h.2.2.2.2 k)⟩
theorem PcAt.set0 {w : World} {g : Nat} {S T : ByteArray} {q : Bool} {v : Value} (h : PcAt w g S T q v) (X : ByteArray) : PcAt (w.setCell ⟨g, 0, none⟩ (.string X)) g X T q v :=
  ⟨set_same h.1 _, set_other h.2.1 (addr_off (by decide)) _, set_other h.2.2.1 (addr_off (by decide)) _, set_other h.2.2.2.1 (addr_off (by decide)) _, fun j => by rw [World.frozen?_setCell]; exact h.2.2.2.2 j⟩
theorem PcAt.set1 {w : World} {g : Nat} {S T : ByteArray} {q : Bool} {v : Value} (h : PcAt w g S T q v) (X : ByteArray) : PcAt (w.setCell ⟨g, 1, none⟩ (.string X)) g S X q v :=
  ⟨set_other h.1 (addr_off (by decide)) _, set_same h.2.1 _, set_other h.2.2.1 (addr_off (by decide)) _, set_other h.2.2.2.1 (addr_off (by decide)) _, fun j => by rw [World.frozen?_setCell]; exact h.2.2.2.2 j⟩
theorem PcAt.set2 {w : World} {g : Nat} {S T : ByteArray} {q : Bool} {v : Value} (h : PcAt w g S T q v) (x : Bool) : PcAt (w.setCell ⟨g, 2, none⟩ (.bool x)) g S T x v :=
  ⟨set_other h.1 (addr_off (by decide)) _, set_other h.2.1 (addr_off (by decide)) _, set_same h.2.2.1 _, set_other h.2.2.2.1 (addr_off (by decide)) _, fun j => by rw [World.frozen?_setCell]; exact h.2.2.2.2 j⟩
theorem PcAt.set3 {w : World} {g : Nat} {S T : ByteArray} {q : Bool} {v : Value} (h : PcAt w g S T q v) (u : Value) : PcAt (w.setCell ⟨g, 3, none⟩ u) g S T q u :=
  ⟨set_other h.1 (addr_off (by decide)) _, set_other h.2.1 (addr_off (by decide)) _, set_other h.2.2.1 (addr_off (by decide)) _, set_same h.2.2.2.1 _, fun j => by rw [World.frozen?_setCell]; exact h.2.2.2.2 j⟩
theorem pcAt_new (w : World) (S T : ByteArray) (q : Bool) (v : Value) (t : TypeId) : PcAt (w.alloc (.cells #[.string S, .string T, .bool q, v] t)) w.heap.size S T q v := by
  have h := heap_new w (.cells #[.string S, .string T, .bool q, v] t) _ rfl
  refine ⟨?_, ?_, ?_, ?_, fun k => ?_⟩
  · rw [cell_of_row _ _ _ _ _ _ h]; rfl
  · rw [cell_of_row _ _ _ _ _ _ h]; rfl
  · rw [cell_of_row _ _ _ _ _ _ h]; rfl
  · rw [cell_of_row _ _ _ _ _ _ h]; rfl
  · unfold World.frozen?; rw [h]; simp
/-- Knowledge that was read, and what is wrong. -/
def RetKe (w : World) (x : List Pc × Int) (e : Ending) (w' : World) : Prop := ∃ A c n, e = .returned (.tuple #[.slice A n c, .int .i64 x.2]) ∧ n = x.1.length ∧ RdPc w' A c x.1 ∧ Below w.heap.size w w'
theorem rdPc_none (w : World) : RdPc w none 0 [] := Deep.Rd.nil _ _ _ _ (Nat.zero_le _)
set_option maxRecDepth 100000 in
set_option maxHeartbeats 8000000 in
theorem ref_kreadk (A : Option Addr) (c N : Nat) (b : List UInt8) (hN : N = b.length) (hN9 : N ≤ 1000000) (w : World) (hr : RdB w w.heap.size A c b) :
    Calls Try.prog 21 #[.slice A N c] w (RetKe w (readK b)) := by
  obtain ⟨n, r1, e1, h1⟩ : ∃ n r1 e1, withinR 0 4096 b 0 = (n, r1, e1) := ⟨_, _, _, rfl⟩
  obtain ⟨s, r0, e2, hY⟩ : ∃ s r0 e2, manyR pieceRd n r1 e1 = (s, r0, e2) := ⟨_, _, _, rfl⟩
  have hn9 : n ≤ 4096 := by have := withinR_hi (by decide) h1; omega
  have hsz : ∀ p ∈ s, p.rng.lo.length ≤ 1000000 ∧ p.rng.hi.length ≤ 1000000 := by
    have h := manyR_each (f := pieceRd) (p := fun p => p.rng.lo.length ≤ 17 ∧ p.rng.hi.length ≤ 17) (fun l e => by unfold pieceRd; simp only; exact rngR_upto l e) n r1 e1
    rw [hY] at h
    exact fun p hp => ⟨by have := (h p hp).1; omega, by have := (h p hp).2; omega⟩
  obtain ⟨x, hx⟩ : ∃ x, endR r0 e2 = x := ⟨_, rfl⟩
  obtain ⟨v, hv⟩ : ∃ v, rightP s = v := ⟨_, rfl⟩
  have HRD := Lib.hid (show readK b = (if x ≠ 0 then ([], x) else match v with | true => (s, 0) | false => ([], 11)) from allR2_of h1 hY hx hv)
  have HB0 := Lib.hid (below_new w (.cells #[.slice A N c, .int .i64 0, .int .i64 0] 81))
  have HF0 := Lib.hid (show RfAt (w.alloc (.cells #[.slice A N c, .int .i64 0, .int .i64 0] 81)) w.heap.size A N c 0 0 from heap_new _ _ _ rfl)
  have TW := Lib.hid (fun (w' : World) (a' : Nat) (l' : List UInt8) (e' : Int) (lo hi : Int) (n : Nat) (r : List UInt8) (x : Int) (hw : withinR lo hi l' e' = (n, r, x)) (hl' : l' = b.drop a') (ha' : a' ≤ N) (hf : RfAt w' w.heap.size A N c a' e') (hq : Below w.heap.size w w') => Lib.hid (rf_within_q hN hw hl' hf (hr.below hq) ha' (by omega)))
  have TT := Lib.hid (fun (w' : World) (a' : Nat) (l' : List UInt8) (e' : Int) (t r : List UInt8) (x : Int) (S : ByteArray) (hw : textR 17 l' e' = (t, r, x)) (hS : str t = S) (hl' : l' = b.drop a') (ha' : a' ≤ N) (hf : RfAt w' w.heap.size A N c a' e') (hq : Below w.heap.size w w') => Lib.hid (rf_text_q hN hw hS hl' hf (hr.below hq) ha' (Nat.le_refl _) (by omega)))
  have TS := Lib.hid (fun (w' : World) (a' : Nat) (l' r : List UInt8) (e' x : Int) (t : List Kn) (hw : setRd l' e' = (t, r, x)) (hl' : l' = b.drop a') (ha' : a' ≤ N) (hf : RfAt w' w.heap.size A N c a' e') (hq : Below w.heap.size w w') => Lib.hid (ref_kreadin w.heap.size w.heap.size a' N c A b l' r e' x t hN hN9 hw hl' ha' (Nat.le_refl _) w' hf (hr.below hq)))
  have EN := Lib.hid (fun (w' : World) (a' : Nat) (ha : a' ≤ N) (hl : r0 = b.drop a') (hf : RfAt w' w.heap.size A N c a' e2) => Lib.hid (rf_end_q (b := b) hN hx hl hf ha))
  obtain ⟨n6, hn6⟩ : ∃ n6, n6 = s.length := ⟨_, rfl⟩
  have LR := Lib.hid (fun (A6 : Option Addr) (c6 : Nat) (w' : World) (h : RdPc w' A6 c6 s) => Lib.hid (ref_pright A6 c6 n6 s hn6 hsz v hv w' h))
  have HN6 := Lib.hid hn6
  have HY0 := Lib.hid hY
  have H1 := Lib.hid h1
  clear hx hv hr hN hn6 hY h1 hsz
  go_enter Try.func21, Try.ntmps21
  go_wp2_with ((with_reducible refine (TW.out _ 0 _ 0 0 4096 n r1 e1 H1.out rfl (Nat.zero_le _) HF0.out HB0.out).out.mono ?_); rintro e w2 ⟨rfl, a1, ha1, hla, hrf, hg⟩; have HF := Lib.hid hrf; have HB := Lib.hid (below_row HB0.out hg (Nat.le_refl _) HB0.out.size); have HA := Lib.hid ha1; have HLA := Lib.hid hla; clear hrf hg hla ha1)
  clear HF0 HB0 H1
  go_loopw [6, 7] (fun sv i wr => ∃ (k a : Nat) (e : Int) (dn : List Pc), k ≤ n ∧ i = .int .i64 k ∧ dn.length ≤ k ∧ Hid (a ≤ N) ∧ Hid ((s, r0, e2) = (dn ++ (manyR pieceRd (n - k) (b.drop a) e).1, (manyR pieceRd (n - k) (b.drop a) e).2)) ∧ Hid (RfAt wr w.heap.size A N c a e) ∧ Hid (dPc.Own wr (w.heap.size + 1) (fun g => w.heap.size + 1 ≤ g) sv dn) ∧ Hid (Below w.heap.size w wr)) (fun _ i _ => n - (intOf i).toNat)
  case atStart => exact ⟨0, a1, e1, [], by omega, rfl, Nat.le_refl _, HA, by rw [← HLA.out, Nat.sub_zero, HY0.out]; rfl, HF, Deep.Own.nil _ _ _, HB⟩
  case round =>
    clear HF HB HA HLA HY0
    obtain ⟨k, a, e, dn, hk, rfl, hdk, HA, HY, HF, HO, HB⟩ := hrel
    obtain ⟨wz, hwz⟩ : ∃ wz, wz = wr := ⟨_, rfl⟩
    subst hwz
    by_cases hc : k < n ∧ e = 0
    · obtain ⟨hlt, rfl⟩ := hc
      obtain ⟨c0, c1, c2, z0, z1, z2⟩ := HF.out.cells
      obtain ⟨lo, q1, x1, hq1⟩ : ∃ lo q1 x1, textR 17 (b.drop a) 0 = (lo, q1, x1) := ⟨_, _, _, rfl⟩
      obtain ⟨oo, q2, x2, hq2⟩ : ∃ oo q2 x2, withinR 0 1 q1 x1 = (oo, q2, x2) := ⟨_, _, _, rfl⟩
      have HMG := Lib.hid (show w.heap.size < wz.heap.size from HF.out.lt)
      have HNE := Lib.hid (Nat.ne_of_lt HMG.out)
      have HGB := Lib.hid (Nat.le_of_lt HMG.out)
      have HF0 := Lib.hid (show RfAt (wz.alloc (.cells #[.string ⟨#[]⟩, .string ⟨#[]⟩, .bool false, .slice none 0 0] 69)) w.heap.size A N c a 0 from heap_old (.cells #[.string ⟨#[]⟩, .string ⟨#[]⟩, .bool false, .slice none 0 0] 69) HF.out)
      have HP0 := Lib.hid (pcAt_new wz ⟨#[]⟩ ⟨#[]⟩ false (.slice none 0 0) 69)
      have HK0 := Lib.hid (gb_alloc (gb_refl wz (some w.heap.size)) (.cells #[.string ⟨#[]⟩, .string ⟨#[]⟩, .bool false, .slice none 0 0] 69))
      have HB0 := Lib.hid (HB.out.alloc HB.out.size (.cells #[.string ⟨#[]⟩, .string ⟨#[]⟩, .bool false, .slice none 0 0] 69))
      obtain ⟨S, hS⟩ : ∃ S, str lo = S := ⟨_, rfl⟩
      have HQ1 := Lib.hid hq1
      have HQ2 := Lib.hid hq2
      have HSS := Lib.hid hS
      obtain ⟨p0, p1, p2, p3, p4⟩ := HP0.out
      by_cases ho : oo = 1
      · have hob : ((oo : Int) == 1) = true := by rw [ho]; rfl
        obtain ⟨st, q5, x5, hq5⟩ : ∃ st q5 x5, setRd q2 x2 = (st, q5, x5) := ⟨_, _, _, rfl⟩
        have HQT := Lib.hid (show pieceRd (b.drop a) 0 = (⟨⟨lo, [], true⟩, st⟩, q5, x5) by unfold pieceRd rngR; rw [hq1]; simp only; rw [hq2]; simp only; rw [if_pos ho]; simp only; rw [hq5])
        have HQ5 := Lib.hid hq5
        have HYN := Lib.hid (show (s, r0, e2) = ((dn ++ [⟨⟨lo, [], true⟩, st⟩]) ++ (manyR pieceRd (n - (k + 1)) q5 x5).1, (manyR pieceRd (n - (k + 1)) q5 x5).2) by rw [HY.out, manyR_step pieceRd hlt, HQT.out, List.append_assoc]; rfl)
        obtain ⟨N5, hN5⟩ : ∃ N5, N5 = st.length := ⟨_, rfl⟩
        have HN5 := Lib.hid hN5
        clear hq1 hq2 hq5 hS hN5 ho HQT HY
        go_upto_region 13 with (first
          | ((with_reducible refine (TT.out _ a _ 0 lo q1 x1 S HQ1.out HSS.out rfl HA.out HF0.out HB0.out).out.mono ?_); rintro e w1 ⟨rfl, a1, ha, hla, hrf, hg⟩; have HA1 := Lib.hid ha; have HL1 := Lib.hid hla; have HP101 := Lib.hid (HP0.out.grown hg (fun h => HNE.out (by injection h with h; exact h.symm))); obtain ⟨p0, p1, p2, p3, p4⟩ := HP101.out; have HF1 := Lib.hid (RfAt.far hrf HNE.out (k := 0) (.string S)); have HP1 := Lib.hid (HP101.out.set0 S); have HK1 := Lib.hid (gb_set (gb_trans HK0.out hg) (Nat.le_refl _) (k := 0) (.string S)); have HB1 := Lib.hid ((below_row HB0.out hg (Nat.le_refl _) HB0.out.size).setCell (p := ⟨wz.heap.size, 0, none⟩) HGB.out (.string S));  clear ha hla hrf hg)
          | ((with_reducible refine (TW.out _ a1 _ x1 0 1 oo q2 x2 HQ2.out HL1.out HA1.out HF1.out HB1.out).out.mono ?_); rintro e w2 ⟨rfl, a2, ha, hla, hrf, hg⟩; have HA2 := Lib.hid ha; have HL2 := Lib.hid hla; have HP102 := Lib.hid (HP1.out.grown hg (fun h => HNE.out (by injection h with h; exact h.symm))); obtain ⟨p0, p1, p2, p3, p4⟩ := HP102.out; have HF2 := Lib.hid (RfAt.far hrf HNE.out (k := 2) (.bool true)); have HP2 := Lib.hid (HP102.out.set2 true); have HK2 := Lib.hid (gb_set (gb_trans HK1.out hg) (Nat.le_refl _) (k := 2) (.bool true)); have HB2 := Lib.hid ((below_row HB1.out hg (Nat.le_refl _) HB1.out.size).setCell (p := ⟨wz.heap.size, 2, none⟩) HGB.out (.bool true));  clear ha hla hrf hg)
          | ((with_reducible refine (TS.out _ a2 _ q5 x2 x5 st HQ5.out HL2.out HA2.out HF2.out HB2.out).out.mono ?_); rintro e w5 ⟨v5, a5, rfl, ha, hla, hrf, hg, hown⟩; have HGH := Lib.hid HP2.out.lt; obtain ⟨A6, c6, rfl, hrd⟩ := Deep.Own.rd hown HN5.out (fun g hg => hg); have HA5 := Lib.hid ha; have HL5 := Lib.hid hla; have HP15 := Lib.hid (HP2.out.grown hg (fun h => HNE.out (by injection h with h; exact h.symm))); obtain ⟨p0, p1, p2, p3, p4⟩ := HP15.out; have HF5 := Lib.hid (RfAt.far hrf HNE.out (k := 3) (.slice A6 N5 c6)); have HP5 := Lib.hid (HP15.out.set3 (.slice A6 N5 c6)); have HK5 := Lib.hid (gb_set (gb_trans HK2.out hg) (Nat.le_refl _) (k := 3) (.slice A6 N5 c6)); have HB5 := Lib.hid ((below_row HB2.out hg (Nat.le_refl _) HB2.out.size).setCell (p := ⟨wz.heap.size, 3, none⟩) HGB.out (.slice A6 N5 c6)); have HS5 := Lib.hid (show dKn.Rd (w5.setCell ⟨wz.heap.size, 3, none⟩ (.slice A6 N5 c6)) (fun g => wz.heap.size + 1 ≤ g) A6 c6 st from (hrd.keep (keptS_grown (grownBy_set w5 wz.heap.size 3 (.slice A6 N5 c6)) fun g hS h => by injection h with h; have := HGH.out; omega)).mono fun g hS => by have := HGH.out; omega); clear ha hla hrf hg hown hrd))
        obtain ⟨wy, hwy⟩ : ∃ wy, wy = w5.setCell ⟨wz.heap.size, 3, none⟩ (.slice A6 N5 c6) := ⟨_, rfl⟩
        rw [← hwy] at HF5 HP5 HK5 HB5 HS5
        rw [← hwy]
        clear hwy p0 p1 p2 p3 p4
        obtain ⟨p0, p1, p2, p3, p4⟩ := HP5.out
        have HVO := Lib.hid (fun g hg => (HO.out.lt g hg).2)
        obtain ⟨bs, hown, hall⟩ := deep_other HO.out HK5.out (Nat.lt_succ_self _)
        have HREL := Lib.hid (show dPc.rel wy (fun g => w.heap.size + 1 ≤ g ∧ (Value.ownBlock _) ≠ some g) (⟨⟨lo, [], true⟩, A6, N5, c6⟩ : Ps) ⟨⟨lo, [], true⟩, st⟩ from ⟨rfl, HN5.out, HS5.out.mono fun g hg => ⟨by have := HMG.out; omega, fun h => by have := HVO.out g h; omega⟩⟩)
        have HOW := Lib.hid hown
        have HAL := Lib.hid hall
        have HLE := Lib.hid (show bs.length + [(⟨⟨lo, [], true⟩, A6, N5, c6⟩ : Ps)].length ≤ 1000000 by have := hall.1; rw [List.length_singleton]; omega)
        have HRW := Lib.hid (piece_row_n wy lo [] S ⟨#[]⟩ HSS.out rfl true A6 N5 c6)
        have HBS := Lib.hid (show w.heap.size + 1 ≤ (wy.alloc (.cells #[.string S, .string ⟨#[]⟩, .bool true, .slice A6 N5 c6] 69)).heap.size by have := HP5.out.lt; have := HMG.out; simp; omega)
        have HF9 := Lib.hid (show RfAt (wy.alloc (.cells #[.string S, .string ⟨#[]⟩, .bool true, .slice A6 N5 c6] 69)) w.heap.size A N c a5 x5 from heap_old _ HF5.out)
        clear hown hall
        go_wp2_with (at_builtin; refine wpList_app_k kPs rfl (.tmp 47) (.tmp 49) rfl (w.heap.size + 1) _ bs rfl (Kind.Own.alloc HOW.out _) _ (some ⟨wy.heap.size, 0, none⟩) 1 1 [⟨⟨lo, [], true⟩, A6, N5, c6⟩] rfl rfl HRW.out HLE.out (by decide) HBS.out ?_; intro v3 w3 hown3 hg3 hb3 hv3; have HO3 := Lib.hid (Deep.Own.app (HAL.out.keep (keptS_below (below_new wy _) _)) (.one (dPc.keep HREL.out (keptS_below (below_new wy _) _))) hown3 hg3 hv3); have HF3 := Lib.hid (HF9.out.under hb3 (Nat.lt_succ_self _)); have HB3 := Lib.hid ((HB5.out.alloc HB5.out.size _).trans (hb3.mono (Nat.le_succ _))); clear hown3 hg3 hb3 hv3)
        go_roundw
        case rel => exact ⟨k + 1, a5, x5, dn ++ [⟨⟨lo, [], true⟩, st⟩], by omega, by go_num, by rw [List.length_append, List.length_singleton]; omega, HA5, by rw [← HL5.out]; exact HYN, HF3, HO3, HB3⟩
        case measure => simp [intOf]; omega
      · have hob : ((oo : Int) == 1) = false := beq_eq_false_iff_ne.2 (by omega)
        obtain ⟨hi, q3, x3, hq3⟩ : ∃ hi q3 x3, textR 17 q2 x2 = (hi, q3, x3) := ⟨_, _, _, rfl⟩
        obtain ⟨st, q5, x5, hq5⟩ : ∃ st q5 x5, setRd q3 x3 = (st, q5, x5) := ⟨_, _, _, rfl⟩
        have HQT := Lib.hid (show pieceRd (b.drop a) 0 = (⟨⟨lo, hi, false⟩, st⟩, q5, x5) by unfold pieceRd rngR; rw [hq1]; simp only; rw [hq2]; simp only; rw [if_neg ho]; simp only; rw [hq3]; simp only; rw [hq5])
        obtain ⟨T, hT⟩ : ∃ T, str hi = T := ⟨_, rfl⟩
        have HQ3 := Lib.hid hq3
        have HTT := Lib.hid hT
        have HQ5 := Lib.hid hq5
        have HYN := Lib.hid (show (s, r0, e2) = ((dn ++ [⟨⟨lo, hi, false⟩, st⟩]) ++ (manyR pieceRd (n - (k + 1)) q5 x5).1, (manyR pieceRd (n - (k + 1)) q5 x5).2) by rw [HY.out, manyR_step pieceRd hlt, HQT.out, List.append_assoc]; rfl)
        obtain ⟨N5, hN5⟩ : ∃ N5, N5 = st.length := ⟨_, rfl⟩
        have HN5 := Lib.hid hN5
        clear hq1 hq2 hq5 hS hN5 ho HQT HY hq3 hT
        go_upto_region 13 with (first
          | ((with_reducible refine (TT.out _ a _ 0 lo q1 x1 S HQ1.out HSS.out rfl HA.out HF0.out HB0.out).out.mono ?_); rintro e w1 ⟨rfl, a1, ha, hla, hrf, hg⟩; have HA1 := Lib.hid ha; have HL1 := Lib.hid hla; have HP101 := Lib.hid (HP0.out.grown hg (fun h => HNE.out (by injection h with h; exact h.symm))); obtain ⟨p0, p1, p2, p3, p4⟩ := HP101.out; have HF1 := Lib.hid (RfAt.far hrf HNE.out (k := 0) (.string S)); have HP1 := Lib.hid (HP101.out.set0 S); have HK1 := Lib.hid (gb_set (gb_trans HK0.out hg) (Nat.le_refl _) (k := 0) (.string S)); have HB1 := Lib.hid ((below_row HB0.out hg (Nat.le_refl _) HB0.out.size).setCell (p := ⟨wz.heap.size, 0, none⟩) HGB.out (.string S));  clear ha hla hrf hg)
          | ((with_reducible refine (TW.out _ a1 _ x1 0 1 oo q2 x2 HQ2.out HL1.out HA1.out HF1.out HB1.out).out.mono ?_); rintro e w2 ⟨rfl, a2, ha, hla, hrf, hg⟩; have HA2 := Lib.hid ha; have HL2 := Lib.hid hla; have HP102 := Lib.hid (HP1.out.grown hg (fun h => HNE.out (by injection h with h; exact h.symm))); obtain ⟨p0, p1, p2, p3, p4⟩ := HP102.out; have HF2 := Lib.hid (RfAt.far hrf HNE.out (k := 2) (.bool false)); have HP2 := Lib.hid (HP102.out.set2 false); have HK2 := Lib.hid (gb_set (gb_trans HK1.out hg) (Nat.le_refl _) (k := 2) (.bool false)); have HB2 := Lib.hid ((below_row HB1.out hg (Nat.le_refl _) HB1.out.size).setCell (p := ⟨wz.heap.size, 2, none⟩) HGB.out (.bool false));  clear ha hla hrf hg)
          | ((with_reducible refine (TT.out _ a2 _ x2 hi q3 x3 T HQ3.out HTT.out HL2.out HA2.out HF2.out HB2.out).out.mono ?_); rintro e w3 ⟨rfl, a3, ha, hla, hrf, hg⟩; have HA3 := Lib.hid ha; have HL3 := Lib.hid hla; have HP103 := Lib.hid (HP2.out.grown hg (fun h => HNE.out (by injection h with h; exact h.symm))); obtain ⟨p0, p1, p2, p3, p4⟩ := HP103.out; have HF3 := Lib.hid (RfAt.far hrf HNE.out (k := 1) (.string T)); have HP3 := Lib.hid (HP103.out.set1 T); have HK3 := Lib.hid (gb_set (gb_trans HK2.out hg) (Nat.le_refl _) (k := 1) (.string T)); have HB3 := Lib.hid ((below_row HB2.out hg (Nat.le_refl _) HB2.out.size).setCell (p := ⟨wz.heap.size, 1, none⟩) HGB.out (.string T));  clear ha hla hrf hg)
          | ((with_reducible refine (TS.out _ a3 _ q5 x3 x5 st HQ5.out HL3.out HA3.out HF3.out HB3.out).out.mono ?_); rintro e w5 ⟨v5, a5, rfl, ha, hla, hrf, hg, hown⟩; have HGH := Lib.hid HP3.out.lt; obtain ⟨A6, c6, rfl, hrd⟩ := Deep.Own.rd hown HN5.out (fun g hg => hg); have HA5 := Lib.hid ha; have HL5 := Lib.hid hla; have HP15 := Lib.hid (HP3.out.grown hg (fun h => HNE.out (by injection h with h; exact h.symm))); obtain ⟨p0, p1, p2, p3, p4⟩ := HP15.out; have HF5 := Lib.hid (RfAt.far hrf HNE.out (k := 3) (.slice A6 N5 c6)); have HP5 := Lib.hid (HP15.out.set3 (.slice A6 N5 c6)); have HK5 := Lib.hid (gb_set (gb_trans HK3.out hg) (Nat.le_refl _) (k := 3) (.slice A6 N5 c6)); have HB5 := Lib.hid ((below_row HB3.out hg (Nat.le_refl _) HB3.out.size).setCell (p := ⟨wz.heap.size, 3, none⟩) HGB.out (.slice A6 N5 c6)); have HS5 := Lib.hid (show dKn.Rd (w5.setCell ⟨wz.heap.size, 3, none⟩ (.slice A6 N5 c6)) (fun g => wz.heap.size + 1 ≤ g) A6 c6 st from (hrd.keep (keptS_grown (grownBy_set w5 wz.heap.size 3 (.slice A6 N5 c6)) fun g hS h => by injection h with h; have := HGH.out; omega)).mono fun g hS => by have := HGH.out; omega); clear ha hla hrf hg hown hrd))
        obtain ⟨wy, hwy⟩ : ∃ wy, wy = w5.setCell ⟨wz.heap.size, 3, none⟩ (.slice A6 N5 c6) := ⟨_, rfl⟩
        rw [← hwy] at HF5 HP5 HK5 HB5 HS5
        rw [← hwy]
        clear hwy p0 p1 p2 p3 p4
        obtain ⟨p0, p1, p2, p3, p4⟩ := HP5.out
        have HVO := Lib.hid (fun g hg => (HO.out.lt g hg).2)
        obtain ⟨bs, hown, hall⟩ := deep_other HO.out HK5.out (Nat.lt_succ_self _)
        have HREL := Lib.hid (show dPc.rel wy (fun g => w.heap.size + 1 ≤ g ∧ (Value.ownBlock _) ≠ some g) (⟨⟨lo, hi, false⟩, A6, N5, c6⟩ : Ps) ⟨⟨lo, hi, false⟩, st⟩ from ⟨rfl, HN5.out, HS5.out.mono fun g hg => ⟨by have := HMG.out; omega, fun h => by have := HVO.out g h; omega⟩⟩)
        have HOW := Lib.hid hown
        have HAL := Lib.hid hall
        have HLE := Lib.hid (show bs.length + [(⟨⟨lo, hi, false⟩, A6, N5, c6⟩ : Ps)].length ≤ 1000000 by have := hall.1; rw [List.length_singleton]; omega)
        have HRW := Lib.hid (piece_row_n wy lo hi S T HSS.out HTT.out false A6 N5 c6)
        have HBS := Lib.hid (show w.heap.size + 1 ≤ (wy.alloc (.cells #[.string S, .string T, .bool false, .slice A6 N5 c6] 69)).heap.size by have := HP5.out.lt; have := HMG.out; simp; omega)
        have HF9 := Lib.hid (show RfAt (wy.alloc (.cells #[.string S, .string T, .bool false, .slice A6 N5 c6] 69)) w.heap.size A N c a5 x5 from heap_old _ HF5.out)
        clear hown hall
        go_wp2_with (at_builtin; refine wpList_app_k kPs rfl (.tmp 47) (.tmp 49) rfl (w.heap.size + 1) _ bs rfl (Kind.Own.alloc HOW.out _) _ (some ⟨wy.heap.size, 0, none⟩) 1 1 [⟨⟨lo, hi, false⟩, A6, N5, c6⟩] rfl rfl HRW.out HLE.out (by decide) HBS.out ?_; intro v3 w3 hown3 hg3 hb3 hv3; have HO3 := Lib.hid (Deep.Own.app (HAL.out.keep (keptS_below (below_new wy _) _)) (.one (dPc.keep HREL.out (keptS_below (below_new wy _) _))) hown3 hg3 hv3); have HF3 := Lib.hid (HF9.out.under hb3 (Nat.lt_succ_self _)); have HB3 := Lib.hid ((HB5.out.alloc HB5.out.size _).trans (hb3.mono (Nat.le_succ _))); clear hown3 hg3 hb3 hv3)
        go_roundw
        case rel => exact ⟨k + 1, a5, x5, dn ++ [⟨⟨lo, hi, false⟩, st⟩], by omega, by go_num, by rw [List.length_append, List.length_singleton]; omega, HA5, by rw [← HL5.out]; exact HYN, HF3, HO3, HB3⟩
        case measure => simp [intOf]; omega
    · have hor : n - k = 0 ∨ e ≠ 0 := by
        by_cases h : k < n
        · exact .inr fun he => hc ⟨h, he⟩
        · exact .inl (by omega)
      have HE := Lib.hid (show (s, r0, e2) = (dn, b.drop a, e) by rw [HY.out, manyR_end pieceRd _ _ hor, List.append_nil])
      have h := HE.out
      injection h with h1 h2
      injection h2 with h2 h3
      subst h1 h3
      have HL := Lib.hid h2
      obtain ⟨A6, c6, rfl, hrd⟩ := HO.out.rd (n := n6) HN6.out (fun g hg => hg)
      have HR := Lib.hid (show RdPc wz A6 c6 s from hrd.all)
      obtain ⟨c0, c1, c2, z0, z1, z2⟩ := HF.out.cells
      have hgo : (k < n ∧ (e2 == 0) = false) ∨ ¬ k < n := by
        by_cases h : k < n
        · exact .inl ⟨h, beq_eq_false_iff_ne.2 fun he => hc ⟨h, he⟩⟩
        · exact .inr h
      have HRK := Lib.hid (show RdPc wz A6 c6 s ∧ dPc.Rd wz (fun g => w.heap.size + 1 ≤ g) A6 c6 s from ⟨HR.out, hrd⟩)
      clear hc hor h2 HE HY HO hrd HR TW TT TS
      by_cases h0 : x = 0
      · subst h0
        cases v
        case true =>
          have HRE := Lib.hid (show readK b = (s, 0) by rw [HRD.out, if_neg (by decide)])
          clear HRD
          rcases hgo with ⟨hlt, hne⟩ | hlt
          all_goals
            go_wp2_with (first
              | ((with_reducible refine (EN.out _ a HA.out HL.out HF.out).out.mono ?_); rintro e w3 ⟨rfl, a3, -, -, -, hg⟩; have HR3 := Lib.hid (show RdPc w3 A6 c6 s from (HRK.out.2.keep (keptS_grown hg fun g hS h => by injection h with h; omega)).all); have HB3 := Lib.hid (below_row HB.out hg (Nat.le_refl _) HB.out.size); clear hg)
              | ((with_reducible refine (LR.out A6 c6 _ HR3.out).out.mono ?_); rintro e w4 ⟨rfl, hq⟩; have HR4 := Lib.hid (RdPc.call HR3.out hq); have HB4 := Lib.hid (HB3.out.trans (hq.mono HB3.out.size)); clear hq))
            go_ret2
            exact ⟨A6, c6, n6, by rw [HRE.out]; rfl, by rw [HRE.out]; exact HN6.out, by rw [HRE.out]; exact HR4.out, HB4.out⟩
        case false =>
          have HRE := Lib.hid (show readK b = ([], 11) by rw [HRD.out, if_neg (by decide)])
          clear HRD
          rcases hgo with ⟨hlt, hne⟩ | hlt
          all_goals
            go_wp2_with (first
              | ((with_reducible refine (EN.out _ a HA.out HL.out HF.out).out.mono ?_); rintro e w3 ⟨rfl, a3, -, -, -, hg⟩; have HR3 := Lib.hid (show RdPc w3 A6 c6 s from (HRK.out.2.keep (keptS_grown hg fun g hS h => by injection h with h; omega)).all); have HB3 := Lib.hid (below_row HB.out hg (Nat.le_refl _) HB.out.size); clear hg)
              | ((with_reducible refine (LR.out A6 c6 _ HR3.out).out.mono ?_); rintro e w4 ⟨rfl, hq⟩; have HB4 := Lib.hid (HB3.out.trans (hq.mono HB3.out.size)); clear hq))
            go_ret2
            exact ⟨none, 0, 0, by rw [HRE.out]; rfl, by rw [HRE.out]; rfl, by rw [HRE.out]; exact rdPc_none _, HB4.out⟩
      · have HRE := Lib.hid (show readK b = ([], x) by rw [HRD.out, if_pos h0])
        have hxe : (x == 0) = false := beq_eq_false_iff_ne.2 h0
        clear HRD LR
        rcases hgo with ⟨hlt, hne⟩ | hlt
        all_goals
          go_wp2_with (first
            | ((with_reducible refine (EN.out _ a3 HA3.out HL3.out HF3.out).out.mono ?_); rintro e w4 ⟨rfl, a4, -, -, -, hg⟩; have HB4 := Lib.hid (below_row HB3.out hg (Nat.le_refl _) HB3.out.size); clear hg)
            | ((with_reducible refine (EN.out _ a HA.out HL.out HF.out).out.mono ?_); rintro e w3 ⟨rfl, a3, ha, hl, hf, hg⟩; have HA3 := Lib.hid ha; have HL3 := Lib.hid hl; have HF3 := Lib.hid hf; have HB3 := Lib.hid (below_row HB.out hg (Nat.le_refl _) HB.out.size); clear ha hl hf hg))
          go_ret2
          exact ⟨none, 0, 0, by rw [HRE.out]; rfl, by rw [HRE.out]; rfl, by rw [HRE.out]; exact rdPc_none _, HB4.out⟩
end Go.Proofs.Ytfklochgciijkaa

/-
  Layer 15 (know), the document's words: the right list of what is meant, walked (written by gen15.py).
-/
namespace Go.Proofs.Ytfklochgciijkaa
open Go.RowKit

theorem last_of {Z : List Pc} (h : Z ≠ []) : ∃ dq pl, Z = dq ++ [pl] := by
  obtain ⟨d, p, rfl⟩ := (List.eq_nil_or_concat Z).resolve_left h
  exact ⟨d, p, List.concat_eq_append ..⟩
theorem edges_short (a b : List Pc) (l : List Rng) : ∀ x ∈ edgesL (spansP a ++ (spansP b ++ l)), x.length ≤ 17 := (edgesL_ok _).all
end Go.Proofs.Ytfklochgciijkaa

/-
  Layer 15 (know), the document's words: right lists, joined, without another, restricted; the knowledge of some versions of a key.
-/
namespace Go.Proofs.Ytfklochgciijkaa
open Go.RowKit

theorem RdPc.empty (w : World) (A : Option Addr) (c : Nat) (hc : c ≤ maxLen) : RdPc w A c [] := Deep.Rd.nil w _ A c hc
end Go.Proofs.Ytfklochgciijkaa

/-
  Layer 15 (know), the document's words: the knowledge of some versions of a key.
-/
namespace Go.Proofs.Ytfklochgciijkaa
open Go.RowKit

theorem oneP_no {s : List UInt8} {l : List Vr} (h : rightB s = false ∨ addsS [] l = []) : oneP s l = [] := by
  unfold oneP
  rcases h with h | h
  · rw [show (decide (1 ≤ s.length) && decide (s.length ≤ 16)) = false from h]
  · rw [h]; split <;> rfl
theorem oneP_yes {s : List UInt8} {l : List Vr} (h : rightB s = true) (h2 : addsS [] l ≠ []) : oneP s l = [⟨ofR s, addsS [] l⟩] := by
  unfold oneP
  rw [show (decide (1 ≤ s.length) && decide (s.length ≤ 16)) = true from h]
  cases hs : addsS [] l with
  | nil => exact absurd hs h2
  | cons x y => rfl
/-- Pieces in a row. -/
theorem rdP_one {w : World} {A : Option Addr} {c : Nat} {r : Rng} {K : List Kn} {A' : Option Addr} {n' c' : Nat} (hr : kPs.Rd w w.heap.size A c [⟨r, A', n', c'⟩]) (hn : n' = K.length) (hk : RdK w w.heap.size A' c' K) : RdPc w A c [⟨r, K⟩] :=
  ⟨[⟨r, A', n', c'⟩], hr.inS.mono (fun _ _ => trivial), .one ⟨rfl, hn, (rdk_in hk).all⟩⟩
end Go.Proofs.Ytfklochgciijkaa

/-
  Layer 15 (know): how many pieces, and how many runs, knowledge has; what is made of it. No program in this text.
-/
namespace Go.Proofs.Ytfklochgciijkaa

/-- At most so many pieces, and at most so many runs of a replica at any text. -/
structure CapN (L B : Nat) (k : List Pc) : Prop where
  len : k.length ≤ L
  each : ∀ p ∈ k, p.rng.lo.length ≤ 1000 ∧ p.rng.hi.length ≤ 1000 ∧ p.set.length ≤ 16
  own : ∀ p ∈ k, ∀ r, (runsV p.set r).length ≤ B
  runs : ∀ s r, (runsV (catK k s) r).length ≤ B
theorem CapN.nil (L B : Nat) : CapN L B [] := ⟨Nat.zero_le _, fun p h => (by cases h), fun p h => (by cases h), fun _ _ => Nat.zero_le _⟩
theorem CapN.mono {L B L' B' : Nat} {k : List Pc} (h : CapN L B k) (hL : L ≤ L') (hB : B ≤ B') : CapN L' B' k :=
  ⟨Nat.le_trans h.len hL, h.each, fun p hp r => Nat.le_trans (h.own p hp r) hB, fun s r => Nat.le_trans (h.runs s r) hB⟩
theorem catK_len {m : Nat} : ∀ {k : List Pc} (s : List UInt8), (∀ p ∈ k, p.set.length ≤ m) → (catK k s).length ≤ m * k.length
  | [], s, _ => Nat.zero_le _
  | p :: k, s, h => by
    have h1 := catK_len (k := k) s fun q hq => h q (List.mem_cons_of_mem _ hq)
    have h2 : (setP p s).length ≤ m := by
      cases hr : hasR p.rng s
      · rw [setP_no hr]; exact Nat.zero_le _
      · rw [setP_yes hr]; exact h p (List.mem_cons_self ..)
    rw [catK, List.length_append, List.length_cons, Nat.mul_add, Nat.mul_one]
    omega
theorem CapN.cap {L B : Nat} {k : List Pc} (h : CapN L B k) (hL : L ≤ 8000) (hB : B ≤ 20000) : CapP k :=
  ⟨Nat.le_trans h.len hL, fun s => by
    have h1 := catK_len (k := k) s fun p hp => (h.each p hp).2.2
    have h2 : 16 * k.length ≤ 16 * 8000 := Nat.mul_le_mul_left 16 (Nat.le_trans h.len hL)
    omega, fun s r => Nat.le_trans (h.runs s r) hB⟩
theorem runsV_cat {B : Nat} : ∀ {k : List Pc} (s : List UInt8) (r : Int), (∀ p ∈ k, (runsV p.set r).length ≤ B) → (runsV (catK k s) r).length ≤ B * k.length
  | [], s, r, _ => Nat.zero_le _
  | p :: k, s, r, h => by
    have h1 := runsV_cat (k := k) s r fun q hq => h q (List.mem_cons_of_mem _ hq)
    have h2 : (runsV (setP p s) r).length ≤ B := by
      cases hr : hasR p.rng s
      · rw [setP_no hr]; exact Nat.zero_le _
      · rw [setP_yes hr]; exact h p (List.mem_cons_self ..)
    rw [catK, runsV_append, List.length_append, List.length_cons, Nat.mul_add, Nat.mul_one]
    omega
theorem longP_cap {m : Nat} {k : List Pc} (h : longP m k = false) : CapN m (256 * m) k := by
  unfold longP at h
  simp only [Bool.or_eq_false_iff, decide_eq_false_iff_not, List.any_eq_false] at h
  obtain ⟨h1, h2⟩ := h
  have hp : ∀ p ∈ k, p.rng.lo.length ≤ 40 ∧ p.rng.hi.length ≤ 40 ∧ sizeV 16 p.set := fun p hp => by
    have := h2 p hp
    unfold longPc at this
    simp only [Bool.not_eq_true, Bool.or_eq_false_iff, decide_eq_false_iff_not] at this
    exact ⟨by omega, by omega, longV_size this.2⟩
  have ho : ∀ p ∈ k, ∀ r, (runsV p.set r).length ≤ 256 := fun p hp' r => by
    have h3 := (hp p hp').2.2
    have h4 := runsV_len r h3.2
    have h5 : 16 * p.set.length ≤ 16 * 16 := Nat.mul_le_mul_left 16 h3.1
    omega
  refine ⟨by omega, fun p hp' => ⟨by have := (hp p hp').1; omega, by have := (hp p hp').2.1; omega, (hp p hp').2.2.1⟩, fun p hp' r => ?_, fun s r => ?_⟩
  · have h3 := ho p hp' r
    have h4 : 0 < k.length := List.length_pos_of_mem hp'
    have h5 : 256 * 1 ≤ 256 * m := Nat.mul_le_mul_left 256 (by omega)
    omega
  · exact Nat.le_trans (runsV_cat s r fun p hp' => ho p hp' r) (Nat.mul_le_mul_left 256 (by omega))
theorem CapN.append {L B L' B' : Nat} {a b : List Pc} (h : CapN L B a) (h' : CapN L' B' b) : CapN (L + L') (B + B') (a ++ b) := by
  refine ⟨by rw [List.length_append]; have := h.len; have := h'.len; omega, fun p hp => ?_, fun p hp r => ?_, fun s r => ?_⟩
  · rcases List.mem_append.1 hp with hp | hp
    · exact h.each p hp
    · exact h'.each p hp
  · rcases List.mem_append.1 hp with hp | hp
    · have := h.own p hp r; omega
    · have := h'.own p hp r; omega
  · rw [catK_append, runsV_append, List.length_append]
    have := h.runs s r
    have := h'.runs s r
    omega
theorem rightR_short {r : Rng} (h : rightR r = true) : r.lo.length ≤ 17 ∧ r.hi.length ≤ 17 := ⟨(rightR_iff.1 h).1, (rightR_iff.1 h).2.1⟩
theorem upS_length {s : List Kn} (h : rightS s = true) : s.length ≤ 16 := by
  rw [← ofS_self h]; exact colS_len _ 16
/-- A right list: what is had at each text bounds all. -/
theorem CapN.right {L B : Nat} {k : List Pc} (h : rightP k = true) (hL : k.length ≤ L) (hB : ∀ s r, (runsV (catK k s) r).length ≤ B) : CapN L B k := by
  refine ⟨hL, fun p hp => ?_, fun p hp r => ?_, hB⟩
  · obtain ⟨h1, -, h3⟩ := onePc_iff.1 (rightP_all h p hp)
    have := rightR_short h1
    exact ⟨by omega, by omega, upS_length h3⟩
  · obtain ⟨h1, -, h3⟩ := onePc_iff.1 (rightP_all h p hp)
    refine Nat.le_trans ?_ (hB p.rng.lo r)
    obtain ⟨a, b, rfl⟩ := List.append_of_mem hp
    rw [catK_append, runsV_append, catK, setP_yes (hasR_lo h1), runsV_append, List.length_append, List.length_append]
    omega
theorem makeS_runs_any {op : Int} {a b : List Kn} {x y : Nat} (ha : ∀ r, (runsV a r).length ≤ x) (hb : ∀ r, (runsV b r).length ≤ y) (r : Int) : (runsV (makeS op a b) r).length ≤ 2 * (x + y) + 1 := by
  by_cases hr : 1 ≤ r ∧ r ≤ 16
  · rw [makeS_runs hr.1 hr.2]
    have := makeC_len op (runsV a r) (runsV b r)
    have := ha r
    have := hb r
    omega
  · rw [rightS_out (makeS_right op a b) hr]; exact Nat.zero_le _
theorem CapN.at_ {L B : Nat} {k : List Pc} (h : CapN L B k) (s : List UInt8) (r : Int) : (runsV (atK k s) r).length ≤ B := Nat.le_trans (ofS_short _ r) (h.runs s r)
theorem CapN.join {L B L' B' : Nat} {a b : List Pc} (h : CapN L B a) (h' : CapN L' B' b) : CapN (1 + 2 * (L + L')) (B + B') (joinP a b) := by
  refine .right (makeP_right ..) (Nat.le_trans (makeP_len 1 a b []) (by have := h.len; have := h'.len; simp; omega)) fun s r => ?_
  rw [← atK_right (show rightP (joinP a b) = true from makeP_right ..), joinP_at]
  have := makeS1_runs (atK a s) (atK b s) r
  have := h.at_ s r
  have := h'.at_ s r
  omega
theorem CapN.of {L B : Nat} {a : List Pc} (h : CapN L B a) : CapN (1 + 2 * L) B (ofP a) := (h.join (.nil 0 0)).mono (by omega) (by omega)
theorem CapN.less {L B L' B' : Nat} {a b : List Pc} (h : CapN L B a) (h' : CapN L' B' b) : CapN (1 + 2 * (L + L')) (2 * (B + B') + 1) (lessP a b) := by
  refine .right (makeP_right ..) (Nat.le_trans (makeP_len 2 a b []) (by have := h.len; have := h'.len; simp; omega)) fun s r => ?_
  rw [← atK_right (show rightP (lessP a b) = true from makeP_right ..), lessP_at]
  exact makeS_runs_any (h.at_ s) (h'.at_ s) r
theorem CapN.rest {L B q : Nat} {a : List Pc} (h : CapN L B a) {l : List Rng} (hq : l.length ≤ q) : CapN (1 + 2 * (L + q)) B (restP a l) := by
  refine .right (makeP_right ..) (Nat.le_trans (makeP_len 3 a [] l) (by have := h.len; simp; omega)) fun s r => ?_
  rw [← atK_right (show rightP (restP a l) = true from makeP_right ..)]
  cases hl : hasL l s
  · rw [restP_out hl]; exact Nat.zero_le _
  · rw [restP_in hl]; exact h.at_ s r
end Go.Proofs.Ytfklochgciijkaa

/-
  The laws of layer 14: what they ask of the program's functions; the chapter's example.
-/
namespace Go.Proofs.Ytfklochgciijkaa
open Go.RowKit

def CapS (s : List Kn) : Prop := s.length ≤ 1000 ∧ ∀ r, (runsV s r).length ≤ 20000
def SRightC (F : FuncId) : Prop := ∀ (A : Option Addr) (c n : Nat) (s : List Kn), n = s.length → CapS s → ∀ v, rightS s = v → ∀ w, RdK w w.heap.size A c s → Calls Try.prog F #[.slice A n c] w fun e w' => e = .returned (.bool v) ∧ Below w.heap.size w w'
def SHasC (F : FuncId) : Prop := ∀ (A : Option Addr) (c n : Nat) (s : List Kn) (v : Vr) (x y : Int), v.rep = x → v.cnt = y → n = s.length → CapS s → ∀ f, hasS s v = f → ∀ w, RdK w w.heap.size A c s → Calls Try.prog F #[.slice A n c, .agg #[.int .i64 x, .int .i64 y]] w fun e w' => e = .returned (.bool f) ∧ Below w.heap.size w w'
def SOfC (F : FuncId) : Prop := ∀ (A : Option Addr) (c n : Nat) (s : List Kn), n = s.length → CapS s → ∀ U, ofS s = U → ∀ N, U.length = N → ∀ w, RdK w w.heap.size A c s → Calls Try.prog F #[.slice A n c] w (RetK w N U)
def SSetC (F : FuncId) (op : Int) : Prop := ∀ (A B : Option Addr) (c d n m : Nat) (a b : List Kn), n = a.length → m = b.length → CapS a → CapS b → ∀ U, makeS op a b = U → ∀ N, U.length = N → ∀ w, RdK w w.heap.size A c a → RdK w w.heap.size B d b → Calls Try.prog F #[.slice A n c, .slice B m d] w (RetK w N U)
def SBoolC (F : FuncId) (g : List Kn → List Kn → Prop) : Prop := ∀ (A B : Option Addr) (c d n m : Nat) (a b : List Kn), n = a.length → m = b.length → CapS a → CapS b → ∀ v : Bool, (v = true ↔ g a b) → ∀ w, RdK w w.heap.size A c a → RdK w w.heap.size B d b → Calls Try.prog F #[.slice A n c, .slice B m d] w fun e w' => e = .returned (.bool v) ∧ Below w.heap.size w w'
def sameQ (a b : List Kn) : Prop := ofS a = ofS b
def withinQ (a b : List Kn) : Prop := makeS 3 a b = []
def SVecC (F : FuncId) : Prop := ∀ (A : Option Addr) (c n : Nat) (s : List Kn), n = s.length → CapS s → ∀ G : Nat → Int, (∀ k : Nat, G k = baseC (runsV s ((k : Int) + 1))) → ∀ w, RdK w w.heap.size A c s →
  Calls Try.prog F #[.slice A n c] w fun e w' => e = .returned (.agg #[.int .i64 (G 0), .int .i64 (G 1), .int .i64 (G 2), .int .i64 (G 3), .int .i64 (G 4), .int .i64 (G 5), .int .i64 (G 6), .int .i64 (G 7), .int .i64 (G 8), .int .i64 (G 9), .int .i64 (G 10), .int .i64 (G 11), .int .i64 (G 12), .int .i64 (G 13), .int .i64 (G 14), .int .i64 (G 15)]) ∧ Below w.heap.size w w'
/-- The greatest count of a replica; of what is none: 0. -/
def topS (s : List Kn) (r : Int) : Int := match decide (1 ≤ r) && decide (r ≤ 16) with
  | true => mostC (runsV s r)
  | false => 0
def SMostC (F : FuncId) : Prop := ∀ (A : Option Addr) (c n : Nat) (s : List Kn) (r : Int), n = s.length → CapS s → ∀ z, topS s r = z → ∀ w, RdK w w.heap.size A c s → Calls Try.prog F #[.slice A n c, .int .i64 r] w fun e w' => e = .returned (.int .i64 z) ∧ Below w.heap.size w w'
theorem capS_of {m : Nat} {s : List Kn} (h : sizeV m s) (hm : m ≤ 30) : CapS s := by
  refine ⟨by have := h.1; omega, fun r => ?_⟩
  have h1 := runsV_len r h.2
  have h2 : m * s.length ≤ 30 * 30 := Nat.mul_le_mul hm (by have := h.1; omega)
  omega
theorem capS_nil : CapS [] := ⟨by simp, fun _ => Nat.zero_le _⟩
theorem vsame_is (A B : Option Addr) (c d n m : Nat) (s : List Kn) (hn : n = s.length) (hm : m = s.length) (w : World) (ha : RdK w w.heap.size A c s) (hb : RdK w w.heap.size B d s) :
    Calls Try.prog 13 #[.slice A n c, .slice B m d] w fun e w' => e = .returned (.bool true) ∧ Below w.heap.size w w' :=
  ref_vsame A B c d n m s s hn hm true (sameS_iff.2 rfl) w ha hb
def VecAt (w : World) (g : Nat) (G : Nat → Int) : Prop := ∀ k, k < 16 → w.cell? ⟨g, k, none⟩ = some (.int .i64 (G k))
theorem VecAt.below {w w' : World} {g : Nat} {G : Nat → Int} (h : VecAt w g G) (hb : Below w.heap.size w w') : VecAt w' g G := fun k hk => ((bcell hb).1 _ _ (World.block_lt_of_cell? w _ (h k hk))).trans (h k hk)
end Go.Proofs.Ytfklochgciijkaa

/-
  The laws of layer 15: what they ask of the program's functions; the chapter's example.
-/
namespace Go.Proofs.Ytfklochgciijkaa
open Go.RowKit

def CapK (k : List Pc) : Prop := CapN 100 12000 k
def KRightC (F : FuncId) : Prop := ∀ (A : Option Addr) (c n : Nat) (k : List Pc), n = k.length → CapK k → ∀ v, rightP k = v → ∀ w, RdPc w A c k → Calls Try.prog F #[.slice A n c] w fun e w' => e = .returned (.bool v) ∧ Below w.heap.size w w'
def KHasC (F : FuncId) : Prop := ∀ (A : Option Addr) (c n : Nat) (k : List Pc) (s : List UInt8) (U : ByteArray) (v : Vr) (x y : Int), n = k.length → str s = U → s.length ≤ 1000 → v.rep = x → v.cnt = y → CapK k → ∀ z, hasP k s v = z → ∀ w, RdPc w A c k →
  Calls Try.prog F #[.slice A n c, .string U, .agg #[.int .i64 x, .int .i64 y]] w fun e w' => e = .returned (.bool z) ∧ Below w.heap.size w w'
def KAtC (F : FuncId) : Prop := ∀ (A : Option Addr) (c n : Nat) (k : List Pc) (s : List UInt8) (U : ByteArray), n = k.length → str s = U → s.length ≤ 1000 → CapK k → ∀ K, atK k s = K → ∀ N, K.length = N → ∀ w, RdPc w A c k → Calls Try.prog F #[.slice A n c, .string U] w (RetK w N K)
def KOfC (F : FuncId) : Prop := ∀ (A : Option Addr) (c n : Nat) (k : List Pc), n = k.length → CapK k → ∀ U, ofP k = U → ∀ N, N = U.length → ∀ w, RdPc w A c k → Calls Try.prog F #[.slice A n c] w (RetP w N U)
/-- One set of some ranges. -/
def allPc (l : List Rng) (S : List Kn) : List Pc := l.map fun r => ⟨r, S⟩
/-- Knowledge in a row, as it lies. -/
structure SlP where
  A : Option Addr
  n : Nat
  c : Nat
def KLessC (F : FuncId) : Prop := ∀ (A B : Option Addr) (c d n m : Nat) (a b : List Pc), n = a.length → m = b.length → CapK a → CapK b → ∀ U, lessP a b = U → ∀ N, N = U.length → ∀ w, RdPc w A c a → RdPc w B d b → Calls Try.prog F #[.slice A n c, .slice B m d] w (RetP w N U)
def KBoolC (F : FuncId) (g : List Pc → List Pc → Prop) : Prop := ∀ (A B : Option Addr) (c d n m : Nat) (a b : List Pc), n = a.length → m = b.length → CapK a → CapK b → ∀ v : Bool, (v = true ↔ g a b) → ∀ w, RdPc w A c a → RdPc w B d b → Calls Try.prog F #[.slice A n c, .slice B m d] w fun e w' => e = .returned (.bool v) ∧ Below w.heap.size w w'
def sameKQ (a b : List Pc) : Prop := ofP a = ofP b
def withinKQ (a b : List Pc) : Prop := lessP a b = []
theorem psame_is (A B : Option Addr) (c d n m : Nat) (k : List Pc) (hn : n = k.length) (hm : m = k.length) (w : World) (ha : RdPc w A c k) (hb : RdPc w B d k) :
    Calls Try.prog 19 #[.slice A n c, .slice B m d] w fun e w' => e = .returned (.bool true) ∧ Below w.heap.size w w' :=
  ref_psame A B c d n m k k hn hm true (sameP_iff.2 rfl) w ha hb
/-! The chapter's example. -/
def awkS : List Kn := [⟨1, [⟨1, 3⟩]⟩]
def awkK : List Pc := [⟨⟨[], [97], false⟩, [⟨1, [⟨1, 3⟩]⟩]⟩, ⟨⟨[97], [97, 0], false⟩, [⟨1, [⟨1, 4⟩]⟩]⟩, ⟨⟨[97, 0], [], true⟩, [⟨1, [⟨1, 3⟩]⟩]⟩]
theorem awkK_eq : joinP [⟨⟨[], [], true⟩, awkS⟩] (oneP [97] [⟨1, 4⟩]) = awkK := by kernel_rfl
theorem awkA_eq : ofP (allPc [⟨[], [], true⟩] awkS) = [⟨⟨[], [], true⟩, awkS⟩] := by kernel_rfl
theorem awk_set (w : World) : RdK ((w.alloc (.cells #[.int .i64 1, .int .i64 3] 49)).alloc (.cells #[.int .i64 1, .slice (some ⟨w.heap.size, 0, none⟩) 1 1] 52)) ((w.alloc (.cells #[.int .i64 1, .int .i64 3] 49)).alloc (.cells #[.int .i64 1, .slice (some ⟨w.heap.size, 0, none⟩) 1 1] 52)).heap.size (some ⟨w.heap.size + 1, 0, none⟩) 1 awkS := by
  have h1 := Kind.rd_new (k := kRn) (w := w) (cs := #[.int .i64 1, .int .i64 3]) (t := 49) (l := [⟨1, 3⟩]) (n := 1) rfl rfl (by simp)
  have h2 := Kind.rd_new (k := kKs) (w := w.alloc (.cells #[.int .i64 1, .int .i64 3] 49)) (cs := #[.int .i64 1, .slice (some ⟨w.heap.size, 0, none⟩) 1 1]) (t := 52) (l := [⟨1, some ⟨w.heap.size, 0, none⟩, 1, 1⟩]) (n := 1) rfl rfl (by simp)
  rw [size1] at h2
  rw [size1, size1]
  refine ⟨[⟨1, some ⟨w.heap.size, 0, none⟩, 1, 1⟩], h2, rfl, fun i k x h3 h4 => ?_⟩
  match i with
  | 0 =>
    injection h3 with h3
    injection h4 with h4
    subst h3 h4
    refine ⟨rfl, rfl, (h1.below ?_).more (by omega)⟩
    have := below_new (w.alloc (.cells #[.int .i64 1, .int .i64 3] 49)) (.cells #[.int .i64 1, .slice (some ⟨w.heap.size, 0, none⟩) 1 1] 52)
    rw [size1] at this
    exact this
  | i + 1 => cases h3
theorem capK_long {m : Nat} {k : List Pc} (h : longP m k = false) (hm : m ≤ 12) : CapK k := (longP_cap h).mono (by omega) (by omega)
end Go.Proofs.Ytfklochgciijkaa

/-
  Bytes that are handed back, and what is wrong; rows of bytes held against each other.
-/
namespace Go.Proofs.Ytfklochgciijkaa
open Go.RowKit

/-- Bytes, and what is wrong. -/
def RetBX (w : World) (N : Nat) (x : Int) (l : List UInt8) (e : Ending) (w' : World) : Prop := ∃ A c, e = .returned (.tuple #[.slice A N c, .int .i64 x]) ∧ RdB w' w'.heap.size A c l ∧ Below w.heap.size w w'
theorem rdB_on {w w' : World} {A : Option Addr} {c : Nat} {l : List UInt8} (h : RdB w w.heap.size A c l) (hb : Below w.heap.size w w') : RdB w' w'.heap.size A c l := ⟨(h.row.below hb).more hb.size, h.room, h.cap⟩
theorem rdB_fresh (w : World) (cs : Array Value) (l : List UInt8) (n : Nat) (hl : cs.toList = bytes l) (hn : n = l.length) (hm : l.length ≤ 1000000) : RdB (w.alloc (.cells cs 5)) (w.alloc (.cells cs 5)).heap.size (some ⟨w.heap.size, 0, none⟩) n l := rdB_block (heap_new w _ _ rfl) hl hn hm
theorem bytes_eq (A A2 : Option Addr) (c c2 n : Nat) (a : List UInt8) (hn : n = a.length) (hl : a.length ≤ 1000000) (w : World) (ha : RdB w w.heap.size A c a) (hb : RdB w w.heap.size A2 c2 a) :
    Calls Try.prog 11 #[.slice A n c, .slice A2 n c2] w fun e w' => e = .returned (.bool true) ∧ Below w.heap.size w w' :=
  (ref_eq_same A A2 c c2 n n _ _ a w hn hn ha.row hb.row (by omega)).mono fun _ _ ⟨h1, h2⟩ => ⟨h1, grown_none h2⟩
/-- A row of bytes that is handed back, its length named. -/
def RetBN (w : World) (N : Nat) (l : List UInt8) (e : Ending) (w' : World) : Prop := ∃ A c, e = .returned (.slice A N c) ∧ RdB w' w'.heap.size A c l ∧ Below w.heap.size w w'
theorem RetB.name {w w' : World} {l L : List UInt8} {e : Ending} {N : Nat} (h : RetB w.heap.size w l e w') (hL : l = L) (hN : L.length = N) : RetBN w N L e w' := by
  subst hL
  obtain ⟨v, h1, h2, h3⟩ := h
  obtain ⟨A, c, rfl, h4⟩ := h2.read_n hN.symm
  exact ⟨A, c, h1, h4, h3⟩
end Go.Proofs.Ytfklochgciijkaa

/-
  The laws of layer 16: what they ask of the program's functions; the chapter's example.
-/
namespace Go.Proofs.Ytfklochgciijkaa
open Go.RowKit

def RetSX (w : World) (N : Nat) (x : Int) (s : List Kn) (e : Ending) (w' : World) : Prop := ∃ A c, e = .returned (.tuple #[.slice A N c, .int .i64 x]) ∧ RdK w' w'.heap.size A c s ∧ Below w.heap.size w w'
def RetPX (w : World) (N : Nat) (x : Int) (k : List Pc) (e : Ending) (w' : World) : Prop := ∃ A c, e = .returned (.tuple #[.slice A N c, .int .i64 x]) ∧ RdPc w' A c k ∧ Below w.heap.size w w'
/-- What is asked of a set, and of knowledge, that is put. -/
def SmallKs (s : List Kn) : Prop := CapS s ∧ ∀ k ∈ s, k.runs.length ≤ 4096
def SmallKp (k : List Pc) : Prop := CapK k ∧ ∀ p ∈ k, ∀ x ∈ p.set, x.runs.length ≤ 4096
def KPutSC (F : FuncId) : Prop := ∀ (A : Option Addr) (c n : Nat) (s : List Kn), n = s.length → SmallKs s →
  (rightS s = true → ∀ N l, setB s = l → l.length = N → ∀ w, RdK w w.heap.size A c s → Calls Try.prog F #[.slice A n c] w (RetBX w N 0 l)) ∧ (rightS s = false → ∀ w, RdK w w.heap.size A c s → Calls Try.prog F #[.slice A n c] w (RetBX w 0 2 []))
def KPutKC (F : FuncId) : Prop := ∀ (A : Option Addr) (c n : Nat) (k : List Pc), n = k.length → SmallKp k →
  (rightP k = true → ∀ N l, knowB k = l → l.length = N → ∀ w, RdPc w A c k → Calls Try.prog F #[.slice A n c] w (RetBX w N 0 l)) ∧ (rightP k = false → ∀ w, RdPc w A c k → Calls Try.prog F #[.slice A n c] w (RetBX w 0 2 []))
def KReadSC (F : FuncId) : Prop := ∀ (A : Option Addr) (c n : Nat) (b : List UInt8), n = b.length → n ≤ 1000000 → ∀ (N : Nat) (y : List Kn) (x : Int), readS b = (y, x) → y.length = N → ∀ w, RdB w w.heap.size A c b → Calls Try.prog F #[.slice A n c] w (RetSX w N x y)
def KReadKC (F : FuncId) : Prop := ∀ (A : Option Addr) (c n : Nat) (b : List UInt8), n = b.length → n ≤ 1000000 → ∀ (N : Nat) (y : List Pc) (x : Int), readK b = (y, x) → y.length = N → ∀ w, RdB w w.heap.size A c b → Calls Try.prog F #[.slice A n c] w (RetPX w N x y)
theorem RetSe.named {w w' : World} {x : List Kn × Int} {l : List Kn} {f : Int} {e : Ending} {N : Nat} (h : RetSe w x e w') (hx : x = (l, f)) (hN : l.length = N) : RetSX w N f l e w' := by
  subst hx
  obtain ⟨A, c, n, h1, h2, h3, h4⟩ := h
  subst hN h2
  exact ⟨A, c, h1, h3, h4⟩
theorem RetKe.named {w w' : World} {x : List Pc × Int} {l : List Pc} {f : Int} {e : Ending} {N : Nat} (h : RetKe w x e w') (hx : x = (l, f)) (hN : l.length = N) : RetPX w N f l e w' := by
  subst hx
  obtain ⟨A, c, n, h1, h2, h3, h4⟩ := h
  subst hN h2
  exact ⟨A, c, h1, h3, h4⟩
theorem ex16 : setB [⟨1, [⟨1, 3⟩, ⟨6, 6⟩]⟩] = [1, 1, 2, 1, 2, 3, 0] := by
  simp only [setB, knB, runsB, List.flatMap_cons, List.flatMap_nil, List.length_cons, List.length_nil]
  repeat rw [putV_small (by decide)]
  decide
theorem ex16k : knowB [] = [0] := by simp [knowB, putV_zero]
/-- The chapter's set, as it is laid: its runs in one block, itself in the next. -/
theorem ex16_rd (w : World) : RdK ((w.alloc (.cells #[.int .i64 1, .int .i64 3, .int .i64 6, .int .i64 6] 49)).alloc (.cells #[.int .i64 1, .slice (some ⟨w.heap.size, 0, none⟩) 2 2] 52)) (w.heap.size + 1 + 1) (some ⟨w.heap.size + 1, 0, none⟩) 1 [⟨1, [⟨1, 3⟩, ⟨6, 6⟩]⟩] := by
  have h1 := Kind.rd_new (k := kRn) (w := w) (cs := #[.int .i64 1, .int .i64 3, .int .i64 6, .int .i64 6]) (t := 49) (l := [⟨1, 3⟩, ⟨6, 6⟩]) (n := 2) rfl rfl (by simp)
  have h2 := Kind.rd_new (k := kKs) (w := w.alloc (.cells #[.int .i64 1, .int .i64 3, .int .i64 6, .int .i64 6] 49)) (cs := #[.int .i64 1, .slice (some ⟨w.heap.size, 0, none⟩) 2 2]) (t := 52) (l := [⟨1, some ⟨w.heap.size, 0, none⟩, 2, 2⟩]) (n := 1) rfl rfl (by simp)
  rw [size1] at h2
  refine ⟨_, h2, rfl, fun i k x hk hx => ?_⟩
  match i with
  | 0 =>
    injection hk with hk; injection hx with hx; subst hk hx
    exact ⟨rfl, rfl, (h1.below ((Below.refl _ _).alloc (by simp) _)).more (by omega)⟩
  | i + 1 => cases hk
set_option maxRecDepth 100000 in
set_option maxHeartbeats 4000000 in
theorem awake16 (HP : KPutSC 8) (HK : KPutKC 15) (w : World) :
    Calls Try.prog 6 #[] w fun e w' => e = .returned (.bool true) ∧ Below w.heap.size w w' := by
  have P1 := fun (w : World) hr => Lib.hid ((HP (some ⟨w.heap.size + 1, 0, none⟩) 1 1 [⟨1, [⟨1, 3⟩, ⟨6, 6⟩]⟩] rfl ⟨⟨by simp, fun r => by
      have := runsV_len (s := [⟨1, [⟨1, 3⟩, ⟨6, 6⟩]⟩]) (m := 2) r (fun k hk => by simp at hk; subst hk; simp)
      simp at this; omega⟩, fun k hk => by simp at hk; subst hk; simp⟩).1 (by decide +kernel) 7 _ ex16 rfl ((w.alloc (.cells #[.int .i64 1, .int .i64 3, .int .i64 6, .int .i64 6] 49)).alloc (.cells #[.int .i64 1, .slice (some ⟨w.heap.size, 0, none⟩) 2 2] 52)) hr)
  have K1 := fun w => Lib.hid ((HK none 0 0 [] rfl ⟨CapN.nil _ _, fun p hp => by cases hp⟩).1 rfl 1 _ ex16k rfl w (rdPc_none w))
  have Q1 := fun (w : World) => Lib.hid (show RdK ((w.alloc (.cells #[.int .i64 1, .int .i64 3, .int .i64 6, .int .i64 6] 49)).alloc (.cells #[.int .i64 1, .slice (some ⟨w.heap.size, 0, none⟩) 2 2] 52)) ((w.alloc (.cells #[.int .i64 1, .int .i64 3, .int .i64 6, .int .i64 6] 49)).alloc (.cells #[.int .i64 1, .slice (some ⟨w.heap.size, 0, none⟩) 2 2] 52)).heap.size (some ⟨w.heap.size + 1, 0, none⟩) 1 _ by rw [size1, size1]; exact ex16_rd w)
  have HW := Lib.hid (Below.refl w.heap.size w)
  clear HP HK
  go_enter Try.func6, Try.ntmps6
  go_upto_region 3 with (first
    | ((with_reducible refine (P1 _ (Q1 _).out).out.mono ?_); rintro e w8 ⟨A1, c1, rfl, hr, hq⟩; replace HW := Lib.hid ((((Below.refl w.heap.size w).alloc (Nat.le_refl _) _).alloc (by simp) _).trans (hq.mono (by simp; omega))); have H1 := Lib.hid hr; clear hr hq)
    | ((with_reducible refine (K1 _).out.mono ?_); rintro e w9 ⟨A2, c2, rfl, hr, hq⟩; replace H1 := Lib.hid (rdB_on H1.out hq); replace HW := Lib.hid (HW.out.trans (hq.mono HW.out.size)); have H2 := Lib.hid hr; clear hr hq))
  clear P1 K1 Q1
  have E1 := fun (w : World) hb hc => Lib.hid (bytes_eq A1 (some ⟨w.heap.size, 0, none⟩) c1 7 7 [1, 1, 2, 1, 2, 3, 0] rfl (by simp) (w.alloc (.cells #[.int .u8 1, .int .u8 1, .int .u8 2, .int .u8 1, .int .u8 2, .int .u8 3, .int .u8 0] 5)) hb hc)
  have E2 := fun (w : World) hb hc => Lib.hid (bytes_eq A2 (some ⟨w.heap.size, 0, none⟩) c2 1 1 [0] rfl (by simp) (w.alloc (.cells #[.int .u8 0] 5)) hb hc)
  go_wp2_with (first
    | ((with_reducible refine (E1 _ (rdB_on H1.out (below_new _ _)) (rdB_fresh _ _ _ _ rfl rfl (by simp))).out.mono ?_); rintro e w7 ⟨rfl, hq⟩; replace H2 := Lib.hid (rdB_on (rdB_on H2.out (below_new w9 _)) hq); replace HW := Lib.hid (HW.out.trans (((below_new w9 _).trans (hq.mono (by rw [size1]; omega))).mono HW.out.size)); clear hq)
    | ((with_reducible refine (E2 _ (rdB_on H2.out (below_new _ _)) (rdB_fresh _ _ _ _ rfl rfl (by simp))).out.mono ?_); rintro e w6 ⟨rfl, hq⟩; replace HW := Lib.hid (HW.out.trans (((below_new w7 _).trans (hq.mono (by rw [size1]; omega))).mono HW.out.size)); clear hq))
  go_ret
  exact ⟨rfl, HW.out⟩
end Go.Proofs.Ytfklochgciijkaa

/-
  The laws of layer 16: KcodeSets, KcodeKnow.
-/
namespace Go.Proofs.Ytfklochgciijkaa
open Go.RowKit

theorem runsB_short : ∀ (l : List Rn) (was : Int), l.length ≤ (runsB was l).length
  | [], _ => Nat.zero_le _
  | r :: l, was => by
    have h1 := runsB_short l r.to
    have h2 := putV_pos (r.fr - was).toNat
    rw [runsB, List.length_append, List.length_append, List.length_cons]; omega
theorem mem_flat_len {α β : Type} (f : α → List β) : ∀ {l : List α} {x : α}, x ∈ l → (f x).length ≤ (l.flatMap f).length
  | y :: l, x, h => by
    rw [List.flatMap_cons, List.length_append]
    rcases List.mem_cons.1 h with rfl | h
    · omega
    · have := mem_flat_len f h; omega
theorem setB_short {s : List Kn} {k : Kn} (h : k ∈ s) : k.runs.length ≤ (setB s).length := by
  have h1 := mem_flat_len knB h
  have h2 := runsB_short k.runs 0
  have h3 : (runsB 0 k.runs).length ≤ (knB k).length := by unfold knB; rw [List.length_append, List.length_append]; omega
  unfold setB
  rw [List.length_append]; omega
theorem knB_len1 {k : Kn} {m : Nat} (h : smallKn k) (hm : k.runs.length ≤ m) : (knB k).length ≤ 18 + 18 * m := by
  obtain ⟨h1, h2, h3, h4⟩ := h
  have p1 := putV_len10 k.rep.toNat (by omega)
  have p2 := putV_len10 k.runs.length (by omega)
  have p3 := runsB_len k.runs 0 (Int.le_refl _) h3 fun r m e => by rw [e] at h3; have := oneC_iff.1 (rightC_head h3); omega
  unfold knB
  rw [List.length_append, List.length_append]
  omega
theorem setB_len1 {s : List Kn} {m : Nat} (h : rightS s = true) (hm : ∀ k ∈ s, k.runs.length ≤ m) (h9 : m ≤ 4096) : (setB s).length ≤ 9 + 16 * (18 + 18 * m) := by
  have h1 := rightS_len h
  have h2 := fcd_flat_len knB (18 + 18 * m) s fun y hy => knB_len1 (smallKn_of h (fun k hk => Nat.le_trans (hm k hk) h9) y hy) (hm y hy)
  have h3 : s.length * (18 + 18 * m) ≤ 16 * (18 + 18 * m) := Nat.mul_le_mul_right _ h1
  have h4 := putV_len10 s.length (by omega)
  unfold setB
  rw [List.length_append]; omega
theorem small_long {s : List Kn} {m : Nat} (h : longV m s = false) (hm : m ≤ 30) : SmallKs s := by
  have h1 := longV_size h
  refine ⟨⟨by have := h1.1; omega, fun r => ?_⟩, fun k hk => by have := h1.2 k hk; omega⟩
  have h2 := runsV_len r h1.2
  have h3 : m * s.length ≤ 30 * 30 := Nat.mul_le_mul hm (by have := h1.1; omega)
  omega
theorem longPc_set {p : Pc} (h : longPc p = false) : longV 16 p.set = false := by
  unfold longPc at h
  simp only [Bool.or_eq_false_iff] at h
  exact h.2
theorem longP_set {m : Nat} {k : List Pc} (h : longP m k = false) : k.length ≤ m ∧ ∀ p ∈ k, longPc p = false := by
  unfold longP at h
  rw [Bool.or_eq_false_iff, decide_eq_false_iff_not, List.any_eq_false] at h
  exact ⟨by omega, fun p hp => by have := h.2 p hp; simpa using this⟩
theorem smallp_long {k : List Pc} {m : Nat} (h : longP m k = false) (hm : m ≤ 30) : SmallKp k :=
  ⟨(longP_cap h).mono (by omega) (by omega), fun p hp x hx => by have := (longV_size (longPc_set ((longP_set h).2 p hp))).2 x hx; omega⟩
theorem knowB_len1 {k : List Pc} (h : rightP k = true) (hl : longP 30 k = false) : (knowB k).length ≤ 200000 := by
  obtain ⟨h0, h1⟩ := longP_set hl
  have h2 := fcd_flat_len pieceB 5000 k fun p hp => by
    obtain ⟨g1, -, g3⟩ := onePc_iff.1 (rightP_all h p hp)
    have g4 := setB_len1 g3 (longV_size (longPc_set (h1 p hp))).2 (by omega)
    have g5 := rightR_lo g1
    have g6 := rightR_hi g1
    have t1 : (txtB p.rng.lo).length ≤ 26 := by have := putV_len10 p.rng.lo.length (by omega); unfold txtB; rw [List.length_append]; omega
    have t2 : (txtB p.rng.hi).length ≤ 26 := by have := putV_len10 p.rng.hi.length (by omega); unfold txtB; rw [List.length_append]; omega
    have t3 : (rngB p.rng).length ≤ 60 := by unfold rngB; rw [List.length_append]; cases p.rng.op <;> simp <;> omega
    unfold pieceB
    rw [List.length_append]; omega
  have h3 : k.length * 5000 ≤ 30 * 5000 := Nat.mul_le_mul_right _ h0
  have h4 := putV_len10 k.length (by omega)
  unfold knowB
  rw [List.length_append]; omega
set_option maxRecDepth 100000 in
set_option maxHeartbeats 4000000 in
theorem kcodeSets_walk (HP : KPutSC 8) (HK : KPutKC 15) (HRD : KReadSC 10)
    (A : Option Addr) (c n : Nat) (l : List Kn) (hn : n = l.length) (w : World) (ha : RdK w w.heap.size A c l) :
    Calls Try.prog 3 #[.slice A n c] w fun e w' => e = .returned (.bool true) ∧ Below w.heap.size w w' := by
  have A0 := fun w => Lib.hid (awake16 HP HK w)
  obtain ⟨va, hva⟩ : ∃ v, longV 30 l = v := ⟨_, rfl⟩
  have La := fun w hr => Lib.hid (ref_vlong 30 30 rfl (by omega) A c n l hn va hva w hr)
  have HA := Lib.hid ha
  have HW := Lib.hid (Below.refl w.heap.size w)
  cases va
  case true =>
    clear HP HK HRD hva hn ha
    go_enter Try.func3, Try.ntmps3
    go_wp2_with (first
      | ((with_reducible refine (A0 _).out.mono ?_); rintro e w9 ⟨rfl, hq⟩; replace HW := Lib.hid (HW.out.trans (hq.mono HW.out.size)); (try replace HA := Lib.hid (HA.out.call hq)); (try replace H1 := Lib.hid (rdB_on H1.out hq)); (try replace H2 := Lib.hid (H2.out.call hq)); (try replace H3 := Lib.hid (rdB_on H3.out hq));  clear hq)
      | ((with_reducible refine (La _ HA.out).out.mono ?_); rintro e w9 ⟨rfl, hq⟩; replace HW := Lib.hid (HW.out.trans (hq.mono HW.out.size)); (try replace HA := Lib.hid (HA.out.call hq)); (try replace H1 := Lib.hid (rdB_on H1.out hq)); (try replace H2 := Lib.hid (H2.out.call hq)); (try replace H3 := Lib.hid (rdB_on H3.out hq));  clear hq))
    go_ret
    exact ⟨rfl, HW.out⟩
  case false =>
    have hsm := small_long hva (by omega)
    obtain ⟨v1, hv1⟩ : ∃ v, rightS l = v := ⟨_, rfl⟩
    have RL := fun w hr => Lib.hid (ref_vsright A c n l hn v1 hv1 w hr)
    have hp := HP A c n l hn hsm
    cases v1
    case false =>
      have P0 := fun w hr => Lib.hid (hp.2 hv1 w hr)
      clear HP HK HRD hva hn ha hsm hv1 hp
      go_enter Try.func3, Try.ntmps3
      go_wp2_with (first
        | ((with_reducible refine (A0 _).out.mono ?_); rintro e w9 ⟨rfl, hq⟩; replace HW := Lib.hid (HW.out.trans (hq.mono HW.out.size)); (try replace HA := Lib.hid (HA.out.call hq)); (try replace H1 := Lib.hid (rdB_on H1.out hq)); (try replace H2 := Lib.hid (H2.out.call hq)); (try replace H3 := Lib.hid (rdB_on H3.out hq));  clear hq)
        | ((with_reducible refine (La _ HA.out).out.mono ?_); rintro e w9 ⟨rfl, hq⟩; replace HW := Lib.hid (HW.out.trans (hq.mono HW.out.size)); (try replace HA := Lib.hid (HA.out.call hq)); (try replace H1 := Lib.hid (rdB_on H1.out hq)); (try replace H2 := Lib.hid (H2.out.call hq)); (try replace H3 := Lib.hid (rdB_on H3.out hq));  clear hq)
        | ((with_reducible refine (P0 _ HA.out).out.mono ?_); rintro e w9 ⟨A1, c1, rfl, hr, hq⟩; replace HW := Lib.hid (HW.out.trans (hq.mono HW.out.size)); (try replace HA := Lib.hid (HA.out.call hq)); (try replace H1 := Lib.hid (rdB_on H1.out hq)); (try replace H2 := Lib.hid (H2.out.call hq)); (try replace H3 := Lib.hid (rdB_on H3.out hq));  have H1 := Lib.hid hr; clear hr; clear hq)
        | ((with_reducible refine (RL _ HA.out).out.mono ?_); rintro e w9 ⟨rfl, hq⟩; replace HW := Lib.hid (HW.out.trans (hq.mono HW.out.size)); (try replace HA := Lib.hid (HA.out.call hq)); (try replace H1 := Lib.hid (rdB_on H1.out hq)); (try replace H2 := Lib.hid (H2.out.call hq)); (try replace H3 := Lib.hid (rdB_on H3.out hq));  clear hq))
      go_ret
      exact ⟨rfl, HW.out⟩
    case true =>
      obtain ⟨L, hL⟩ : ∃ L, setB l = L := ⟨_, rfl⟩
      obtain ⟨N, hN⟩ : ∃ N, L.length = N := ⟨_, rfl⟩
      have hN9 : N ≤ 200000 := by
        rw [← hN, ← hL]
        exact Nat.le_trans (setB_len1 hv1 (longV_size hva).2 (by omega)) (by omega)
      have P1 := fun w hr => Lib.hid (hp.1 hv1 N L hL hN w hr)
      have RD := fun A1 c1 w hr => Lib.hid (HRD A1 c1 N L hN.symm (by omega) n l 0 (by rw [← hL]; exact readS_put hv1 hsm.2) hn.symm w hr)
      have RR := fun w hr => Lib.hid ((ref_kset A c n l hn hv1 hsm.2 w hr).mono fun e w' h => RetB.name h hL hN)
      have EQ := fun A1 A2 c1 c2 w h1 h2 => Lib.hid (bytes_eq A1 A2 c1 c2 N L hN.symm (by omega) w h1 h2)
      have SM := fun A1 c1 w h1 h2 => Lib.hid (vsame_is A1 A c1 c n n l hn hn w h1 h2)
      clear HP HK HRD hva hn ha hsm hv1 hp hL hN hN9
      go_enter Try.func3, Try.ntmps3
      go_wp2_with (first
        | ((with_reducible refine (A0 _).out.mono ?_); rintro e w9 ⟨rfl, hq⟩; replace HW := Lib.hid (HW.out.trans (hq.mono HW.out.size)); (try replace HA := Lib.hid (HA.out.call hq)); (try replace H1 := Lib.hid (rdB_on H1.out hq)); (try replace H2 := Lib.hid (H2.out.call hq)); (try replace H3 := Lib.hid (rdB_on H3.out hq));  clear hq)
        | ((with_reducible refine (La _ HA.out).out.mono ?_); rintro e w9 ⟨rfl, hq⟩; replace HW := Lib.hid (HW.out.trans (hq.mono HW.out.size)); (try replace HA := Lib.hid (HA.out.call hq)); (try replace H1 := Lib.hid (rdB_on H1.out hq)); (try replace H2 := Lib.hid (H2.out.call hq)); (try replace H3 := Lib.hid (rdB_on H3.out hq));  clear hq)
        | ((with_reducible refine (P1 _ HA.out).out.mono ?_); rintro e w9 ⟨A1, c1, rfl, hr, hq⟩; replace HW := Lib.hid (HW.out.trans (hq.mono HW.out.size)); (try replace HA := Lib.hid (HA.out.call hq)); (try replace H1 := Lib.hid (rdB_on H1.out hq)); (try replace H2 := Lib.hid (H2.out.call hq)); (try replace H3 := Lib.hid (rdB_on H3.out hq));  have H1 := Lib.hid hr; clear hr; clear hq)
        | ((with_reducible refine (RL _ HA.out).out.mono ?_); rintro e w9 ⟨rfl, hq⟩; replace HW := Lib.hid (HW.out.trans (hq.mono HW.out.size)); (try replace HA := Lib.hid (HA.out.call hq)); (try replace H1 := Lib.hid (rdB_on H1.out hq)); (try replace H2 := Lib.hid (H2.out.call hq)); (try replace H3 := Lib.hid (rdB_on H3.out hq));  clear hq)
        | ((with_reducible refine (RD _ _ _ H1.out).out.mono ?_); rintro e w9 ⟨A2, c2, rfl, hr, hq⟩; replace HW := Lib.hid (HW.out.trans (hq.mono HW.out.size)); (try replace HA := Lib.hid (HA.out.call hq)); (try replace H1 := Lib.hid (rdB_on H1.out hq)); (try replace H2 := Lib.hid (H2.out.call hq)); (try replace H3 := Lib.hid (rdB_on H3.out hq));  have H2 := Lib.hid hr; clear hr; clear hq)
        | ((with_reducible refine (RR _ HA.out).out.mono ?_); rintro e w9 ⟨A3, c3, rfl, hr, hq⟩; replace HW := Lib.hid (HW.out.trans (hq.mono HW.out.size)); (try replace HA := Lib.hid (HA.out.call hq)); (try replace H1 := Lib.hid (rdB_on H1.out hq)); (try replace H2 := Lib.hid (H2.out.call hq)); (try replace H3 := Lib.hid (rdB_on H3.out hq));  have H3 := Lib.hid hr; clear hr; clear hq)
        | ((with_reducible refine (EQ _ _ _ _ _ H1.out H3.out).out.mono ?_); rintro e w9 ⟨rfl, hq⟩; replace HW := Lib.hid (HW.out.trans (hq.mono HW.out.size)); (try replace HA := Lib.hid (HA.out.call hq)); (try replace H1 := Lib.hid (rdB_on H1.out hq)); (try replace H2 := Lib.hid (H2.out.call hq)); (try replace H3 := Lib.hid (rdB_on H3.out hq));  clear hq)
        | ((with_reducible refine (SM _ _ _ H2.out HA.out).out.mono ?_); rintro e w9 ⟨rfl, hq⟩; replace HW := Lib.hid (HW.out.trans (hq.mono HW.out.size)); (try replace HA := Lib.hid (HA.out.call hq)); (try replace H1 := Lib.hid (rdB_on H1.out hq)); (try replace H2 := Lib.hid (H2.out.call hq)); (try replace H3 := Lib.hid (rdB_on H3.out hq));  clear hq))
      go_ret
      exact ⟨rfl, HW.out⟩
set_option maxRecDepth 100000 in
set_option maxHeartbeats 4000000 in
theorem kcodeKnow_walk (HP : KPutSC 8) (HK : KPutKC 15) (HRD : KReadKC 17)
    (A : Option Addr) (c n : Nat) (l : List Pc) (hn : n = l.length) (w : World) (ha : RdPc w A c l) :
    Calls Try.prog 4 #[.slice A n c] w fun e w' => e = .returned (.bool true) ∧ Below w.heap.size w w' := by
  have A0 := fun w => Lib.hid (awake16 HP HK w)
  obtain ⟨va, hva⟩ : ∃ v, longP 30 l = v := ⟨_, rfl⟩
  have La := fun w hr => Lib.hid (ref_plong 30 30 rfl (by omega) A c n l hn va hva w hr)
  have HA := Lib.hid ha
  have HW := Lib.hid (Below.refl w.heap.size w)
  cases va
  case true =>
    clear HP HK HRD hva hn ha
    go_enter Try.func4, Try.ntmps4
    go_wp2_with (first
      | ((with_reducible refine (A0 _).out.mono ?_); rintro e w9 ⟨rfl, hq⟩; replace HW := Lib.hid (HW.out.trans (hq.mono HW.out.size)); (try replace HA := Lib.hid (HA.out.call hq)); (try replace H1 := Lib.hid (rdB_on H1.out hq)); (try replace H2 := Lib.hid (H2.out.call hq)); (try replace H3 := Lib.hid (rdB_on H3.out hq));  clear hq)
      | ((with_reducible refine (La _ HA.out).out.mono ?_); rintro e w9 ⟨rfl, hq⟩; replace HW := Lib.hid (HW.out.trans (hq.mono HW.out.size)); (try replace HA := Lib.hid (HA.out.call hq)); (try replace H1 := Lib.hid (rdB_on H1.out hq)); (try replace H2 := Lib.hid (H2.out.call hq)); (try replace H3 := Lib.hid (rdB_on H3.out hq));  clear hq))
    go_ret
    exact ⟨rfl, HW.out⟩
  case false =>
    have hsm := smallp_long hva (by omega)
    obtain ⟨v1, hv1⟩ : ∃ v, rightP l = v := ⟨_, rfl⟩
    have RL := fun w hr => Lib.hid (ref_pright A c n l hn (fun p hp => by have := (hsm.1.each p hp).1; have := (hsm.1.each p hp).2.1; omega) v1 hv1 w hr)
    have hp := HK A c n l hn hsm
    cases v1
    case false =>
      have P0 := fun w hr => Lib.hid (hp.2 hv1 w hr)
      clear HP HK HRD hva hn ha hsm hv1 hp
      go_enter Try.func4, Try.ntmps4
      go_wp2_with (first
        | ((with_reducible refine (A0 _).out.mono ?_); rintro e w9 ⟨rfl, hq⟩; replace HW := Lib.hid (HW.out.trans (hq.mono HW.out.size)); (try replace HA := Lib.hid (HA.out.call hq)); (try replace H1 := Lib.hid (rdB_on H1.out hq)); (try replace H2 := Lib.hid (H2.out.call hq)); (try replace H3 := Lib.hid (rdB_on H3.out hq));  clear hq)
        | ((with_reducible refine (La _ HA.out).out.mono ?_); rintro e w9 ⟨rfl, hq⟩; replace HW := Lib.hid (HW.out.trans (hq.mono HW.out.size)); (try replace HA := Lib.hid (HA.out.call hq)); (try replace H1 := Lib.hid (rdB_on H1.out hq)); (try replace H2 := Lib.hid (H2.out.call hq)); (try replace H3 := Lib.hid (rdB_on H3.out hq));  clear hq)
        | ((with_reducible refine (P0 _ HA.out).out.mono ?_); rintro e w9 ⟨A1, c1, rfl, hr, hq⟩; replace HW := Lib.hid (HW.out.trans (hq.mono HW.out.size)); (try replace HA := Lib.hid (HA.out.call hq)); (try replace H1 := Lib.hid (rdB_on H1.out hq)); (try replace H2 := Lib.hid (H2.out.call hq)); (try replace H3 := Lib.hid (rdB_on H3.out hq));  have H1 := Lib.hid hr; clear hr; clear hq)
        | ((with_reducible refine (RL _ HA.out).out.mono ?_); rintro e w9 ⟨rfl, hq⟩; replace HW := Lib.hid (HW.out.trans (hq.mono HW.out.size)); (try replace HA := Lib.hid (HA.out.call hq)); (try replace H1 := Lib.hid (rdB_on H1.out hq)); (try replace H2 := Lib.hid (H2.out.call hq)); (try replace H3 := Lib.hid (rdB_on H3.out hq));  clear hq))
      go_ret
      exact ⟨rfl, HW.out⟩
    case true =>
      obtain ⟨L, hL⟩ : ∃ L, knowB l = L := ⟨_, rfl⟩
      obtain ⟨N, hN⟩ : ∃ N, L.length = N := ⟨_, rfl⟩
      have hN9 : N ≤ 200000 := by
        rw [← hN, ← hL]
        exact knowB_len1 hv1 hva
      have P1 := fun w hr => Lib.hid (hp.1 hv1 N L hL hN w hr)
      have RD := fun A1 c1 w hr => Lib.hid (HRD A1 c1 N L hN.symm (by omega) n l 0 (by rw [← hL]; exact readK_put hv1 (by have := hsm.1.len; omega) hsm.2) hn.symm w hr)
      have RR := fun w hr => Lib.hid ((ref_kknow A c n l hn (by have := hsm.1.len; omega) (fun p hp => ⟨rightP_all hv1 p hp, hsm.2 p hp⟩) w hr).mono fun e w' h => RetB.name h hL hN)
      have EQ := fun A1 A2 c1 c2 w h1 h2 => Lib.hid (bytes_eq A1 A2 c1 c2 N L hN.symm (by omega) w h1 h2)
      have SM := fun A1 c1 w h1 h2 => Lib.hid (psame_is A1 A c1 c n n l hn hn w h1 h2)
      clear HP HK HRD hva hn ha hsm hv1 hp hL hN hN9
      go_enter Try.func4, Try.ntmps4
      go_wp2_with (first
        | ((with_reducible refine (A0 _).out.mono ?_); rintro e w9 ⟨rfl, hq⟩; replace HW := Lib.hid (HW.out.trans (hq.mono HW.out.size)); (try replace HA := Lib.hid (HA.out.call hq)); (try replace H1 := Lib.hid (rdB_on H1.out hq)); (try replace H2 := Lib.hid (H2.out.call hq)); (try replace H3 := Lib.hid (rdB_on H3.out hq));  clear hq)
        | ((with_reducible refine (La _ HA.out).out.mono ?_); rintro e w9 ⟨rfl, hq⟩; replace HW := Lib.hid (HW.out.trans (hq.mono HW.out.size)); (try replace HA := Lib.hid (HA.out.call hq)); (try replace H1 := Lib.hid (rdB_on H1.out hq)); (try replace H2 := Lib.hid (H2.out.call hq)); (try replace H3 := Lib.hid (rdB_on H3.out hq));  clear hq)
        | ((with_reducible refine (P1 _ HA.out).out.mono ?_); rintro e w9 ⟨A1, c1, rfl, hr, hq⟩; replace HW := Lib.hid (HW.out.trans (hq.mono HW.out.size)); (try replace HA := Lib.hid (HA.out.call hq)); (try replace H1 := Lib.hid (rdB_on H1.out hq)); (try replace H2 := Lib.hid (H2.out.call hq)); (try replace H3 := Lib.hid (rdB_on H3.out hq));  have H1 := Lib.hid hr; clear hr; clear hq)
        | ((with_reducible refine (RL _ HA.out).out.mono ?_); rintro e w9 ⟨rfl, hq⟩; replace HW := Lib.hid (HW.out.trans (hq.mono HW.out.size)); (try replace HA := Lib.hid (HA.out.call hq)); (try replace H1 := Lib.hid (rdB_on H1.out hq)); (try replace H2 := Lib.hid (H2.out.call hq)); (try replace H3 := Lib.hid (rdB_on H3.out hq));  clear hq)
        | ((with_reducible refine (RD _ _ _ H1.out).out.mono ?_); rintro e w9 ⟨A2, c2, rfl, hr, hq⟩; replace HW := Lib.hid (HW.out.trans (hq.mono HW.out.size)); (try replace HA := Lib.hid (HA.out.call hq)); (try replace H1 := Lib.hid (rdB_on H1.out hq)); (try replace H2 := Lib.hid (H2.out.call hq)); (try replace H3 := Lib.hid (rdB_on H3.out hq));  have H2 := Lib.hid hr; clear hr; clear hq)
        | ((with_reducible refine (RR _ HA.out).out.mono ?_); rintro e w9 ⟨A3, c3, rfl, hr, hq⟩; replace HW := Lib.hid (HW.out.trans (hq.mono HW.out.size)); (try replace HA := Lib.hid (HA.out.call hq)); (try replace H1 := Lib.hid (rdB_on H1.out hq)); (try replace H2 := Lib.hid (H2.out.call hq)); (try replace H3 := Lib.hid (rdB_on H3.out hq));  have H3 := Lib.hid hr; clear hr; clear hq)
        | ((with_reducible refine (EQ _ _ _ _ _ H1.out H3.out).out.mono ?_); rintro e w9 ⟨rfl, hq⟩; replace HW := Lib.hid (HW.out.trans (hq.mono HW.out.size)); (try replace HA := Lib.hid (HA.out.call hq)); (try replace H1 := Lib.hid (rdB_on H1.out hq)); (try replace H2 := Lib.hid (H2.out.call hq)); (try replace H3 := Lib.hid (rdB_on H3.out hq));  clear hq)
        | ((with_reducible refine (SM _ _ _ H2.out HA.out).out.mono ?_); rintro e w9 ⟨rfl, hq⟩; replace HW := Lib.hid (HW.out.trans (hq.mono HW.out.size)); (try replace HA := Lib.hid (HA.out.call hq)); (try replace H1 := Lib.hid (rdB_on H1.out hq)); (try replace H2 := Lib.hid (H2.out.call hq)); (try replace H3 := Lib.hid (rdB_on H3.out hq));  clear hq))
      go_ret
      exact ⟨rfl, HW.out⟩
end Go.Proofs.Ytfklochgciijkaa

/-
  The laws of layer 16: KcodeReads.
-/
namespace Go.Proofs.Ytfklochgciijkaa
open Go.RowKit

theorem knowB_short {k : List Pc} {p : Pc} {x : Kn} (h : p ∈ k) (hx : x ∈ p.set) : x.runs.length ≤ (knowB k).length := by
  have h1 := mem_flat_len pieceB h
  have h2 := setB_short hx
  have h3 : (setB p.set).length ≤ (pieceB p).length := by unfold pieceB; rw [List.length_append]; omega
  unfold knowB
  rw [List.length_append]; omega
set_option maxRecDepth 100000 in
set_option maxHeartbeats 8000000 in
theorem kcodeReads_walk (HP : KPutSC 8) (HK : KPutKC 15) (HR1 : KReadSC 10) (HR2 : KReadKC 17)
    (A : Option Addr) (c n : Nat) (b : List UInt8) (hn : n = b.length) (w : World) (ha : RdB w w.heap.size A c b) :
    Calls Try.prog 5 #[.slice A n c] w fun e w' => e = .returned (.bool true) ∧ Below w.heap.size w w' := by
  have A0 := fun w => Lib.hid (awake16 HP HK w)
  have HA := Lib.hid ha
  have HW := Lib.hid (Below.refl w.heap.size w)
  by_cases h15 : n ≤ 800
  · obtain ⟨L, f, h1⟩ : ∃ L f, readS b = (L, f) := ⟨_, _, rfl⟩
    obtain ⟨X, g, h2⟩ : ∃ X g, readK b = (X, g) := ⟨_, _, rfl⟩
    obtain ⟨N1, hN1⟩ : ∃ N, L.length = N := ⟨_, rfl⟩
    obtain ⟨N2, hN2⟩ : ∃ N, X.length = N := ⟨_, rfl⟩
    have D1 := fun w hr => Lib.hid (HR1 A c n b hn (by omega) N1 L f h1 hN1 w hr)
    have R1 := fun w hr => Lib.hid ((ref_kreads A c n b hn (by omega) w hr).mono fun e w' h => RetSe.named h h1 hN1)
    have D2 := fun w hr => Lib.hid (HR2 A c n b hn (by omega) N2 X g h2 hN2 w hr)
    have R2 := fun w hr => Lib.hid ((ref_kreadk A c n b hn (by omega) w hr).mono fun e w' h => RetKe.named h h2 hN2)
    have S1 := fun A1 A2 c1 c2 w p q => Lib.hid (vsame_is A1 A2 c1 c2 N1 N1 L hN1.symm hN1.symm w p q)
    have S2 := fun A1 A2 c1 c2 w p q => Lib.hid (psame_is A1 A2 c1 c2 N2 N2 X hN2.symm hN2.symm w p q)
    have PR0 : f = 0 → ∀ A1 c1 w, RdK w w.heap.size A1 c1 L → Hid (Calls Try.prog 12 #[.slice A1 N1 c1] w (RetBN w n b)) := fun hf A1 c1 w hr => Lib.hid (by
      subst hf
      obtain ⟨g1, g2⟩ := readS_back h1
      exact (ref_kset A1 c1 N1 L hN1.symm g2 (fun k hk => by have := setB_short hk; rw [g1] at this; omega) w hr).mono fun e w' h => RetB.name h g1 hn.symm)
    have PF0 : g = 0 → ∀ A1 c1 w, RdPc w A1 c1 X → Hid (Calls Try.prog 18 #[.slice A1 N2 c1] w (RetBN w n b)) := fun hf A1 c1 w hr => Lib.hid (by
      subst hf
      obtain ⟨g1, g2⟩ := readK_back h2
      have g3 := (allR2_back (g := pieceB) (fun _ _ _ _ hx => pieceRd_back hx) h2).2.2
      exact (ref_kknow A1 c1 N2 X hN2.symm (by omega) (fun p hp => ⟨rightP_all g2 p hp, fun x hx => by have := knowB_short hp hx; rw [g1] at this; omega⟩) w hr).mono fun e w' h => RetB.name h g1 hn.symm)
    have EQ := fun A1 c1 w p q => Lib.hid (bytes_eq A1 A c1 c n b hn (by omega) w p q)
    clear HP HK HR1 HR2 h1 h2 hn ha hN1 hN2
    by_cases hf : f = 0
    · have PR := PR0 hf
      subst hf
      by_cases hg : g = 0
      · have PF := PF0 hg
        subst hg
        clear PR0 PF0
        go_enter Try.func5, Try.ntmps5
        go_wp2_with (first
          | ((with_reducible refine (A0 _).out.mono ?_); rintro e w9 ⟨rfl, hq⟩; replace HW := Lib.hid (HW.out.trans (hq.mono HW.out.size)); (try replace HA := Lib.hid (rdB_on HA.out hq)); (try replace H1 := Lib.hid (H1.out.call hq)); (try replace H2 := Lib.hid (H2.out.call hq)); (try replace H3 := Lib.hid (H3.out.call hq)); (try replace H4 := Lib.hid (H4.out.call hq)); (try replace H5 := Lib.hid (rdB_on H5.out hq)); (try replace H6 := Lib.hid (rdB_on H6.out hq));  clear hq)
          | ((with_reducible refine (D1 _ HA.out).out.mono ?_); rintro e w9 ⟨A1, c1, rfl, hr, hq⟩; replace HW := Lib.hid (HW.out.trans (hq.mono HW.out.size)); (try replace HA := Lib.hid (rdB_on HA.out hq)); (try replace H1 := Lib.hid (H1.out.call hq)); (try replace H2 := Lib.hid (H2.out.call hq)); (try replace H3 := Lib.hid (H3.out.call hq)); (try replace H4 := Lib.hid (H4.out.call hq)); (try replace H5 := Lib.hid (rdB_on H5.out hq)); (try replace H6 := Lib.hid (rdB_on H6.out hq));  have H1 := Lib.hid hr; clear hr; clear hq)
          | ((with_reducible refine (R1 _ HA.out).out.mono ?_); rintro e w9 ⟨A2, c2, rfl, hr, hq⟩; replace HW := Lib.hid (HW.out.trans (hq.mono HW.out.size)); (try replace HA := Lib.hid (rdB_on HA.out hq)); (try replace H1 := Lib.hid (H1.out.call hq)); (try replace H2 := Lib.hid (H2.out.call hq)); (try replace H3 := Lib.hid (H3.out.call hq)); (try replace H4 := Lib.hid (H4.out.call hq)); (try replace H5 := Lib.hid (rdB_on H5.out hq)); (try replace H6 := Lib.hid (rdB_on H6.out hq));  have H2 := Lib.hid hr; clear hr; clear hq)
          | ((with_reducible refine (D2 _ HA.out).out.mono ?_); rintro e w9 ⟨A3, c3, rfl, hr, hq⟩; replace HW := Lib.hid (HW.out.trans (hq.mono HW.out.size)); (try replace HA := Lib.hid (rdB_on HA.out hq)); (try replace H1 := Lib.hid (H1.out.call hq)); (try replace H2 := Lib.hid (H2.out.call hq)); (try replace H3 := Lib.hid (H3.out.call hq)); (try replace H4 := Lib.hid (H4.out.call hq)); (try replace H5 := Lib.hid (rdB_on H5.out hq)); (try replace H6 := Lib.hid (rdB_on H6.out hq));  have H3 := Lib.hid hr; clear hr; clear hq)
          | ((with_reducible refine (R2 _ HA.out).out.mono ?_); rintro e w9 ⟨A4, c4, rfl, hr, hq⟩; replace HW := Lib.hid (HW.out.trans (hq.mono HW.out.size)); (try replace HA := Lib.hid (rdB_on HA.out hq)); (try replace H1 := Lib.hid (H1.out.call hq)); (try replace H2 := Lib.hid (H2.out.call hq)); (try replace H3 := Lib.hid (H3.out.call hq)); (try replace H4 := Lib.hid (H4.out.call hq)); (try replace H5 := Lib.hid (rdB_on H5.out hq)); (try replace H6 := Lib.hid (rdB_on H6.out hq));  have H4 := Lib.hid hr; clear hr; clear hq)
          | ((with_reducible refine (S1 _ _ _ _ _ H1.out H2.out).out.mono ?_); rintro e w9 ⟨rfl, hq⟩; replace HW := Lib.hid (HW.out.trans (hq.mono HW.out.size)); (try replace HA := Lib.hid (rdB_on HA.out hq)); (try replace H1 := Lib.hid (H1.out.call hq)); (try replace H2 := Lib.hid (H2.out.call hq)); (try replace H3 := Lib.hid (H3.out.call hq)); (try replace H4 := Lib.hid (H4.out.call hq)); (try replace H5 := Lib.hid (rdB_on H5.out hq)); (try replace H6 := Lib.hid (rdB_on H6.out hq));  clear hq)
          | ((with_reducible refine (S2 _ _ _ _ _ H3.out H4.out).out.mono ?_); rintro e w9 ⟨rfl, hq⟩; replace HW := Lib.hid (HW.out.trans (hq.mono HW.out.size)); (try replace HA := Lib.hid (rdB_on HA.out hq)); (try replace H1 := Lib.hid (H1.out.call hq)); (try replace H2 := Lib.hid (H2.out.call hq)); (try replace H3 := Lib.hid (H3.out.call hq)); (try replace H4 := Lib.hid (H4.out.call hq)); (try replace H5 := Lib.hid (rdB_on H5.out hq)); (try replace H6 := Lib.hid (rdB_on H6.out hq));  clear hq)
          | ((with_reducible refine (PR _ _ _ H1.out).out.mono ?_); rintro e w9 ⟨A5, c5, rfl, hr, hq⟩; replace HW := Lib.hid (HW.out.trans (hq.mono HW.out.size)); (try replace HA := Lib.hid (rdB_on HA.out hq)); (try replace H1 := Lib.hid (H1.out.call hq)); (try replace H2 := Lib.hid (H2.out.call hq)); (try replace H3 := Lib.hid (H3.out.call hq)); (try replace H4 := Lib.hid (H4.out.call hq)); (try replace H5 := Lib.hid (rdB_on H5.out hq)); (try replace H6 := Lib.hid (rdB_on H6.out hq));  have H5 := Lib.hid hr; clear hr; clear hq)
          | ((with_reducible refine (EQ _ _ _ H5.out HA.out).out.mono ?_); rintro e w9 ⟨rfl, hq⟩; replace HW := Lib.hid (HW.out.trans (hq.mono HW.out.size)); (try replace HA := Lib.hid (rdB_on HA.out hq)); (try replace H1 := Lib.hid (H1.out.call hq)); (try replace H2 := Lib.hid (H2.out.call hq)); (try replace H3 := Lib.hid (H3.out.call hq)); (try replace H4 := Lib.hid (H4.out.call hq)); (try replace H5 := Lib.hid (rdB_on H5.out hq)); (try replace H6 := Lib.hid (rdB_on H6.out hq));  clear hq)
          | ((with_reducible refine (PF _ _ _ H3.out).out.mono ?_); rintro e w9 ⟨A6, c6, rfl, hr, hq⟩; replace HW := Lib.hid (HW.out.trans (hq.mono HW.out.size)); (try replace HA := Lib.hid (rdB_on HA.out hq)); (try replace H1 := Lib.hid (H1.out.call hq)); (try replace H2 := Lib.hid (H2.out.call hq)); (try replace H3 := Lib.hid (H3.out.call hq)); (try replace H4 := Lib.hid (H4.out.call hq)); (try replace H5 := Lib.hid (rdB_on H5.out hq)); (try replace H6 := Lib.hid (rdB_on H6.out hq));  have H6 := Lib.hid hr; clear hr; clear hq)
          | ((with_reducible refine (EQ _ _ _ H6.out HA.out).out.mono ?_); rintro e w9 ⟨rfl, hq⟩; replace HW := Lib.hid (HW.out.trans (hq.mono HW.out.size)); (try replace HA := Lib.hid (rdB_on HA.out hq)); (try replace H1 := Lib.hid (H1.out.call hq)); (try replace H2 := Lib.hid (H2.out.call hq)); (try replace H3 := Lib.hid (H3.out.call hq)); (try replace H4 := Lib.hid (H4.out.call hq)); (try replace H5 := Lib.hid (rdB_on H5.out hq)); (try replace H6 := Lib.hid (rdB_on H6.out hq));  clear hq))
        go_ret
        exact ⟨rfl, HW.out⟩
      · have hge : (g == 0) = false := beq_eq_false_iff_ne.2 hg
        clear PR0 PF0
        go_enter Try.func5, Try.ntmps5
        go_wp2_with (first
          | ((with_reducible refine (A0 _).out.mono ?_); rintro e w9 ⟨rfl, hq⟩; replace HW := Lib.hid (HW.out.trans (hq.mono HW.out.size)); (try replace HA := Lib.hid (rdB_on HA.out hq)); (try replace H1 := Lib.hid (H1.out.call hq)); (try replace H2 := Lib.hid (H2.out.call hq)); (try replace H3 := Lib.hid (H3.out.call hq)); (try replace H4 := Lib.hid (H4.out.call hq)); (try replace H5 := Lib.hid (rdB_on H5.out hq)); (try replace H6 := Lib.hid (rdB_on H6.out hq));  clear hq)
          | ((with_reducible refine (D1 _ HA.out).out.mono ?_); rintro e w9 ⟨A1, c1, rfl, hr, hq⟩; replace HW := Lib.hid (HW.out.trans (hq.mono HW.out.size)); (try replace HA := Lib.hid (rdB_on HA.out hq)); (try replace H1 := Lib.hid (H1.out.call hq)); (try replace H2 := Lib.hid (H2.out.call hq)); (try replace H3 := Lib.hid (H3.out.call hq)); (try replace H4 := Lib.hid (H4.out.call hq)); (try replace H5 := Lib.hid (rdB_on H5.out hq)); (try replace H6 := Lib.hid (rdB_on H6.out hq));  have H1 := Lib.hid hr; clear hr; clear hq)
          | ((with_reducible refine (R1 _ HA.out).out.mono ?_); rintro e w9 ⟨A2, c2, rfl, hr, hq⟩; replace HW := Lib.hid (HW.out.trans (hq.mono HW.out.size)); (try replace HA := Lib.hid (rdB_on HA.out hq)); (try replace H1 := Lib.hid (H1.out.call hq)); (try replace H2 := Lib.hid (H2.out.call hq)); (try replace H3 := Lib.hid (H3.out.call hq)); (try replace H4 := Lib.hid (H4.out.call hq)); (try replace H5 := Lib.hid (rdB_on H5.out hq)); (try replace H6 := Lib.hid (rdB_on H6.out hq));  have H2 := Lib.hid hr; clear hr; clear hq)
          | ((with_reducible refine (D2 _ HA.out).out.mono ?_); rintro e w9 ⟨A3, c3, rfl, hr, hq⟩; replace HW := Lib.hid (HW.out.trans (hq.mono HW.out.size)); (try replace HA := Lib.hid (rdB_on HA.out hq)); (try replace H1 := Lib.hid (H1.out.call hq)); (try replace H2 := Lib.hid (H2.out.call hq)); (try replace H3 := Lib.hid (H3.out.call hq)); (try replace H4 := Lib.hid (H4.out.call hq)); (try replace H5 := Lib.hid (rdB_on H5.out hq)); (try replace H6 := Lib.hid (rdB_on H6.out hq));  have H3 := Lib.hid hr; clear hr; clear hq)
          | ((with_reducible refine (R2 _ HA.out).out.mono ?_); rintro e w9 ⟨A4, c4, rfl, hr, hq⟩; replace HW := Lib.hid (HW.out.trans (hq.mono HW.out.size)); (try replace HA := Lib.hid (rdB_on HA.out hq)); (try replace H1 := Lib.hid (H1.out.call hq)); (try replace H2 := Lib.hid (H2.out.call hq)); (try replace H3 := Lib.hid (H3.out.call hq)); (try replace H4 := Lib.hid (H4.out.call hq)); (try replace H5 := Lib.hid (rdB_on H5.out hq)); (try replace H6 := Lib.hid (rdB_on H6.out hq));  have H4 := Lib.hid hr; clear hr; clear hq)
          | ((with_reducible refine (S1 _ _ _ _ _ H1.out H2.out).out.mono ?_); rintro e w9 ⟨rfl, hq⟩; replace HW := Lib.hid (HW.out.trans (hq.mono HW.out.size)); (try replace HA := Lib.hid (rdB_on HA.out hq)); (try replace H1 := Lib.hid (H1.out.call hq)); (try replace H2 := Lib.hid (H2.out.call hq)); (try replace H3 := Lib.hid (H3.out.call hq)); (try replace H4 := Lib.hid (H4.out.call hq)); (try replace H5 := Lib.hid (rdB_on H5.out hq)); (try replace H6 := Lib.hid (rdB_on H6.out hq));  clear hq)
          | ((with_reducible refine (S2 _ _ _ _ _ H3.out H4.out).out.mono ?_); rintro e w9 ⟨rfl, hq⟩; replace HW := Lib.hid (HW.out.trans (hq.mono HW.out.size)); (try replace HA := Lib.hid (rdB_on HA.out hq)); (try replace H1 := Lib.hid (H1.out.call hq)); (try replace H2 := Lib.hid (H2.out.call hq)); (try replace H3 := Lib.hid (H3.out.call hq)); (try replace H4 := Lib.hid (H4.out.call hq)); (try replace H5 := Lib.hid (rdB_on H5.out hq)); (try replace H6 := Lib.hid (rdB_on H6.out hq));  clear hq)
          | ((with_reducible refine (PR _ _ _ H1.out).out.mono ?_); rintro e w9 ⟨A5, c5, rfl, hr, hq⟩; replace HW := Lib.hid (HW.out.trans (hq.mono HW.out.size)); (try replace HA := Lib.hid (rdB_on HA.out hq)); (try replace H1 := Lib.hid (H1.out.call hq)); (try replace H2 := Lib.hid (H2.out.call hq)); (try replace H3 := Lib.hid (H3.out.call hq)); (try replace H4 := Lib.hid (H4.out.call hq)); (try replace H5 := Lib.hid (rdB_on H5.out hq)); (try replace H6 := Lib.hid (rdB_on H6.out hq));  have H5 := Lib.hid hr; clear hr; clear hq)
          | ((with_reducible refine (EQ _ _ _ H5.out HA.out).out.mono ?_); rintro e w9 ⟨rfl, hq⟩; replace HW := Lib.hid (HW.out.trans (hq.mono HW.out.size)); (try replace HA := Lib.hid (rdB_on HA.out hq)); (try replace H1 := Lib.hid (H1.out.call hq)); (try replace H2 := Lib.hid (H2.out.call hq)); (try replace H3 := Lib.hid (H3.out.call hq)); (try replace H4 := Lib.hid (H4.out.call hq)); (try replace H5 := Lib.hid (rdB_on H5.out hq)); (try replace H6 := Lib.hid (rdB_on H6.out hq));  clear hq))
        go_ret
        exact ⟨rfl, HW.out⟩
    · have hfe : (f == 0) = false := beq_eq_false_iff_ne.2 hf
      by_cases hg : g = 0
      · have PF := PF0 hg
        subst hg
        clear PR0 PF0
        go_enter Try.func5, Try.ntmps5
        go_wp2_with (first
          | ((with_reducible refine (A0 _).out.mono ?_); rintro e w9 ⟨rfl, hq⟩; replace HW := Lib.hid (HW.out.trans (hq.mono HW.out.size)); (try replace HA := Lib.hid (rdB_on HA.out hq)); (try replace H1 := Lib.hid (H1.out.call hq)); (try replace H2 := Lib.hid (H2.out.call hq)); (try replace H3 := Lib.hid (H3.out.call hq)); (try replace H4 := Lib.hid (H4.out.call hq)); (try replace H5 := Lib.hid (rdB_on H5.out hq)); (try replace H6 := Lib.hid (rdB_on H6.out hq));  clear hq)
          | ((with_reducible refine (D1 _ HA.out).out.mono ?_); rintro e w9 ⟨A1, c1, rfl, hr, hq⟩; replace HW := Lib.hid (HW.out.trans (hq.mono HW.out.size)); (try replace HA := Lib.hid (rdB_on HA.out hq)); (try replace H1 := Lib.hid (H1.out.call hq)); (try replace H2 := Lib.hid (H2.out.call hq)); (try replace H3 := Lib.hid (H3.out.call hq)); (try replace H4 := Lib.hid (H4.out.call hq)); (try replace H5 := Lib.hid (rdB_on H5.out hq)); (try replace H6 := Lib.hid (rdB_on H6.out hq));  have H1 := Lib.hid hr; clear hr; clear hq)
          | ((with_reducible refine (R1 _ HA.out).out.mono ?_); rintro e w9 ⟨A2, c2, rfl, hr, hq⟩; replace HW := Lib.hid (HW.out.trans (hq.mono HW.out.size)); (try replace HA := Lib.hid (rdB_on HA.out hq)); (try replace H1 := Lib.hid (H1.out.call hq)); (try replace H2 := Lib.hid (H2.out.call hq)); (try replace H3 := Lib.hid (H3.out.call hq)); (try replace H4 := Lib.hid (H4.out.call hq)); (try replace H5 := Lib.hid (rdB_on H5.out hq)); (try replace H6 := Lib.hid (rdB_on H6.out hq));  have H2 := Lib.hid hr; clear hr; clear hq)
          | ((with_reducible refine (D2 _ HA.out).out.mono ?_); rintro e w9 ⟨A3, c3, rfl, hr, hq⟩; replace HW := Lib.hid (HW.out.trans (hq.mono HW.out.size)); (try replace HA := Lib.hid (rdB_on HA.out hq)); (try replace H1 := Lib.hid (H1.out.call hq)); (try replace H2 := Lib.hid (H2.out.call hq)); (try replace H3 := Lib.hid (H3.out.call hq)); (try replace H4 := Lib.hid (H4.out.call hq)); (try replace H5 := Lib.hid (rdB_on H5.out hq)); (try replace H6 := Lib.hid (rdB_on H6.out hq));  have H3 := Lib.hid hr; clear hr; clear hq)
          | ((with_reducible refine (R2 _ HA.out).out.mono ?_); rintro e w9 ⟨A4, c4, rfl, hr, hq⟩; replace HW := Lib.hid (HW.out.trans (hq.mono HW.out.size)); (try replace HA := Lib.hid (rdB_on HA.out hq)); (try replace H1 := Lib.hid (H1.out.call hq)); (try replace H2 := Lib.hid (H2.out.call hq)); (try replace H3 := Lib.hid (H3.out.call hq)); (try replace H4 := Lib.hid (H4.out.call hq)); (try replace H5 := Lib.hid (rdB_on H5.out hq)); (try replace H6 := Lib.hid (rdB_on H6.out hq));  have H4 := Lib.hid hr; clear hr; clear hq)
          | ((with_reducible refine (S1 _ _ _ _ _ H1.out H2.out).out.mono ?_); rintro e w9 ⟨rfl, hq⟩; replace HW := Lib.hid (HW.out.trans (hq.mono HW.out.size)); (try replace HA := Lib.hid (rdB_on HA.out hq)); (try replace H1 := Lib.hid (H1.out.call hq)); (try replace H2 := Lib.hid (H2.out.call hq)); (try replace H3 := Lib.hid (H3.out.call hq)); (try replace H4 := Lib.hid (H4.out.call hq)); (try replace H5 := Lib.hid (rdB_on H5.out hq)); (try replace H6 := Lib.hid (rdB_on H6.out hq));  clear hq)
          | ((with_reducible refine (S2 _ _ _ _ _ H3.out H4.out).out.mono ?_); rintro e w9 ⟨rfl, hq⟩; replace HW := Lib.hid (HW.out.trans (hq.mono HW.out.size)); (try replace HA := Lib.hid (rdB_on HA.out hq)); (try replace H1 := Lib.hid (H1.out.call hq)); (try replace H2 := Lib.hid (H2.out.call hq)); (try replace H3 := Lib.hid (H3.out.call hq)); (try replace H4 := Lib.hid (H4.out.call hq)); (try replace H5 := Lib.hid (rdB_on H5.out hq)); (try replace H6 := Lib.hid (rdB_on H6.out hq));  clear hq)
          | ((with_reducible refine (PF _ _ _ H3.out).out.mono ?_); rintro e w9 ⟨A6, c6, rfl, hr, hq⟩; replace HW := Lib.hid (HW.out.trans (hq.mono HW.out.size)); (try replace HA := Lib.hid (rdB_on HA.out hq)); (try replace H1 := Lib.hid (H1.out.call hq)); (try replace H2 := Lib.hid (H2.out.call hq)); (try replace H3 := Lib.hid (H3.out.call hq)); (try replace H4 := Lib.hid (H4.out.call hq)); (try replace H5 := Lib.hid (rdB_on H5.out hq)); (try replace H6 := Lib.hid (rdB_on H6.out hq));  have H6 := Lib.hid hr; clear hr; clear hq)
          | ((with_reducible refine (EQ _ _ _ H6.out HA.out).out.mono ?_); rintro e w9 ⟨rfl, hq⟩; replace HW := Lib.hid (HW.out.trans (hq.mono HW.out.size)); (try replace HA := Lib.hid (rdB_on HA.out hq)); (try replace H1 := Lib.hid (H1.out.call hq)); (try replace H2 := Lib.hid (H2.out.call hq)); (try replace H3 := Lib.hid (H3.out.call hq)); (try replace H4 := Lib.hid (H4.out.call hq)); (try replace H5 := Lib.hid (rdB_on H5.out hq)); (try replace H6 := Lib.hid (rdB_on H6.out hq));  clear hq))
        go_ret
        exact ⟨rfl, HW.out⟩
      · have hge : (g == 0) = false := beq_eq_false_iff_ne.2 hg
        clear PR0 PF0
        go_enter Try.func5, Try.ntmps5
        go_wp2_with (first
          | ((with_reducible refine (A0 _).out.mono ?_); rintro e w9 ⟨rfl, hq⟩; replace HW := Lib.hid (HW.out.trans (hq.mono HW.out.size)); (try replace HA := Lib.hid (rdB_on HA.out hq)); (try replace H1 := Lib.hid (H1.out.call hq)); (try replace H2 := Lib.hid (H2.out.call hq)); (try replace H3 := Lib.hid (H3.out.call hq)); (try replace H4 := Lib.hid (H4.out.call hq)); (try replace H5 := Lib.hid (rdB_on H5.out hq)); (try replace H6 := Lib.hid (rdB_on H6.out hq));  clear hq)
          | ((with_reducible refine (D1 _ HA.out).out.mono ?_); rintro e w9 ⟨A1, c1, rfl, hr, hq⟩; replace HW := Lib.hid (HW.out.trans (hq.mono HW.out.size)); (try replace HA := Lib.hid (rdB_on HA.out hq)); (try replace H1 := Lib.hid (H1.out.call hq)); (try replace H2 := Lib.hid (H2.out.call hq)); (try replace H3 := Lib.hid (H3.out.call hq)); (try replace H4 := Lib.hid (H4.out.call hq)); (try replace H5 := Lib.hid (rdB_on H5.out hq)); (try replace H6 := Lib.hid (rdB_on H6.out hq));  have H1 := Lib.hid hr; clear hr; clear hq)
          | ((with_reducible refine (R1 _ HA.out).out.mono ?_); rintro e w9 ⟨A2, c2, rfl, hr, hq⟩; replace HW := Lib.hid (HW.out.trans (hq.mono HW.out.size)); (try replace HA := Lib.hid (rdB_on HA.out hq)); (try replace H1 := Lib.hid (H1.out.call hq)); (try replace H2 := Lib.hid (H2.out.call hq)); (try replace H3 := Lib.hid (H3.out.call hq)); (try replace H4 := Lib.hid (H4.out.call hq)); (try replace H5 := Lib.hid (rdB_on H5.out hq)); (try replace H6 := Lib.hid (rdB_on H6.out hq));  have H2 := Lib.hid hr; clear hr; clear hq)
          | ((with_reducible refine (D2 _ HA.out).out.mono ?_); rintro e w9 ⟨A3, c3, rfl, hr, hq⟩; replace HW := Lib.hid (HW.out.trans (hq.mono HW.out.size)); (try replace HA := Lib.hid (rdB_on HA.out hq)); (try replace H1 := Lib.hid (H1.out.call hq)); (try replace H2 := Lib.hid (H2.out.call hq)); (try replace H3 := Lib.hid (H3.out.call hq)); (try replace H4 := Lib.hid (H4.out.call hq)); (try replace H5 := Lib.hid (rdB_on H5.out hq)); (try replace H6 := Lib.hid (rdB_on H6.out hq));  have H3 := Lib.hid hr; clear hr; clear hq)
          | ((with_reducible refine (R2 _ HA.out).out.mono ?_); rintro e w9 ⟨A4, c4, rfl, hr, hq⟩; replace HW := Lib.hid (HW.out.trans (hq.mono HW.out.size)); (try replace HA := Lib.hid (rdB_on HA.out hq)); (try replace H1 := Lib.hid (H1.out.call hq)); (try replace H2 := Lib.hid (H2.out.call hq)); (try replace H3 := Lib.hid (H3.out.call hq)); (try replace H4 := Lib.hid (H4.out.call hq)); (try replace H5 := Lib.hid (rdB_on H5.out hq)); (try replace H6 := Lib.hid (rdB_on H6.out hq));  have H4 := Lib.hid hr; clear hr; clear hq)
          | ((with_reducible refine (S1 _ _ _ _ _ H1.out H2.out).out.mono ?_); rintro e w9 ⟨rfl, hq⟩; replace HW := Lib.hid (HW.out.trans (hq.mono HW.out.size)); (try replace HA := Lib.hid (rdB_on HA.out hq)); (try replace H1 := Lib.hid (H1.out.call hq)); (try replace H2 := Lib.hid (H2.out.call hq)); (try replace H3 := Lib.hid (H3.out.call hq)); (try replace H4 := Lib.hid (H4.out.call hq)); (try replace H5 := Lib.hid (rdB_on H5.out hq)); (try replace H6 := Lib.hid (rdB_on H6.out hq));  clear hq)
          | ((with_reducible refine (S2 _ _ _ _ _ H3.out H4.out).out.mono ?_); rintro e w9 ⟨rfl, hq⟩; replace HW := Lib.hid (HW.out.trans (hq.mono HW.out.size)); (try replace HA := Lib.hid (rdB_on HA.out hq)); (try replace H1 := Lib.hid (H1.out.call hq)); (try replace H2 := Lib.hid (H2.out.call hq)); (try replace H3 := Lib.hid (H3.out.call hq)); (try replace H4 := Lib.hid (H4.out.call hq)); (try replace H5 := Lib.hid (rdB_on H5.out hq)); (try replace H6 := Lib.hid (rdB_on H6.out hq));  clear hq))
        go_ret
        exact ⟨rfl, HW.out⟩
  · have hl : decide ((n : Int) > 800) = true := decide_eq_true (by omega)
    clear HP HK HR1 HR2 hn ha
    go_enter Try.func5, Try.ntmps5
    go_wp2_with (first
      | ((with_reducible refine (A0 _).out.mono ?_); rintro e w9 ⟨rfl, hq⟩; replace HW := Lib.hid (HW.out.trans (hq.mono HW.out.size)); (try replace HA := Lib.hid (rdB_on HA.out hq)); (try replace H1 := Lib.hid (H1.out.call hq)); (try replace H2 := Lib.hid (H2.out.call hq)); (try replace H3 := Lib.hid (H3.out.call hq)); (try replace H4 := Lib.hid (H4.out.call hq)); (try replace H5 := Lib.hid (rdB_on H5.out hq)); (try replace H6 := Lib.hid (rdB_on H6.out hq));  clear hq))
    go_ret
    exact ⟨rfl, HW.out⟩
end Go.Proofs.Ytfklochgciijkaa

/-
  An array of sixteen things that take a cell each, in a block; sixteen rows of runs of the call's own, apart from each other.
-/
namespace Go.Proofs.Ytfklochgciijkaa
open Go.RowKit

/-- Another thing at a place. -/
def upd {α : Type} (V : Nat → α) (k : Nat) (u : α) : Nat → α := fun j => if j = k then u else V j
theorem upd_at {α : Type} (V : Nat → α) (k : Nat) (u : α) : upd V k u k = u := if_pos rfl
theorem upd_far {α : Type} (V : Nat → α) {k j : Nat} (u : α) (h : j ≠ k) : upd V k u j = V j := if_neg h
/-- What lies in a block of sixteen cells. -/
structure GrAt (w : World) (g : Nat) (V : Nat → Value) : Prop where
  cell : ∀ k, k < 16 → w.cell? ⟨g, k, none⟩ = some (V k)
  free : ∀ k, w.frozen? ⟨g, k, none⟩ = false
theorem GrAt.lt {w : World} {g : Nat} {V : Nat → Value} (h : GrAt w g V) : g < w.heap.size := World.block_lt_of_cell? w _ (h.cell 0 (by omega))
theorem GrAt.below {w w' : World} {g : Nat} {V : Nat → Value} (h : GrAt w g V) (hb : Below w.heap.size w w') : GrAt w' g V := by
  obtain ⟨hc, hf⟩ := bcell hb
  have hl := h.lt
  exact ⟨fun k hk => (hc _ _ hl).trans (h.cell k hk), fun k => (hf _ _ hl).trans (h.free k)⟩
theorem GrAt.low {w w' : World} {g B : Nat} {V : Nat → Value} (h : GrAt w g V) (hb : Below B w w') (hg : g < B) : GrAt w' g V := by
  refine ⟨fun k hk => (hb.cell (p := ⟨g, k, none⟩) hg).trans (h.cell k hk), fun k => ?_⟩
  have h1 := h.free k
  unfold World.frozen? at h1 ⊢
  rw [hb.block g hg]; exact h1
theorem GrAt.grown {w w' : World} {row : Option Nat} {g : Nat} {V : Nat → Value} (h : GrAt w g V) (hg : w.grownBy w' row) (hne : some g ≠ row) : GrAt w' g V :=
  ⟨fun k hk => hg.cell (h.cell k hk) hne, fun k => (hg.frozen_far ⟨g, k, none⟩ h.lt hne).trans (h.free k)⟩
theorem GrAt.alloc {w : World} {g : Nat} {V : Nat → Value} (h : GrAt w g V) (o : Obj) : GrAt (w.alloc o) g V := h.below (below_new w o)
theorem GrAt.drew {w : World} {g : Nat} {V : Nat → Value} (h : GrAt w g V) : GrAt w.drew g V := ⟨h.cell, h.free⟩
theorem GrAt.other {w : World} {g g' k : Nat} {V : Nat → Value} (h : GrAt w g V) (hne : g' ≠ g) (u : Value) : GrAt (w.setCell ⟨g', k, none⟩ u) g V :=
  h.grown (grownBy_set _ _ _ _) (fun e => hne (by injection e with e; exact e.symm))
theorem GrAt.set {w : World} {g k : Nat} {V : Nat → Value} (h : GrAt w g V) (hk : k < 16) (u : Value) : GrAt (w.setCell ⟨g, k, none⟩ u) g (upd V k u) := by
  refine ⟨fun j hj => ?_, fun j => ?_⟩
  · by_cases e : j = k
    · subst e
      rw [upd_at]
      exact World.cell?_setCell_same w _ _ (h.cell j hj)
    · rw [upd_far V u e, World.cell?_setCell_other w _ _ _ (fun e' => e (by injection e' with _ e'; exact e'.symm))]
      exact h.cell j hj
  · have h1 := h.free j
    obtain ⟨cs, t, f, hb⟩ : ∃ cs t f, w.heap[g]? = some (.cells cs t f) := by
      have h2 := h.cell 0 (by omega)
      unfold World.cell? at h2
      split at h2
      · exact ⟨_, _, _, by assumption⟩
      · cases h2
    unfold World.frozen? at h1 ⊢
    rw [hb] at h1
    rw [heap_setCell_self hb]
    exact h1
/-- A new block of sixteen cells. -/
abbrev grO (V : Nat → Value) (t : TypeId) : Obj := .cells #[V 0, V 1, V 2, V 3, V 4, V 5, V 6, V 7, V 8, V 9, V 10, V 11, V 12, V 13, V 14, V 15] t
theorem lt16 {k : Nat} (hk : k < 16) : k = 0 ∨ k = 1 ∨ k = 2 ∨ k = 3 ∨ k = 4 ∨ k = 5 ∨ k = 6 ∨ k = 7 ∨ k = 8 ∨ k = 9 ∨ k = 10 ∨ k = 11 ∨ k = 12 ∨ k = 13 ∨ k = 14 ∨ k = 15 := by omega
theorem grAt_new (w : World) (V : Nat → Value) (t : TypeId) : GrAt (w.alloc (grO V t)) w.heap.size V := by
  have hb := heap_new w (grO V t) _ rfl
  refine ⟨fun k hk => ?_, fun k => ?_⟩
  · rw [cell_of_row _ _ _ _ _ _ hb]
    rcases lt16 hk with rfl | rfl | rfl | rfl | rfl | rfl | rfl | rfl | rfl | rfl | rfl | rfl | rfl | rfl | rfl | rfl <;> rfl
  · unfold World.frozen?; rw [hb]; simp
theorem GrAt.congr {w : World} {g : Nat} {V W : Nat → Value} (h : GrAt w g V) (e : ∀ k, k < 16 → W k = V k) : GrAt w g W := ⟨fun k hk => by rw [e k hk]; exact h.cell k hk, h.free⟩

/-- Sixteen rows of runs of the call's own, apart from each other. -/
structure RowsG (w : World) (base : Nat) (V : Nat → Value) (L : Nat → List Rn) : Prop where
  own : ∀ k, k < 16 → kRn.Own w base (V k) (L k)
  apart : ∀ i j b, i < 16 → j < 16 → i ≠ j → (V i).ownBlock = some b → (V j).ownBlock ≠ some b
theorem RowsG.below {w w' : World} {base : Nat} {V : Nat → Value} {L : Nat → List Rn} (h : RowsG w base V L) (hb : Below w.heap.size w w') : RowsG w' base V L := ⟨fun k hk => (h.own k hk).below hb, h.apart⟩
theorem RowsG.mono {w : World} {base base' : Nat} {V : Nat → Value} {L : Nat → List Rn} (h : RowsG w base V L) (hb : base' ≤ base) : RowsG w base' V L := ⟨fun k hk => (h.own k hk).mono hb, h.apart⟩
theorem RowsG.alloc {w : World} {base : Nat} {V : Nat → Value} {L : Nat → List Rn} (h : RowsG w base V L) (o : Obj) : RowsG (w.alloc o) base V L := h.below (below_new w o)
theorem RowsG.congr {w : World} {base : Nat} {V : Nat → Value} {L M : Nat → List Rn} (h : RowsG w base V L) (e : ∀ k, k < 16 → M k = L k) : RowsG w base V M := ⟨fun k hk => by rw [e k hk]; exact h.own k hk, h.apart⟩
/-- A store into a block that no row lies in. -/
theorem RowsG.set {w : World} {base g k : Nat} {V : Nat → Value} {L : Nat → List Rn} (h : RowsG w base V L) (hg : ∀ j, j < 16 → (V j).ownBlock ≠ some g) (u : Value) : RowsG (w.setCell ⟨g, k, none⟩ u) base V L :=
  ⟨fun j hj => (h.own j hj).kept (grownBy_set _ _ _ _) (.inr (hg j hj)), h.apart⟩
theorem rowsG_nil (w : World) (base : Nat) : RowsG w base (fun _ => .slice none 0 0) (fun _ => []) := ⟨fun _ _ => Kind.Own.nil _ _, fun i j b _ _ _ h => by cases h⟩
/-- A row has been appended to. -/
theorem RowsG.app {w w' : World} {base k : Nat} {V : Nat → Value} {L : Nat → List Rn} {v' : Value} {l : List Rn} (h : RowsG w base V L) (hk : k < 16) (ho : kRn.Own w' base v' l) (hg : w.grownBy w' (V k).ownBlock) (hv : v'.ownBlock = (V k).ownBlock ∨ v'.ownBlock = some w.heap.size) : RowsG w' base (upd V k v') (upd L k l) := by
  refine ⟨fun j hj => ?_, fun i j b hi hj hne hb => ?_⟩
  · by_cases e : j = k
    · subst e; rw [upd_at, upd_at]; exact ho
    · rw [upd_far _ _ e, upd_far _ _ e]
      refine (h.own j hj).kept hg ?_
      cases hb : (V j).ownBlock with
      | none => exact .inl rfl
      | some b => exact .inr fun e' => h.apart j k b hj hk e hb e'.symm
  · by_cases e1 : i = k
    · subst e1
      rw [upd_at] at hb
      rw [upd_far _ _ (fun e => hne e.symm)]
      rcases hv with e | e
      · exact h.apart i j b hi hj hne (e ▸ hb)
      · rw [e] at hb
        injection hb with hb
        intro h3
        have := ((h.own j hj).lt b h3).2
        omega
    · rw [upd_far _ _ e1] at hb
      by_cases e2 : j = k
      · subst e2
        rw [upd_at]
        rcases hv with e | e
        · rw [e]; exact h.apart i j b hi hj hne hb
        · rw [e]
          intro h3
          injection h3 with h3
          have := ((h.own i hi).lt b hb).2
          omega
      · rw [upd_far _ _ e2]; exact h.apart i j b hi hj hne hb
/-- A row has been made anew, behind all that was there. -/
theorem RowsG.new {w w' : World} {base k : Nat} {V : Nat → Value} {L : Nat → List Rn} {v' : Value} {l : List Rn} (h : RowsG w base V L) (hk : k < 16) (ho : kRn.Own w' w.heap.size v' l) (hb : Below w.heap.size w w') (hs : base ≤ w.heap.size) : RowsG w' base (upd V k v') (upd L k l) := by
  refine ⟨fun j hj => ?_, fun i j b hi hj hne hb => ?_⟩
  · by_cases e : j = k
    · subst e; rw [upd_at, upd_at]; exact ho.mono hs
    · rw [upd_far _ _ e, upd_far _ _ e]
      exact (h.own j hj).below hb
  · by_cases e1 : i = k
    · subst e1
      rw [upd_at] at hb
      rw [upd_far _ _ (fun e => hne e.symm)]
      intro h3
      have h1 := (ho.lt b hb).1
      have h2 := ((h.own j hj).lt b h3).2
      omega
    · rw [upd_far _ _ e1] at hb
      by_cases e2 : j = k
      · subst e2
        rw [upd_at]
        intro h3
        have h1 := (ho.lt b h3).1
        have h2 := ((h.own i hi).lt b hb).2
        omega
      · rw [upd_far _ _ e2]; exact h.apart i j b hi hj hne hb
theorem RowsG.congrV {w : World} {base : Nat} {V W : Nat → Value} {L : Nat → List Rn} (h : RowsG w base V L) (e : ∀ k, k < 16 → W k = V k) : RowsG w base W L :=
  ⟨fun k hk => by rw [e k hk]; exact h.own k hk, fun i j b hi hj hne hb => by rw [e j hj]; rw [e i hi] at hb; exact h.apart i j b hi hj hne hb⟩
/-- Sixteen slices. -/
abbrev slV (A : Nat → Option Addr) (n c : Nat → Nat) : Nat → Value := fun k => .slice (A k) (n k) (c k)
theorem RowsG.form {w : World} {base : Nat} {V : Nat → Value} {L : Nat → List Rn} (h : RowsG w base V L) (N : Nat → Nat) (hN : ∀ k, (L k).length = N k) : ∃ A c, ∀ k, k < 16 → slV A N c k = V k := by
  have h1 : ∀ k, ∃ p : Option Addr × Nat, k < 16 → .slice p.1 (N k) p.2 = V k := fun k => by
    by_cases hk : k < 16
    · obtain ⟨A, c, e, -⟩ := (h.own k hk).form
      exact ⟨(A, c), fun _ => by rw [e, hN]⟩
    · exact ⟨(none, 0), fun h => absurd h hk⟩
  exact ⟨fun k => (Classical.choose (h1 k)).1, fun k => (Classical.choose (h1 k)).2, fun k hk => Classical.choose_spec (h1 k) hk⟩
theorem RowsG.upd_off {k g : Nat} {w : World} {V : Nat → Value} {v' : Value} (h : ∀ j, j < 16 → (V j).ownBlock ≠ some g) (hg : g < w.heap.size) (hv : v'.ownBlock = (V k).ownBlock ∨ v'.ownBlock = some w.heap.size) (hk : k < 16) : ∀ j, j < 16 → (upd V k v' j).ownBlock ≠ some g := fun j hj => by
  by_cases e : j = k
  · subst e; rw [upd_at]
    rcases hv with e | e
    · rw [e]; exact h j hj
    · rw [e]; intro h1; injection h1 with h1; omega
  · rw [upd_far _ _ e]; exact h j hj
end Go.Proofs.Ytfklochgciijkaa
