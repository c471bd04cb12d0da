/-
  Several texts in one: FcdI, FcdJ, RgsMrg, SpanD, RgsG, RgsH, FltMrg, FltG.
-/
import Derived.Deep.RegionHeld3
import Derived.Deep.RegionWith
import Derived.Test.YtohdncmlmpnfbaaMg6
/-
  Layer 10 (fcode), the program: the range, the node that a reader reads next.
-/
namespace Go.Proofs.Ytohdncmlmpnfbaa
open Go.RowKit

theorem rd_text_q {w : World} {b : Nat} {l s r : List UInt8} {e e2 : Int} {S : ByteArray} {most : Int} (hw : textR most l e = (s, r, e2)) (hS : str s = S) (h : RdAt w b l e) (hl : l.length ≤ 9223372036854775807) :
    Calls Try.prog 45 #[.pointer (some ⟨b, 0, none⟩), .int .i64 most] w (RdPost w b (.string S) r e2) := by
  subst hS
  have := rd_text (givenAt_some h) most hl
  rw [hw] at this
  exact this
theorem rd_bool_q {w : World} {b : Nat} {l r : List UInt8} {e e2 : Int} {n : Nat} (hw : withinR 0 1 l e = (n, r, e2)) {q : Bool} (hq : decide (n = 1) = q) (h : RdAt w b l e) (hl : l.length ≤ 9223372036854775807) :
    Calls Try.prog 46 #[.pointer (some ⟨b, 0, none⟩)] w (RdPost w b (.bool q) r e2) := by
  have := rd_bool (givenAt_some h) hl
  unfold boolR at this
  rw [hw, hq] at this
  exact this
theorem rd_within_q {w : World} {b : Nat} {l r : List UInt8} {e e2 : Int} {n : Nat} {lo hi : Int} (hw : withinR lo hi l e = (n, r, e2)) (h : RdAt w b l e) (hl : l.length ≤ 9223372036854775807) :
    Calls Try.prog 49 #[.pointer (some ⟨b, 0, none⟩), .int .i64 lo, .int .i64 hi] w (RdPost w b (.int .i64 n) r e2) := by
  have := rd_within (givenAt_some h) lo hi hl
  rw [hw] at this
  exact this
theorem grown_alloc {w w' : World} {m : Option Nat} (h : w.grownBy w' m) (o : Obj) : w.grownBy (w'.alloc o) m := h.trans (grown_of_below (below_new w' o) m)
theorem grown_set_new {w w' : World} {m : Option Nat} {g : Nat} (h : w.grownBy w' m) (hg : w.heap.size ≤ g) (k : Nat) (v : Value) : w.grownBy (w'.setCell ⟨g, k, none⟩ v) m := by
  have s := grownBy_set w' g k v
  exact ⟨s.os.trans h.os, s.tape.trans h.tape, s.output.trans h.output, Nat.le_trans h.size s.size, fun j hj hne => (s.block j (Nat.lt_of_lt_of_le hj h.size) (fun e => by injection e with e; omega)).trans (h.block j hj hne)⟩
theorem RdAt.far {w : World} {b g : Nat} {l : List UInt8} {e : Int} (h : RdAt w b l e) (hne : b ≠ g) (k : Nat) (v : Value) : RdAt (w.setCell ⟨g, k, none⟩ v) b l e := h.kept (grownBy_set _ _ _ _) (fun e => hne (by injection e))
set_option maxRecDepth 100000 in
set_option maxHeartbeats 4000000 in
theorem fcd_nextr (b : Nat) (l r : List UInt8) (e e2 : Int) (g : Rng) (hg : rngR l e = (g, r, e2)) (S T : ByteArray) (o : Bool) (hI : IsR g S T o) (hl : l.length ≤ 1000000) (w : World) (hr : RdAt w b l e) :
    Calls Try.prog 29 #[.agg #[.pointer (some ⟨b, 0, none⟩)]] w (RdPost w b (.agg #[.string S, .string T, .bool o]) r e2) := by
  obtain ⟨s, q1, x1, ht1⟩ : ∃ s q1 x1, textR 17 l e = (s, q1, x1) := ⟨_, _, _, rfl⟩
  obtain ⟨n, q2, x2, ht2⟩ : ∃ n q2 x2, withinR 0 1 q1 x1 = (n, q2, x2) := ⟨_, _, _, rfl⟩
  obtain ⟨t, q3, x3, ht3⟩ : ∃ t q3 x3, textR 17 q2 x2 = (t, q3, x3) := ⟨_, _, _, rfl⟩
  have l1 : q1.length ≤ l.length := by have := textR_len 17 l e; rw [ht1] at this; exact this
  have l2 : q2.length ≤ q1.length := by have := withinR_len 0 1 q1 x1; rw [ht2] at this; exact this
  obtain ⟨U, hU⟩ : ∃ U, str s = U := ⟨_, rfl⟩
  obtain ⟨V, hV⟩ : ∃ V, str t = V := ⟨_, rfl⟩
  obtain ⟨q, hq⟩ : ∃ q, decide (n = 1) = q := ⟨_, rfl⟩
  have hG : rngR l e = if n = 1 then (⟨s, [], true⟩, q2, x2) else (⟨s, t, false⟩, q3, x3) := by
    unfold rngR
    rw [ht1]; simp only; rw [ht2]; simp only; rw [ht3]
  have T1 := fun (w' : World) (hf : RdAt w' b l e) => Lib.hid (rd_text_q ht1 hU hf (by omega))
  have T2 := fun (w' : World) (hf : RdAt w' b q1 x1) => Lib.hid (rd_bool_q ht2 hq hf (by omega))
  have T3 := fun (w' : World) (hf : RdAt w' b q2 x2) => Lib.hid (rd_text_q ht3 hV hf (by omega))
  obtain ⟨M, hM⟩ : ∃ M, w.heap.size = M := ⟨_, rfl⟩
  have hbM : b < M := hM ▸ hr.lt
  have HMM := Lib.hid (show w.heap.size ≤ M + 1 by omega)
  have HNE := Lib.hid (show (some M : Option Nat) ≠ some b from fun e => by injection e with e; exact Nat.ne_of_gt hbM e)
  obtain ⟨w9, hw9⟩ : ∃ w9, w9 = (w.alloc (.cells #[.pointer (some ⟨b, 0, none⟩)] 59)).alloc (.cells #[.string ⟨#[]⟩, .string ⟨#[]⟩, .bool false] 49) := ⟨_, rfl⟩
  have HR := Lib.hid (show RdAt w9 b l e by rw [hw9]; exact heap_old _ (heap_old _ hr))
  have HGR := Lib.hid (show w.grownBy w9 (some b) by rw [hw9]; exact grown_alloc (grown_alloc (World.grownBy.refl _ _) _) _)
  have HG := Lib.hid (show RgAt w9 (M + 1) ⟨#[]⟩ ⟨#[]⟩ false by rw [hw9, ← hM]; exact rgAt_new1 _ _ _ _ _ _)
  have p0 : w9.cell? ⟨M, 0, none⟩ = some (.pointer (some ⟨b, 0, none⟩)) := by
    rw [hw9, alloc_keeps _ _ _ _ (by rw [size1, hM]; omega), cell_of_row _ _ _ _ _ _ (heap_new w _ _ hM.symm)]; rfl
  have HP := Lib.hid p0
  have HE := Lib.hid hG
  have HIS := Lib.hid hI
  have HGG := Lib.hid hg
  have HU := Lib.hid hU
  have HV := Lib.hid hV
  have HQ := Lib.hid hq
  clear hr ht1 ht2 ht3 l1 l2 hU hV hq hG hI hg hl
  go_enter Try.func29, Try.ntmps29
  go_upto_region 1 with fail
  rw [← hw9]
  clear hw9 hM
  obtain ⟨g0, g1, g2, gz⟩ := HG.out
  go_upto_region 2 with ((with_reducible refine (T1 _ HR.out).out.mono ?_); rintro e w9 ⟨rfl, hrf, hg⟩; replace HG := Lib.hid (HG.out.kept hg (by omega)); replace HGR := Lib.hid (HGR.out.trans hg); replace HP := Lib.hid (World.grownBy.cell hg HP.out HNE.out); replace HR := Lib.hid hrf; clear hrf hg p0 g0 g1 g2 gz; have p0 := HP.out; obtain ⟨g0, g1, g2, gz⟩ := HG.out)
  clear T1
  cases q
  · have hn : n ≠ 1 := of_decide_eq_false HQ.out
    have e1 := HGG.out.symm.trans (HE.out.trans (if_neg hn))
    injection e1 with e1 e2
    injection e2 with e2 e3
    have e4 := HIS.out
    rw [e1] at e4
    obtain ⟨i1, i2, i3⟩ := e4
    have i1 := HU.out.symm.trans i1
    have i2 := HV.out.symm.trans i2
    subst i1 i2 i3 e2 e3
    clear e1
    go_wp2_with (first | ((with_reducible refine (T2 _ HR.out).out.mono ?_); rintro e w9 ⟨rfl, hrf, hg⟩; replace HG := Lib.hid (HG.out.kept hg (by omega)); replace HGR := Lib.hid (HGR.out.trans hg); replace HP := Lib.hid (World.grownBy.cell hg HP.out HNE.out); replace HR := Lib.hid hrf; clear hrf hg p0 g0 g1 g2 gz; have p0 := HP.out; obtain ⟨g0, g1, g2, gz⟩ := HG.out) | ((with_reducible refine (T3 _ HR.out).out.mono ?_); rintro e w9 ⟨rfl, hrf, hg⟩; replace HG := Lib.hid (HG.out.kept hg (by omega)); replace HGR := Lib.hid (HGR.out.trans hg); replace HP := Lib.hid (World.grownBy.cell hg HP.out HNE.out); replace HR := Lib.hid hrf; clear hrf hg p0 g0 g1 g2 gz; have p0 := HP.out; obtain ⟨g0, g1, g2, gz⟩ := HG.out))
    obtain ⟨h0, h1, h2, -⟩ := HG.out.set3 U V false
    exact bodyPost_ret (v := .agg #[.string U, .string V, .bool false]) (by simp [results, Try.results29, go_sem, h0, h1, h2]) rfl ⟨rfl, ((HR.out.far (by omega) _ _).far (by omega) _ _).far (by omega) _ _, grown_set_new (grown_set_new (grown_set_new HGR.out HMM.out _ _) HMM.out _ _) HMM.out _ _⟩
  · have hn : n = 1 := of_decide_eq_true HQ.out
    have e1 := HGG.out.symm.trans (HE.out.trans (if_pos hn))
    injection e1 with e1 e2
    injection e2 with e2 e3
    have e4 := HIS.out
    rw [e1] at e4
    obtain ⟨i1, i2, i3⟩ := e4
    have i1 := HU.out.symm.trans i1
    have i2 : (⟨#[]⟩ : ByteArray) = T := i2
    subst i1 i2 i3 e2 e3
    clear e1 T3
    go_wp2_with ((with_reducible refine (T2 _ HR.out).out.mono ?_); rintro e w9 ⟨rfl, hrf, hg⟩; replace HG := Lib.hid (HG.out.kept hg (by omega)); replace HGR := Lib.hid (HGR.out.trans hg); replace HP := Lib.hid (World.grownBy.cell hg HP.out HNE.out); replace HR := Lib.hid hrf; clear hrf hg p0 g0 g1 g2 gz; have p0 := HP.out; obtain ⟨g0, g1, g2, gz⟩ := HG.out)
    obtain ⟨h0, h1, h2, -⟩ := HG.out.set3 U ⟨#[]⟩ true
    exact bodyPost_ret (v := .agg #[.string U, .string ⟨#[]⟩, .bool true]) (by simp [results, Try.results29, go_sem, h0, h1, h2]) rfl ⟨rfl, ((HR.out.far (by omega) _ _).far (by omega) _ _).far (by omega) _ _, grown_set_new (grown_set_new (grown_set_new HGR.out HMM.out _ _) HMM.out _ _) HMM.out _ _⟩
end Go.Proofs.Ytohdncmlmpnfbaa

/-
  Layer 10 (fcode), the program: the node that a reader reads next.
-/
namespace Go.Proofs.Ytohdncmlmpnfbaa
open Go.RowKit

theorem NdAt.other {w : World} {g g' k : Nat} {O K : Int} {S T : ByteArray} (h : NdAt w g O K S T) (hne : g' ≠ g) (v : Value) : NdAt (w.setCell ⟨g', k, none⟩ v) g O K S T :=
  ⟨set_other h.1 (addr_block hne) v, set_other h.2.1 (addr_block hne) v, set_other h.2.2.1 (addr_block hne) v, set_other h.2.2.2.1 (addr_block hne) v, fun j => by rw [World.frozen?_setCell]; exact h.2.2.2.2 j⟩
theorem NdAt.keep {w : World} {g : Nat} {O K : Int} {S T : ByteArray} (h : NdAt w g O K S T) (x : Obj) : NdAt (w.alloc x) g O K S T :=
  h.kept (grown_of_below (below_new w x) (some w.heap.size)) (Nat.ne_of_lt h.lt)
section
variable {l q1 q2 q3 s t : List UInt8} {e x1 x2 x3 : Int} {o k : Nat}
theorem nodeRd_a (h : withinR 1 8 l e = (o, q1, x1)) (ho : o < 3) : nodeRd l e = (⟨o, 0, [], []⟩, q1, x1) := by
  have ho : o = 0 ∨ o = 1 ∨ o = 2 := by omega
  rcases ho with rfl | rfl | rfl <;> (unfold nodeRd; rw [h]; simp)
theorem nodeRd_b (h : withinR 1 8 l e = (o, q1, x1)) (ho : o = 3 ∨ o = 5) (h2 : textR 17 q1 x1 = (s, q2, x2)) : nodeRd l e = (⟨o, 0, s, []⟩, q2, x2) := by
  rcases ho with rfl | rfl <;> (unfold nodeRd; rw [h]; simp [h2])
theorem nodeRd_c (h : withinR 1 8 l e = (o, q1, x1)) (ho : o = 4) (h2 : textR 17 q1 x1 = (s, q2, x2)) (h3 : textR 17 q2 x2 = (t, q3, x3)) : nodeRd l e = (⟨o, 0, s, t⟩, q3, x3) := by
  subst ho
  unfold nodeRd; rw [h]; simp [h2, h3]
theorem nodeRd_d (h : withinR 1 8 l e = (o, q1, x1)) (ho : o = 6) : nodeRd l e = (⟨o, 1, [], []⟩, q1, x1) := by
  subst ho
  unfold nodeRd; rw [h]; simp
theorem nodeRd_e (h : withinR 1 8 l e = (o, q1, x1)) (ho : o = 7 ∨ o = 8) (h2 : withinR 0 32 q1 x1 = (k, q2, x2)) : nodeRd l e = (⟨o, k, [], []⟩, q2, x2) := by
  rcases ho with rfl | rfl <;> (unfold nodeRd; rw [h]; simp [h2])
end
set_option maxRecDepth 100000 in
set_option maxHeartbeats 8000000 in
theorem fcd_nextn (b : Nat) (l r : List UInt8) (e e2 : Int) (g : Nd) (hg : nodeRd l e = (g, r, e2)) (O K : Int) (S T : ByteArray) (hI : g.op = O ∧ g.kids = K ∧ str g.lo = S ∧ str g.hi = T) (hl : l.length ≤ 1000000) (w : World) (hr : RdAt w b l e) :
    Calls Try.prog 37 #[.agg #[.pointer (some ⟨b, 0, none⟩)]] w (RdPost w b (.agg #[.int .i64 O, .int .i64 K, .string S, .string T]) r e2) := by
  obtain ⟨o, q1, x1, ht0⟩ : ∃ o q1 x1, withinR 1 8 l e = (o, q1, x1) := ⟨_, _, _, rfl⟩
  obtain ⟨s, q2, x2, ht1⟩ : ∃ s q2 x2, textR 17 q1 x1 = (s, q2, x2) := ⟨_, _, _, rfl⟩
  obtain ⟨t, q3, x3, ht2⟩ : ∃ t q3 x3, textR 17 q2 x2 = (t, q3, x3) := ⟨_, _, _, rfl⟩
  obtain ⟨k, q4, x4, ht3⟩ : ∃ k q4 x4, withinR 0 32 q1 x1 = (k, q4, x4) := ⟨_, _, _, rfl⟩
  have l1 : q1.length ≤ l.length := by have := withinR_len 1 8 l e; rw [ht0] at this; exact this
  have l2 : q2.length ≤ q1.length := by have := textR_len 17 q1 x1; rw [ht1] at this; exact this
  have ho8 : o ≤ 8 := by
    by_cases he : x1 = 0
    · subst he
      have := (withinR_back ht0).2.2.2; omega
    · have h := withinR_same 1 8 l e
      rw [ht0] at h
      have := (h he).1
      simp only at this
      omega
  obtain ⟨U, hU⟩ : ∃ U, str s = U := ⟨_, rfl⟩
  obtain ⟨V, hV⟩ : ∃ V, str t = V := ⟨_, rfl⟩
  have T0 := fun (w' : World) (hf : RdAt w' b l e) => Lib.hid (rd_within_q ht0 hf (by omega))
  have T1 := fun (w' : World) (hf : RdAt w' b q1 x1) => Lib.hid (rd_text_q ht1 hU hf (by omega))
  have T2 := fun (w' : World) (hf : RdAt w' b q2 x2) => Lib.hid (rd_text_q ht2 hV hf (by omega))
  have T3 := fun (w' : World) (hf : RdAt w' b q1 x1) => Lib.hid (rd_within_q ht3 hf (by omega))
  have EA := Lib.hid (fun h : o < 3 => nodeRd_a ht0 h)
  have EB := Lib.hid (fun h : o = 3 ∨ o = 5 => nodeRd_b ht0 h ht1)
  have EC := Lib.hid (fun h : o = 4 => nodeRd_c ht0 h ht1 ht2)
  have ED := Lib.hid (fun h : o = 6 => nodeRd_d ht0 h)
  have EE := Lib.hid (fun h : o = 7 ∨ o = 8 => nodeRd_e ht0 h ht3)
  obtain ⟨M, hM⟩ : ∃ M, w.heap.size = M := ⟨_, rfl⟩
  have hbM : b < M := hM ▸ hr.lt
  have HMM := Lib.hid (show w.heap.size ≤ M + 1 by omega)
  have HNE := Lib.hid (show (some M : Option Nat) ≠ some b from fun e => by injection e with e; exact Nat.ne_of_gt hbM e)
  have HN1 := Lib.hid (show M + 1 ≠ b by omega)
  obtain ⟨w9, hw9⟩ : ∃ w9, w9 = (w.alloc (.cells #[.pointer (some ⟨b, 0, none⟩)] 69)).alloc (.cells #[.int .i64 0, .int .i64 0, .string ⟨#[]⟩, .string ⟨#[]⟩] 51) := ⟨_, rfl⟩
  have HR := Lib.hid (show RdAt w9 b l e by rw [hw9]; exact heap_old _ (heap_old _ hr))
  have HGR := Lib.hid (show w.grownBy w9 (some b) by rw [hw9]; exact grown_alloc (grown_alloc (World.grownBy.refl _ _) _) _)
  have HZ := Lib.hid (show NdAt w9 (M + 1) 0 0 ⟨#[]⟩ ⟨#[]⟩ by
    have := ndAt_new (w.alloc (.cells #[.pointer (some ⟨b, 0, none⟩)] 69)) 0 0 ⟨#[]⟩ ⟨#[]⟩ 51
    rw [size1, hM] at this
    rw [hw9]; exact this)
  have p0 : w9.cell? ⟨M, 0, none⟩ = some (.pointer (some ⟨b, 0, none⟩)) := by
    rw [hw9, alloc_keeps _ _ _ _ (by rw [size1, hM]; omega), cell_of_row _ _ _ _ _ _ (heap_new w _ _ hM.symm)]; rfl
  have HP := Lib.hid p0
  have HI := Lib.hid hI
  have HGG := Lib.hid hg
  have HO8 := Lib.hid ho8
  have HU := Lib.hid hU
  have HV := Lib.hid hV
  clear hr ht0 ht1 ht2 ht3 l1 l2 hU hV hI hg hl ho8
  go_enter Try.func37, Try.ntmps37
  go_upto_region 1 with fail
  rw [← hw9]
  clear hw9
  obtain ⟨z0, z1, z2, z3, zz⟩ := HZ.out
  go_upto_region 2 with ((with_reducible refine (T0 _ HR.out).out.mono ?_); rintro e w9 ⟨rfl, hrf, hg⟩; replace HZ := Lib.hid (HZ.out.kept hg HN1.out); (try replace HG := Lib.hid (HG.out.kept hg HN2.out)); replace HGR := Lib.hid (HGR.out.trans hg); replace HP := Lib.hid (World.grownBy.cell hg HP.out HNE.out); replace HR := Lib.hid hrf; clear hrf hg; (try clear g0 g1 g2 g3 gz); clear z0 z1 z2 z3 zz p0; have p0 := HP.out; obtain ⟨z0, z1, z2, z3, zz⟩ := HZ.out; (try obtain ⟨g0, g1, g2, g3, gz⟩ := HG.out))
  clear T0 hM
  obtain ⟨G, hG⟩ : ∃ G, w9.heap.size = G := ⟨_, rfl⟩
  have hMG : M + 1 < G := hG ▸ HZ.out.lt
  have HMG := Lib.hid (show w.heap.size ≤ G from by have := HMM.out; omega)
  have HN2 := Lib.hid (show G ≠ b by omega)
  have HN3 := Lib.hid (show G ≠ M + 1 by omega)
  have HN4 := Lib.hid (show G ≠ M by omega)
  obtain ⟨w8, hw8⟩ : ∃ w8, w8 = w9.alloc (.cells #[.int .i64 (o : Int), .int .i64 0, .string ⟨#[]⟩, .string ⟨#[]⟩] 51) := ⟨_, rfl⟩
  have HG := Lib.hid (show NdAt w8 G o 0 ⟨#[]⟩ ⟨#[]⟩ by rw [hw8, ← hG]; exact ndAt_new _ _ _ _ _ _)
  replace HZ := Lib.hid (show NdAt w8 (M + 1) 0 0 ⟨#[]⟩ ⟨#[]⟩ by rw [hw8]; exact HZ.out.keep _)
  replace HR := Lib.hid (show RdAt w8 b _ _ by rw [hw8]; exact heap_old _ HR.out)
  replace HGR := Lib.hid (show w.grownBy w8 (some b) by rw [hw8]; exact grown_alloc HGR.out _)
  replace HP := Lib.hid (show w8.cell? ⟨M, 0, none⟩ = some (.pointer (some ⟨b, 0, none⟩)) by rw [hw8, alloc_keeps _ _ _ _ (by omega)]; exact HP.out)
  (try rw [hG])
  rw [← hw8]
  clear hw8 hG z0 z1 z2 z3 zz p0
  have p0 := HP.out
  obtain ⟨z0, z1, z2, z3, zz⟩ := HZ.out
  obtain ⟨g0, g1, g2, g3, gz⟩ := HG.out
  obtain ⟨w9, hw9⟩ : ∃ w9, w9 = w8 := ⟨_, rfl⟩
  subst hw9
  have ho : o = 0 ∨ o = 1 ∨ o = 2 ∨ o = 3 ∨ o = 4 ∨ o = 5 ∨ o = 6 ∨ o = 7 ∨ o = 8 := by have := HO8.out; omega
  rcases ho with rfl | rfl | rfl | rfl | rfl | rfl | rfl | rfl | rfl
  case inl =>
    have e1 := HGG.out.symm.trans (EA.out (by omega))
    injection e1 with e1 e2
    injection e2 with e2 e3
    obtain ⟨i1, i2, i3, i4⟩ := HI.out
    rw [e1] at i1 i2 i3 i4
    simp only at i1 i2 i3 i4
    subst i1 i2 i3 i4 e2 e3
    clear e1
    clear EA EB EC ED EE T1 T2 T3
    go_wp2_with fail
    obtain ⟨h0, h1, h2, h3, -⟩ := (((HZ.out.set0 0).set1 0).set2 (⟨#[]⟩ : ByteArray)).set3 (⟨#[]⟩ : ByteArray)
    exact bodyPost_ret (v := .agg #[.int .i64 0, .int .i64 0, .string (⟨#[]⟩ : ByteArray), .string (⟨#[]⟩ : ByteArray)]) (by simp [results, Try.results37, go_sem, h0, h1, h2, h3]) rfl ⟨rfl, (((HR.out.far HN1.out.symm _ _).far HN1.out.symm _ _).far HN1.out.symm _ _).far HN1.out.symm _ _, grown_set_new (grown_set_new (grown_set_new (grown_set_new HGR.out HMM.out _ _) HMM.out _ _) HMM.out _ _) HMM.out _ _⟩
  case inr.inl =>
    have e1 := HGG.out.symm.trans (EA.out (by omega))
    injection e1 with e1 e2
    injection e2 with e2 e3
    obtain ⟨i1, i2, i3, i4⟩ := HI.out
    rw [e1] at i1 i2 i3 i4
    simp only at i1 i2 i3 i4
    subst i1 i2 i3 i4 e2 e3
    clear e1
    clear EA EB EC ED EE T1 T2 T3
    go_wp2_with fail
    obtain ⟨h0, h1, h2, h3, -⟩ := (((HZ.out.set0 1).set1 0).set2 (⟨#[]⟩ : ByteArray)).set3 (⟨#[]⟩ : ByteArray)
    exact bodyPost_ret (v := .agg #[.int .i64 1, .int .i64 0, .string (⟨#[]⟩ : ByteArray), .string (⟨#[]⟩ : ByteArray)]) (by simp [results, Try.results37, go_sem, h0, h1, h2, h3]) rfl ⟨rfl, (((HR.out.far HN1.out.symm _ _).far HN1.out.symm _ _).far HN1.out.symm _ _).far HN1.out.symm _ _, grown_set_new (grown_set_new (grown_set_new (grown_set_new HGR.out HMM.out _ _) HMM.out _ _) HMM.out _ _) HMM.out _ _⟩
  case inr.inr.inl =>
    have e1 := HGG.out.symm.trans (EA.out (by omega))
    injection e1 with e1 e2
    injection e2 with e2 e3
    obtain ⟨i1, i2, i3, i4⟩ := HI.out
    rw [e1] at i1 i2 i3 i4
    simp only at i1 i2 i3 i4
    subst i1 i2 i3 i4 e2 e3
    clear e1
    clear EA EB EC ED EE T1 T2 T3
    go_wp2_with fail
    obtain ⟨h0, h1, h2, h3, -⟩ := (((HZ.out.set0 2).set1 0).set2 (⟨#[]⟩ : ByteArray)).set3 (⟨#[]⟩ : ByteArray)
    exact bodyPost_ret (v := .agg #[.int .i64 2, .int .i64 0, .string (⟨#[]⟩ : ByteArray), .string (⟨#[]⟩ : ByteArray)]) (by simp [results, Try.results37, go_sem, h0, h1, h2, h3]) rfl ⟨rfl, (((HR.out.far HN1.out.symm _ _).far HN1.out.symm _ _).far HN1.out.symm _ _).far HN1.out.symm _ _, grown_set_new (grown_set_new (grown_set_new (grown_set_new HGR.out HMM.out _ _) HMM.out _ _) HMM.out _ _) HMM.out _ _⟩
  case inr.inr.inr.inl =>
    have e1 := HGG.out.symm.trans (EB.out (by omega))
    injection e1 with e1 e2
    injection e2 with e2 e3
    obtain ⟨i1, i2, i3, i4⟩ := HI.out
    rw [e1] at i1 i2 i3 i4
    simp only at i1 i2 i3 i4
    replace i3 := HU.out.symm.trans i3
    subst i1 i2 i3 i4 e2 e3
    clear e1
    clear EA EB EC ED EE T2 T3
    go_upto_region 14 with ((with_reducible refine (T1 _ HR.out).out.mono ?_); rintro e w9 ⟨rfl, hrf, hg⟩; replace HZ := Lib.hid (HZ.out.kept hg HN1.out); (try replace HG := Lib.hid (HG.out.kept hg HN2.out)); replace HGR := Lib.hid (HGR.out.trans hg); replace HP := Lib.hid (World.grownBy.cell hg HP.out HNE.out); replace HR := Lib.hid hrf; clear hrf hg; (try clear g0 g1 g2 g3 gz); clear z0 z1 z2 z3 zz p0; have p0 := HP.out; obtain ⟨z0, z1, z2, z3, zz⟩ := HZ.out; (try obtain ⟨g0, g1, g2, g3, gz⟩ := HG.out))
    obtain ⟨w8, hw8⟩ : ∃ w8, w8 = w9.setCell ⟨G, 2, none⟩ (.string U) := ⟨_, rfl⟩
    replace HG := Lib.hid (show NdAt w8 G _ 0 U ⟨#[]⟩ by rw [hw8]; exact HG.out.set2 _)
    replace HZ := Lib.hid (show NdAt w8 (M + 1) 0 0 ⟨#[]⟩ ⟨#[]⟩ by rw [hw8]; exact HZ.out.other HN3.out _)
    replace HR := Lib.hid (show RdAt w8 b _ _ by rw [hw8]; exact HR.out.far HN2.out.symm _ _)
    replace HGR := Lib.hid (show w.grownBy w8 (some b) by rw [hw8]; exact grown_set_new HGR.out HMG.out _ _)
    replace HP := Lib.hid (show w8.cell? ⟨M, 0, none⟩ = some (.pointer (some ⟨b, 0, none⟩)) by rw [hw8]; exact set_other HP.out (addr_block HN4.out) _)
    rw [← hw8]
    clear hw8 g0 g1 g2 g3 gz z0 z1 z2 z3 zz p0
    have p0 := HP.out
    obtain ⟨z0, z1, z2, z3, zz⟩ := HZ.out
    obtain ⟨g0, g1, g2, g3, gz⟩ := HG.out
    go_wp2_with fail
    obtain ⟨h0, h1, h2, h3, -⟩ := (((HZ.out.set0 3).set1 0).set2 U).set3 (⟨#[]⟩ : ByteArray)
    exact bodyPost_ret (v := .agg #[.int .i64 3, .int .i64 0, .string U, .string (⟨#[]⟩ : ByteArray)]) (by simp [results, Try.results37, go_sem, h0, h1, h2, h3]) rfl ⟨rfl, (((HR.out.far HN1.out.symm _ _).far HN1.out.symm _ _).far HN1.out.symm _ _).far HN1.out.symm _ _, grown_set_new (grown_set_new (grown_set_new (grown_set_new HGR.out HMM.out _ _) HMM.out _ _) HMM.out _ _) HMM.out _ _⟩
  case inr.inr.inr.inr.inr.inl =>
    have e1 := HGG.out.symm.trans (EB.out (by omega))
    injection e1 with e1 e2
    injection e2 with e2 e3
    obtain ⟨i1, i2, i3, i4⟩ := HI.out
    rw [e1] at i1 i2 i3 i4
    simp only at i1 i2 i3 i4
    replace i3 := HU.out.symm.trans i3
    subst i1 i2 i3 i4 e2 e3
    clear e1
    clear EA EB EC ED EE T2 T3
    go_upto_region 14 with ((with_reducible refine (T1 _ HR.out).out.mono ?_); rintro e w9 ⟨rfl, hrf, hg⟩; replace HZ := Lib.hid (HZ.out.kept hg HN1.out); (try replace HG := Lib.hid (HG.out.kept hg HN2.out)); replace HGR := Lib.hid (HGR.out.trans hg); replace HP := Lib.hid (World.grownBy.cell hg HP.out HNE.out); replace HR := Lib.hid hrf; clear hrf hg; (try clear g0 g1 g2 g3 gz); clear z0 z1 z2 z3 zz p0; have p0 := HP.out; obtain ⟨z0, z1, z2, z3, zz⟩ := HZ.out; (try obtain ⟨g0, g1, g2, g3, gz⟩ := HG.out))
    obtain ⟨w8, hw8⟩ : ∃ w8, w8 = w9.setCell ⟨G, 2, none⟩ (.string U) := ⟨_, rfl⟩
    replace HG := Lib.hid (show NdAt w8 G _ 0 U ⟨#[]⟩ by rw [hw8]; exact HG.out.set2 _)
    replace HZ := Lib.hid (show NdAt w8 (M + 1) 0 0 ⟨#[]⟩ ⟨#[]⟩ by rw [hw8]; exact HZ.out.other HN3.out _)
    replace HR := Lib.hid (show RdAt w8 b _ _ by rw [hw8]; exact HR.out.far HN2.out.symm _ _)
    replace HGR := Lib.hid (show w.grownBy w8 (some b) by rw [hw8]; exact grown_set_new HGR.out HMG.out _ _)
    replace HP := Lib.hid (show w8.cell? ⟨M, 0, none⟩ = some (.pointer (some ⟨b, 0, none⟩)) by rw [hw8]; exact set_other HP.out (addr_block HN4.out) _)
    rw [← hw8]
    clear hw8 g0 g1 g2 g3 gz z0 z1 z2 z3 zz p0
    have p0 := HP.out
    obtain ⟨z0, z1, z2, z3, zz⟩ := HZ.out
    obtain ⟨g0, g1, g2, g3, gz⟩ := HG.out
    go_wp2_with fail
    obtain ⟨h0, h1, h2, h3, -⟩ := (((HZ.out.set0 5).set1 0).set2 U).set3 (⟨#[]⟩ : ByteArray)
    exact bodyPost_ret (v := .agg #[.int .i64 5, .int .i64 0, .string U, .string (⟨#[]⟩ : ByteArray)]) (by simp [results, Try.results37, go_sem, h0, h1, h2, h3]) rfl ⟨rfl, (((HR.out.far HN1.out.symm _ _).far HN1.out.symm _ _).far HN1.out.symm _ _).far HN1.out.symm _ _, grown_set_new (grown_set_new (grown_set_new (grown_set_new HGR.out HMM.out _ _) HMM.out _ _) HMM.out _ _) HMM.out _ _⟩
  case inr.inr.inr.inr.inl =>
    have e1 := HGG.out.symm.trans (EC.out rfl)
    injection e1 with e1 e2
    injection e2 with e2 e3
    obtain ⟨i1, i2, i3, i4⟩ := HI.out
    rw [e1] at i1 i2 i3 i4
    simp only at i1 i2 i3 i4
    replace i3 := HU.out.symm.trans i3
    replace i4 := HV.out.symm.trans i4
    subst i1 i2 i3 i4 e2 e3
    clear e1
    clear EA EB EC ED EE T3
    go_upto_region 8 with ((with_reducible refine (T1 _ HR.out).out.mono ?_); rintro e w9 ⟨rfl, hrf, hg⟩; replace HZ := Lib.hid (HZ.out.kept hg HN1.out); (try replace HG := Lib.hid (HG.out.kept hg HN2.out)); replace HGR := Lib.hid (HGR.out.trans hg); replace HP := Lib.hid (World.grownBy.cell hg HP.out HNE.out); replace HR := Lib.hid hrf; clear hrf hg; (try clear g0 g1 g2 g3 gz); clear z0 z1 z2 z3 zz p0; have p0 := HP.out; obtain ⟨z0, z1, z2, z3, zz⟩ := HZ.out; (try obtain ⟨g0, g1, g2, g3, gz⟩ := HG.out))
    obtain ⟨w8, hw8⟩ : ∃ w8, w8 = w9.setCell ⟨G, 2, none⟩ (.string U) := ⟨_, rfl⟩
    replace HG := Lib.hid (show NdAt w8 G _ 0 U ⟨#[]⟩ by rw [hw8]; exact HG.out.set2 _)
    replace HZ := Lib.hid (show NdAt w8 (M + 1) 0 0 ⟨#[]⟩ ⟨#[]⟩ by rw [hw8]; exact HZ.out.other HN3.out _)
    replace HR := Lib.hid (show RdAt w8 b _ _ by rw [hw8]; exact HR.out.far HN2.out.symm _ _)
    replace HGR := Lib.hid (show w.grownBy w8 (some b) by rw [hw8]; exact grown_set_new HGR.out HMG.out _ _)
    replace HP := Lib.hid (show w8.cell? ⟨M, 0, none⟩ = some (.pointer (some ⟨b, 0, none⟩)) by rw [hw8]; exact set_other HP.out (addr_block HN4.out) _)
    rw [← hw8]
    clear hw8 g0 g1 g2 g3 gz z0 z1 z2 z3 zz p0
    have p0 := HP.out
    obtain ⟨z0, z1, z2, z3, zz⟩ := HZ.out
    obtain ⟨g0, g1, g2, g3, gz⟩ := HG.out
    obtain ⟨w9, hw9⟩ : ∃ w9, w9 = w8 := ⟨_, rfl⟩
    subst hw9
    go_upto_region 14 with ((with_reducible refine (T2 _ HR.out).out.mono ?_); rintro e w9 ⟨rfl, hrf, hg⟩; replace HZ := Lib.hid (HZ.out.kept hg HN1.out); (try replace HG := Lib.hid (HG.out.kept hg HN2.out)); replace HGR := Lib.hid (HGR.out.trans hg); replace HP := Lib.hid (World.grownBy.cell hg HP.out HNE.out); replace HR := Lib.hid hrf; clear hrf hg; (try clear g0 g1 g2 g3 gz); clear z0 z1 z2 z3 zz p0; have p0 := HP.out; obtain ⟨z0, z1, z2, z3, zz⟩ := HZ.out; (try obtain ⟨g0, g1, g2, g3, gz⟩ := HG.out))
    obtain ⟨w8, hw8⟩ : ∃ w8, w8 = w9.setCell ⟨G, 3, none⟩ (.string V) := ⟨_, rfl⟩
    replace HG := Lib.hid (show NdAt w8 G _ 0 U V by rw [hw8]; exact HG.out.set3 _)
    replace HZ := Lib.hid (show NdAt w8 (M + 1) 0 0 ⟨#[]⟩ ⟨#[]⟩ by rw [hw8]; exact HZ.out.other HN3.out _)
    replace HR := Lib.hid (show RdAt w8 b _ _ by rw [hw8]; exact HR.out.far HN2.out.symm _ _)
    replace HGR := Lib.hid (show w.grownBy w8 (some b) by rw [hw8]; exact grown_set_new HGR.out HMG.out _ _)
    replace HP := Lib.hid (show w8.cell? ⟨M, 0, none⟩ = some (.pointer (some ⟨b, 0, none⟩)) by rw [hw8]; exact set_other HP.out (addr_block HN4.out) _)
    rw [← hw8]
    clear hw8 g0 g1 g2 g3 gz z0 z1 z2 z3 zz p0
    have p0 := HP.out
    obtain ⟨z0, z1, z2, z3, zz⟩ := HZ.out
    obtain ⟨g0, g1, g2, g3, gz⟩ := HG.out
    go_wp2_with fail
    obtain ⟨h0, h1, h2, h3, -⟩ := (((HZ.out.set0 4).set1 0).set2 U).set3 V
    exact bodyPost_ret (v := .agg #[.int .i64 4, .int .i64 0, .string U, .string V]) (by simp [results, Try.results37, go_sem, h0, h1, h2, h3]) rfl ⟨rfl, (((HR.out.far HN1.out.symm _ _).far HN1.out.symm _ _).far HN1.out.symm _ _).far HN1.out.symm _ _, grown_set_new (grown_set_new (grown_set_new (grown_set_new HGR.out HMM.out _ _) HMM.out _ _) HMM.out _ _) HMM.out _ _⟩
  case inr.inr.inr.inr.inr.inr.inl =>
    have e1 := HGG.out.symm.trans (ED.out rfl)
    injection e1 with e1 e2
    injection e2 with e2 e3
    obtain ⟨i1, i2, i3, i4⟩ := HI.out
    rw [e1] at i1 i2 i3 i4
    simp only at i1 i2 i3 i4
    subst i1 i2 i3 i4 e2 e3
    clear e1
    clear EA EB EC ED EE T1 T2 T3
    go_upto_region 14 with fail
    obtain ⟨w8, hw8⟩ : ∃ w8, w8 = w9.setCell ⟨G, 1, none⟩ (.int .i64 1) := ⟨_, rfl⟩
    replace HG := Lib.hid (show NdAt w8 G _ 1 ⟨#[]⟩ ⟨#[]⟩ by rw [hw8]; exact HG.out.set1 _)
    replace HZ := Lib.hid (show NdAt w8 (M + 1) 0 0 ⟨#[]⟩ ⟨#[]⟩ by rw [hw8]; exact HZ.out.other HN3.out _)
    replace HR := Lib.hid (show RdAt w8 b _ _ by rw [hw8]; exact HR.out.far HN2.out.symm _ _)
    replace HGR := Lib.hid (show w.grownBy w8 (some b) by rw [hw8]; exact grown_set_new HGR.out HMG.out _ _)
    replace HP := Lib.hid (show w8.cell? ⟨M, 0, none⟩ = some (.pointer (some ⟨b, 0, none⟩)) by rw [hw8]; exact set_other HP.out (addr_block HN4.out) _)
    rw [← hw8]
    clear hw8 g0 g1 g2 g3 gz z0 z1 z2 z3 zz p0
    have p0 := HP.out
    obtain ⟨z0, z1, z2, z3, zz⟩ := HZ.out
    obtain ⟨g0, g1, g2, g3, gz⟩ := HG.out
    go_wp2_with fail
    obtain ⟨h0, h1, h2, h3, -⟩ := (((HZ.out.set0 6).set1 1).set2 (⟨#[]⟩ : ByteArray)).set3 (⟨#[]⟩ : ByteArray)
    exact bodyPost_ret (v := .agg #[.int .i64 6, .int .i64 1, .string (⟨#[]⟩ : ByteArray), .string (⟨#[]⟩ : ByteArray)]) (by simp [results, Try.results37, go_sem, h0, h1, h2, h3]) rfl ⟨rfl, (((HR.out.far HN1.out.symm _ _).far HN1.out.symm _ _).far HN1.out.symm _ _).far HN1.out.symm _ _, grown_set_new (grown_set_new (grown_set_new (grown_set_new HGR.out HMM.out _ _) HMM.out _ _) HMM.out _ _) HMM.out _ _⟩
  case inr.inr.inr.inr.inr.inr.inr.inl =>
    have e1 := HGG.out.symm.trans (EE.out (by omega))
    injection e1 with e1 e2
    injection e2 with e2 e3
    obtain ⟨i1, i2, i3, i4⟩ := HI.out
    rw [e1] at i1 i2 i3 i4
    simp only at i1 i2 i3 i4
    subst i1 i2 i3 i4 e2 e3
    clear e1
    clear EA EB EC ED EE T1 T2
    go_upto_region 14 with ((with_reducible refine (T3 _ HR.out).out.mono ?_); rintro e w9 ⟨rfl, hrf, hg⟩; replace HZ := Lib.hid (HZ.out.kept hg HN1.out); (try replace HG := Lib.hid (HG.out.kept hg HN2.out)); replace HGR := Lib.hid (HGR.out.trans hg); replace HP := Lib.hid (World.grownBy.cell hg HP.out HNE.out); replace HR := Lib.hid hrf; clear hrf hg; (try clear g0 g1 g2 g3 gz); clear z0 z1 z2 z3 zz p0; have p0 := HP.out; obtain ⟨z0, z1, z2, z3, zz⟩ := HZ.out; (try obtain ⟨g0, g1, g2, g3, gz⟩ := HG.out))
    obtain ⟨w8, hw8⟩ : ∃ w8, w8 = w9.setCell ⟨G, 1, none⟩ (.int .i64 (k : Int)) := ⟨_, rfl⟩
    replace HG := Lib.hid (show NdAt w8 G _ (k : Int) ⟨#[]⟩ ⟨#[]⟩ by rw [hw8]; exact HG.out.set1 _)
    replace HZ := Lib.hid (show NdAt w8 (M + 1) 0 0 ⟨#[]⟩ ⟨#[]⟩ by rw [hw8]; exact HZ.out.other HN3.out _)
    replace HR := Lib.hid (show RdAt w8 b _ _ by rw [hw8]; exact HR.out.far HN2.out.symm _ _)
    replace HGR := Lib.hid (show w.grownBy w8 (some b) by rw [hw8]; exact grown_set_new HGR.out HMG.out _ _)
    replace HP := Lib.hid (show w8.cell? ⟨M, 0, none⟩ = some (.pointer (some ⟨b, 0, none⟩)) by rw [hw8]; exact set_other HP.out (addr_block HN4.out) _)
    rw [← hw8]
    clear hw8 g0 g1 g2 g3 gz z0 z1 z2 z3 zz p0
    have p0 := HP.out
    obtain ⟨z0, z1, z2, z3, zz⟩ := HZ.out
    obtain ⟨g0, g1, g2, g3, gz⟩ := HG.out
    go_wp2_with fail
    obtain ⟨h0, h1, h2, h3, -⟩ := (((HZ.out.set0 7).set1 (k : Int)).set2 (⟨#[]⟩ : ByteArray)).set3 (⟨#[]⟩ : ByteArray)
    exact bodyPost_ret (v := .agg #[.int .i64 7, .int .i64 (k : Int), .string (⟨#[]⟩ : ByteArray), .string (⟨#[]⟩ : ByteArray)]) (by simp [results, Try.results37, go_sem, h0, h1, h2, h3]) rfl ⟨rfl, (((HR.out.far HN1.out.symm _ _).far HN1.out.symm _ _).far HN1.out.symm _ _).far HN1.out.symm _ _, grown_set_new (grown_set_new (grown_set_new (grown_set_new HGR.out HMM.out _ _) HMM.out _ _) HMM.out _ _) HMM.out _ _⟩
  case inr.inr.inr.inr.inr.inr.inr.inr =>
    have e1 := HGG.out.symm.trans (EE.out (by omega))
    injection e1 with e1 e2
    injection e2 with e2 e3
    obtain ⟨i1, i2, i3, i4⟩ := HI.out
    rw [e1] at i1 i2 i3 i4
    simp only at i1 i2 i3 i4
    subst i1 i2 i3 i4 e2 e3
    clear e1
    clear EA EB EC ED EE T1 T2
    go_upto_region 14 with ((with_reducible refine (T3 _ HR.out).out.mono ?_); rintro e w9 ⟨rfl, hrf, hg⟩; replace HZ := Lib.hid (HZ.out.kept hg HN1.out); (try replace HG := Lib.hid (HG.out.kept hg HN2.out)); replace HGR := Lib.hid (HGR.out.trans hg); replace HP := Lib.hid (World.grownBy.cell hg HP.out HNE.out); replace HR := Lib.hid hrf; clear hrf hg; (try clear g0 g1 g2 g3 gz); clear z0 z1 z2 z3 zz p0; have p0 := HP.out; obtain ⟨z0, z1, z2, z3, zz⟩ := HZ.out; (try obtain ⟨g0, g1, g2, g3, gz⟩ := HG.out))
    obtain ⟨w8, hw8⟩ : ∃ w8, w8 = w9.setCell ⟨G, 1, none⟩ (.int .i64 (k : Int)) := ⟨_, rfl⟩
    replace HG := Lib.hid (show NdAt w8 G _ (k : Int) ⟨#[]⟩ ⟨#[]⟩ by rw [hw8]; exact HG.out.set1 _)
    replace HZ := Lib.hid (show NdAt w8 (M + 1) 0 0 ⟨#[]⟩ ⟨#[]⟩ by rw [hw8]; exact HZ.out.other HN3.out _)
    replace HR := Lib.hid (show RdAt w8 b _ _ by rw [hw8]; exact HR.out.far HN2.out.symm _ _)
    replace HGR := Lib.hid (show w.grownBy w8 (some b) by rw [hw8]; exact grown_set_new HGR.out HMG.out _ _)
    replace HP := Lib.hid (show w8.cell? ⟨M, 0, none⟩ = some (.pointer (some ⟨b, 0, none⟩)) by rw [hw8]; exact set_other HP.out (addr_block HN4.out) _)
    rw [← hw8]
    clear hw8 g0 g1 g2 g3 gz z0 z1 z2 z3 zz p0
    have p0 := HP.out
    obtain ⟨z0, z1, z2, z3, zz⟩ := HZ.out
    obtain ⟨g0, g1, g2, g3, gz⟩ := HG.out
    go_wp2_with fail
    obtain ⟨h0, h1, h2, h3, -⟩ := (((HZ.out.set0 8).set1 (k : Int)).set2 (⟨#[]⟩ : ByteArray)).set3 (⟨#[]⟩ : ByteArray)
    exact bodyPost_ret (v := .agg #[.int .i64 8, .int .i64 (k : Int), .string (⟨#[]⟩ : ByteArray), .string (⟨#[]⟩ : ByteArray)]) (by simp [results, Try.results37, go_sem, h0, h1, h2, h3]) rfl ⟨rfl, (((HR.out.far HN1.out.symm _ _).far HN1.out.symm _ _).far HN1.out.symm _ _).far HN1.out.symm _ _, grown_set_new (grown_set_new (grown_set_new (grown_set_new HGR.out HMM.out _ _) HMM.out _ _) HMM.out _ _) HMM.out _ _⟩
end Go.Proofs.Ytohdncmlmpnfbaa

/-
  Plain facts on how right lists are made (layer 8): ranges in the order of their beginnings, merged; the edges of two lists, swept together. No program in this text.
-/
namespace Go.Proofs.Ytohdncmlmpnfbaa

/-! Ranges in the order of their beginnings, merged. -/
def mergeL : Option Rng → List Rng → List Rng
  | none, [] => []
  | some p, [] => [p]
  | none, r :: l => mergeL (some r) l
  | some p, r :: l => match gapR p r with
    | true => p :: mergeL (some r) l
    | false => match endLt p r with
      | true => mergeL (some ⟨p.lo, r.hi, r.op⟩) l
      | false => mergeL (some p) l
theorem mergeL_gap {p r : Rng} {l : List Rng} (h : gapR p r = true) : mergeL (some p) (r :: l) = p :: mergeL (some r) l := by rw [mergeL, h]
theorem mergeL_more {p r : Rng} {l : List Rng} (h : gapR p r = false) (h' : endLt p r = true) : mergeL (some p) (r :: l) = mergeL (some ⟨p.lo, r.hi, r.op⟩) l := by rw [mergeL, h, h']
theorem mergeL_in {p r : Rng} {l : List Rng} (h : gapR p r = false) (h' : endLt p r = false) : mergeL (some p) (r :: l) = mergeL (some p) l := by rw [mergeL, h, h']
/-- Ranges, each of which begins not behind those behind it. -/
def SortedL (l : List Rng) : Prop := l.Pairwise fun a b => ltB b.lo a.lo = false
theorem gapR_false {p r : Rng} (h : gapR p r = false) : p.op = true ∨ (p.op = false ∧ ltB p.hi r.lo = false) := by
  unfold gapR at h
  cases ho : p.op with
  | true => exact .inl rfl
  | false => rw [ho] at h; exact .inr ⟨rfl, h⟩
theorem endLt_true {p r : Rng} (h : endLt p r = true) : p.op = false ∧ (r.op = true ∨ (r.op = false ∧ ltB p.hi r.hi = true)) := by
  unfold endLt at h
  cases ho : p.op <;> cases hr : r.op <;> rw [ho, hr] at h
  · exact ⟨rfl, .inr ⟨rfl, h⟩⟩
  · exact ⟨rfl, .inl rfl⟩
  · cases h
  · cases h
theorem endLt_false {p r : Rng} (h : endLt p r = false) : p.op = true ∨ (p.op = false ∧ r.op = false ∧ ltB p.hi r.hi = false) := by
  unfold endLt at h
  cases ho : p.op <;> cases hr : r.op <;> rw [ho, hr] at h
  · exact .inr ⟨rfl, rfl, h⟩
  · cases h
  · exact .inl rfl
  · exact .inl rfl
theorem hasR_eq {r : Rng} (h : rightR r = true) (s : List UInt8) : hasR r s = (!ltB s r.lo && (r.op || ltB s r.hi)) := by unfold hasR aheadR; rw [h, Bool.true_and]
theorem more_right {p r : Rng} (hp : rightR p = true) (hr : rightR r = true) (h : ltB r.lo p.lo = false) : rightR ⟨p.lo, r.hi, r.op⟩ = true :=
  rightR_iff.2 ⟨(show p.lo.length ≤ 17 from rightR_lo hp), (show r.hi.length ≤ 17 from rightR_hi hr), (show r.op = true → r.hi = [] from rightR_op hr), (show r.op = false → ltB p.lo r.hi = true from fun ho => ltB_of_le_of_lt h (rightR_lt hr ho))⟩
theorem more_has {p r : Rng} (hp : rightR p = true) (hr : rightR r = true) (h : ltB r.lo p.lo = false) (hg : gapR p r = false) (he : endLt p r = true) (s : List UInt8) : hasR ⟨p.lo, r.hi, r.op⟩ s = (hasR p s || hasR r s) := by
  rw [hasR_eq (more_right hp hr h), hasR_eq hp, hasR_eq hr]
  obtain ⟨ho, he⟩ := endLt_true he
  rcases gapR_false hg with h1 | ⟨_, h1⟩
  · rw [ho] at h1; cases h1
  rw [ho, Bool.false_or]
  cases hs : ltB s p.hi with
  | true =>
    have h2 : (r.op || ltB s r.hi) = true := by
      rcases he with he | ⟨_, he⟩
      · rw [he]; rfl
      · rw [ltB_trans hs he, Bool.or_true]
    show (!ltB s p.lo && (r.op || ltB s r.hi)) = _
    rw [h2, Bool.and_true, Bool.and_true]
    cases h3 : ltB s p.lo with
    | false => rfl
    | true => rw [ltB_of_lt_of_le h3 h]; rfl
  | false =>
    have h2 : ltB s r.lo = false := leB_trans h1 hs
    have h3 : ltB s p.lo = false := leB_trans h h2
    show (!ltB s p.lo && (r.op || ltB s r.hi)) = _
    rw [h2, h3]; rfl
theorem in_has {p r : Rng} (hp : rightR p = true) (h : ltB r.lo p.lo = false) (he : endLt p r = false) (s : List UInt8) : hasR p s = (hasR p s || hasR r s) := by
  cases hs : hasR r s with
  | false => rw [Bool.or_false]
  | true =>
    rw [Bool.or_true]
    have h1 := hasR_ge hs
    have h2 := hasR_ahead hs
    rw [hasR_eq hp, leB_trans h h1]
    rcases endLt_false he with h3 | ⟨h3, h4, h5⟩
    · rw [h3]; rfl
    · unfold aheadR at h2
      rw [h4, Bool.false_or] at h2
      rw [ltB_of_lt_of_le h2 h5, Bool.or_true]; rfl
theorem mergeL_ok : ∀ (l : List Rng) (p : Rng), rightR p = true → (∀ r ∈ l, rightR r = true ∧ ltB r.lo p.lo = false) → SortedL l →
    rightL (mergeL (some p) l) = true ∧ (∀ s, hasL (mergeL (some p) l) s = (hasR p s || hasL l s)) ∧ ∃ t m, mergeL (some p) l = t :: m ∧ t.lo = p.lo
  | [], p, hp, _, _ => ⟨hp, fun s => by rw [show mergeL (some p) [] = [p] from rfl, hasL_cons], p, [], rfl, rfl⟩
  | r :: l, p, hp, hl, hs => by
    obtain ⟨hr, hlo⟩ := hl r (List.mem_cons_self ..)
    obtain ⟨hs1, hs2⟩ := List.pairwise_cons.1 hs
    have hl' : ∀ t ∈ l, rightR t = true ∧ ltB t.lo r.lo = false := fun t ht => ⟨(hl t (List.mem_cons_of_mem _ ht)).1, hs1 t ht⟩
    cases hg : gapR p r with
    | true =>
      obtain ⟨h1, h2, t, m, h3, h4⟩ := mergeL_ok l r hr hl' hs2
      rw [mergeL_gap hg]
      refine ⟨?_, fun s => by rw [hasL_cons, h2, hasL_cons], p, _, rfl, rfl⟩
      rw [h3] at h1 ⊢
      have h5 : gapR p t = true := by unfold gapR at hg ⊢; rw [h4]; exact hg
      unfold rightL
      rw [hp, h5, h1]; rfl
    | false =>
      cases he : endLt p r with
      | true =>
        obtain ⟨h1, h2, t, m, h3, h4⟩ := mergeL_ok l ⟨p.lo, r.hi, r.op⟩ (more_right hp hr hlo) (fun t ht => ⟨(hl' t ht).1, leB_trans hlo (hl' t ht).2⟩) hs2
        rw [mergeL_more hg he]
        exact ⟨h1, fun s => by rw [h2, more_has hp hr hlo hg he, hasL_cons, Bool.or_assoc], t, m, h3, h4⟩
      | false =>
        obtain ⟨h1, h2, t, m, h3, h4⟩ := mergeL_ok l p hp (fun t ht => hl t (List.mem_cons_of_mem _ ht)) hs2
        rw [mergeL_in hg he]
        exact ⟨h1, fun s => by rw [h2, hasL_cons, ← Bool.or_assoc, ← in_has hp hlo he], t, m, h3, h4⟩
theorem mergeL_all {l : List Rng} (hl : ∀ r ∈ l, rightR r = true) (hs : SortedL l) : rightL (mergeL none l) = true ∧ ∀ s, hasL (mergeL none l) s = hasL l s := by
  cases l with
  | nil => exact ⟨rfl, fun _ => rfl⟩
  | cons r l =>
    obtain ⟨hs1, hs2⟩ := List.pairwise_cons.1 hs
    obtain ⟨h1, h2, _⟩ := mergeL_ok l r (hl r (List.mem_cons_self ..)) (fun t ht => ⟨hl t (List.mem_cons_of_mem _ ht), hs1 t ht⟩) hs2
    exact ⟨h1, fun s => by rw [show mergeL none (r :: l) = mergeL (some r) l from rfl, h2, hasL_cons]⟩
/-- The right ones, in some order of their beginnings, merged: the right list of all. -/
theorem mergeL_norm {l m : List Rng} (hp : m.Perm (l.filter rightR)) (hs : SortedL m) : mergeL none m = normV l := by
  have hm : ∀ r ∈ m, rightR r = true := fun r hr => by have := hp.mem_iff.1 hr; exact (List.mem_filter.1 this).2
  obtain ⟨h1, h2⟩ := mergeL_all hm hs
  refine makeV_unique h1 fun s => ?_
  rw [h2, gV1, hasL_nil, Bool.or_false, Bool.eq_iff_iff]
  unfold hasL
  rw [List.any_eq_true, List.any_eq_true]
  constructor
  · rintro ⟨r, hr, h⟩; exact ⟨r, (List.mem_filter.1 (hp.mem_iff.1 hr)).1, h⟩
  · rintro ⟨r, hr, h⟩; exact ⟨r, hp.mem_iff.2 (List.mem_filter.2 ⟨hr, hasR_right h⟩), h⟩
/-- The last one that is kept, behind a range. -/
def lastR (p r : Rng) : Rng := match endLt p r with | true => ⟨p.lo, r.hi, r.op⟩ | false => p
theorem mergeL_last {p r : Rng} {l : List Rng} (h : gapR p r = false) : mergeL (some p) (r :: l) = mergeL (some (lastR p r)) l := by
  unfold lastR
  cases h' : endLt p r with
  | true => rw [mergeL_more h h']
  | false => rw [mergeL_in h h']

/-! The edges of a right list. -/
def edgesR : List Rng → List (List UInt8)
  | [] => []
  | r :: l => match r.op with
    | true => r.lo :: edgesR l
    | false => r.lo :: r.hi :: edgesR l
theorem edgesR_open {r : Rng} {l : List Rng} (h : r.op = true) : edgesR (r :: l) = r.lo :: edgesR l := by rw [edgesR, h]
theorem edgesR_shut {r : Rng} {l : List Rng} (h : r.op = false) : edgesR (r :: l) = r.lo :: r.hi :: edgesR l := by rw [edgesR, h]
theorem edgesR_append : ∀ (a b : List Rng), edgesR (a ++ b) = edgesR a ++ edgesR b
  | [], _ => rfl
  | r :: a, b => by
    rw [List.cons_append]
    cases ho : r.op with
    | true => rw [edgesR_open ho, edgesR_open ho, edgesR_append a b, List.cons_append]
    | false => rw [edgesR_shut ho, edgesR_shut ho, edgesR_append a b, List.cons_append, List.cons_append]
/-- Are texts rising? -/
def riseB : List (List UInt8) → Bool
  | [] => true
  | x :: l => risingB x l
theorem risingB_of {c x : List UInt8} {l : List (List UInt8)} (h : ltB c x = true) (h' : risingB x l = true) : risingB c (x :: l) = true := by unfold risingB; rw [h, h']; rfl
theorem edgesR_rise : ∀ {l : List Rng}, rightL l = true → (∀ c, (∀ r m, l = r :: m → ltB c r.lo = true) → risingB c (edgesR l) = true)
  | [], _, _, _ => rfl
  | r :: l, h, c, hc => by
    have h1 := hc r l rfl
    cases ho : r.op with
    | true =>
      have hl : l = [] := by
        cases l with
        | nil => rfl
        | cons t m => have := (rightL_gap h).1; rw [ho] at this; cases this
      rw [edgesR_open ho, hl]
      exact risingB_of h1 rfl
    | false =>
      rw [edgesR_shut ho]
      refine risingB_of h1 (risingB_of (rightR_lt (rightL_head h) ho) (edgesR_rise (rightL_tail h) _ fun t m e => ?_))
      subst e
      exact (rightL_gap h).2
theorem edgesR_riseB {l : List Rng} (h : rightL l = true) : riseB (edgesR l) = true := by
  cases l with
  | nil => rfl
  | cons r l =>
    cases ho : r.op with
    | true =>
      have hl : l = [] := by
        cases l with
        | nil => rfl
        | cons t m => have := (rightL_gap h).1; rw [ho] at this; cases this
      rw [edgesR_open ho, hl]; rfl
    | false =>
      rw [edgesR_shut ho]
      refine risingB_of (rightR_lt (rightL_head h) ho) (edgesR_rise (rightL_tail h) _ fun t m e => ?_)
      subst e
      exact (rightL_gap h).2
theorem edgesR_len17 : ∀ {l : List Rng}, (∀ r ∈ l, rightR r = true) → ∀ x ∈ edgesR l, x.length ≤ 17
  | [], _, x, hx => by cases hx
  | r :: l, h, x, hx => by
    have h1 := h r (List.mem_cons_self ..)
    have h2 := edgesR_len17 fun t ht => h t (List.mem_cons_of_mem _ ht)
    cases ho : r.op with
    | true =>
      rw [edgesR_open ho] at hx
      rcases List.mem_cons.1 hx with rfl | hx
      · exact rightR_lo h1
      · exact h2 x hx
    | false =>
      rw [edgesR_shut ho] at hx
      rcases List.mem_cons.1 hx with rfl | hx
      · exact rightR_lo h1
      · rcases List.mem_cons.1 hx with rfl | hx
        · exact rightR_hi h1
        · exact h2 x hx
theorem edgesR_len : ∀ l : List Rng, (edgesR l).length ≤ 2 * l.length
  | [] => by simp [edgesR]
  | r :: l => by
    have := edgesR_len l
    cases ho : r.op with
    | true => rw [edgesR_open ho]; simp only [List.length_cons]; omega
    | false => rw [edgesR_shut ho]; simp only [List.length_cons]; omega
/-- Is a text in, by the edges at which that turns? -/
def togV : Bool → List (List UInt8) → List UInt8 → Bool
  | v, [], _ => v
  | v, x :: l, s => match ltB s x with | true => v | false => togV (!v) l s
theorem togV_low {v : Bool} {x s : List UInt8} {l : List (List UInt8)} (h : ltB s x = true) : togV v (x :: l) s = v := by rw [togV, h]
theorem togV_high {v : Bool} {x s : List UInt8} {l : List (List UInt8)} (h : ltB s x = false) : togV v (x :: l) s = togV (!v) l s := by rw [togV, h]
theorem togV_all {v : Bool} {s : List UInt8} {l : List (List UInt8)} (h : ∀ x ∈ l, ltB s x = true) : togV v l s = v := by
  cases l with
  | nil => rfl
  | cons x l => exact togV_low (h x (List.mem_cons_self ..))
theorem togV_edges : ∀ {l : List Rng}, rightL l = true → ∀ s, togV false (edgesR l) s = hasL l s
  | [], _, _ => rfl
  | r :: l, h, s => by
    have hr := rightL_head h
    cases h1 : ltB s r.lo with
    | true =>
      have h2 : hasL (r :: l) s = false := by
        cases hc : hasL (r :: l) s with
        | false => rfl
        | true => rw [hasL_ge h hc] at h1; cases h1
      rw [h2]
      cases ho : r.op with
      | true => rw [edgesR_open ho, togV_low h1]
      | false => rw [edgesR_shut ho, togV_low h1]
    | false =>
      cases ho : r.op with
      | true =>
        have hl : l = [] := by
          cases l with
          | nil => rfl
          | cons t m => have := (rightL_gap h).1; rw [ho] at this; cases this
        rw [edgesR_open ho, togV_high h1, hl, hasL_cons, hasR_eq hr, h1, ho]; rfl
      | false =>
        rw [edgesR_shut ho, togV_high h1, hasL_cons, hasR_eq hr, h1, ho]
        cases h3 : ltB s r.hi with
        | true => rw [togV_low h3]; rfl
        | false => rw [togV_high h3, show (!!false) = false from rfl, togV_edges (rightL_tail h)]; rfl
theorem togV_det : ∀ (l : List (List UInt8)) (v : Bool) {s c : List UInt8}, (∀ x ∈ l, ltB s x = ltB c x) → togV v l s = togV v l c
  | [], _, _, _, _ => rfl
  | x :: l, v, s, c, h => by
    have h1 := h x (List.mem_cons_self ..)
    have h2 := togV_det l (!v) fun y hy => h y (List.mem_cons_of_mem _ hy)
    unfold togV
    rw [h1, h2]

/-! The edges of two lists, together. -/
/-- What is left of edges behind one that may be the first of them. -/
def dropE (e : List UInt8) : List (List UInt8) → List (List UInt8)
  | [] => []
  | x :: l => match decide (x = e) with | true => l | false => x :: l
/-- .. and whether a text is in from there on. -/
def passB (e : List UInt8) (v : Bool) : List (List UInt8) → Bool
  | [] => v
  | x :: _ => match decide (x = e) with | true => !v | false => v
theorem dropE_same {e : List UInt8} {l : List (List UInt8)} : dropE e (e :: l) = l := by rw [dropE, decide_eq_true rfl]
theorem dropE_other {e x : List UInt8} {l : List (List UInt8)} (h : x ≠ e) : dropE e (x :: l) = x :: l := by rw [dropE, decide_eq_false h]
theorem passB_same {e : List UInt8} {v : Bool} {l : List (List UInt8)} : passB e v (e :: l) = !v := by rw [passB, decide_eq_true rfl]
theorem passB_other {e x : List UInt8} {v : Bool} {l : List (List UInt8)} (h : x ≠ e) : passB e v (x :: l) = v := by rw [passB, decide_eq_false h]
theorem dropE_len (e : List UInt8) (l : List (List UInt8)) : (dropE e l).length ≤ l.length := by
  cases l with
  | nil => exact Nat.le_refl _
  | cons x l =>
    by_cases h : x = e
    · subst h; rw [dropE_same]; simp
    · rw [dropE_other h]; exact Nat.le_refl _
theorem dropE_mem {e x : List UInt8} {l : List (List UInt8)} (h : x ∈ dropE e l) : x ∈ l := by
  cases l with
  | nil => cases h
  | cons y l =>
    by_cases hy : y = e
    · subst hy; rw [dropE_same] at h; exact List.mem_cons_of_mem _ h
    · rw [dropE_other hy] at h; exact h
theorem mem_dropE {e x : List UInt8} {l : List (List UInt8)} (h : x ∈ l) (hne : x ≠ e) : x ∈ dropE e l := by
  cases l with
  | nil => cases h
  | cons y l =>
    by_cases hy : y = e
    · subst hy; rw [dropE_same]
      rcases List.mem_cons.1 h with rfl | h
      · exact absurd rfl hne
      · exact h
    · rw [dropE_other hy]; exact h
/-- Rising texts, none of them ahead of one. -/
def FromE (e : List UInt8) (l : List (List UInt8)) : Prop := riseB l = true ∧ ∀ x ∈ l, ltB x e = false
theorem FromE.drop {e : List UInt8} {l : List (List UInt8)} (h : FromE e l) : risingB e (dropE e l) = true := by
  obtain ⟨h1, h2⟩ := h
  cases l with
  | nil => rfl
  | cons x l =>
    by_cases hx : x = e
    · subst hx; rw [dropE_same]; exact h1
    · rw [dropE_other hx]
      refine risingB_of ?_ h1
      have h3 := h2 x (List.mem_cons_self ..)
      cases hc : ltB e x with
      | true => rfl
      | false => exact absurd (ltB_total h3 hc) hx
theorem riseB_of {c : List UInt8} {l : List (List UInt8)} (h : risingB c l = true) : riseB l = true := by
  cases l with
  | nil => rfl
  | cons x l => exact (rising_head h).2
theorem FromE.pass {e : List UInt8} {l : List (List UInt8)} {v : Bool} (_h : FromE e l) {s : List UInt8} (hs : ltB s e = false) : togV (passB e v l) (dropE e l) s = togV v l s := by
  cases l with
  | nil => rfl
  | cons x l =>
    by_cases hx : x = e
    · subst hx; rw [dropE_same, passB_same, togV_high hs]
    · rw [dropE_other hx, passB_other hx]
theorem FromE.at {e : List UInt8} {l : List (List UInt8)} {v : Bool} (h : FromE e l) : togV v l e = passB e v l := by
  rw [← h.pass (ltB_irrefl e)]
  exact togV_all (rising_all h.drop)
/-- The next edge of both. -/
def nearE : List (List UInt8) → List (List UInt8) → Option (List UInt8)
  | [], [] => none
  | [], y :: _ => some y
  | x :: _, [] => some x
  | x :: _, y :: _ => match ltB x y with | true => some x | false => some y
theorem nearE_lt {x y : List UInt8} {a b : List (List UInt8)} (h : ltB x y = true) : nearE (x :: a) (y :: b) = some x := by rw [nearE, h]
theorem nearE_ge {x y : List UInt8} {a b : List (List UInt8)} (h : ltB x y = false) : nearE (x :: a) (y :: b) = some y := by rw [nearE, h]
/-- What is known of the next edge of two rising lists. -/
theorem nearE_some {c e : List UInt8} {a b : List (List UInt8)} (ha : risingB c a = true) (hb : risingB c b = true) (h : nearE a b = some e) :
    ltB c e = true ∧ FromE e a ∧ FromE e b ∧ (dropE e a).length + (dropE e b).length < a.length + b.length ∧ (e ∈ a ∨ e ∈ b) := by
  have up : ∀ {x : List UInt8} {l : List (List UInt8)}, risingB x l = true → ∀ y ∈ x :: l, ltB y x = false := fun hl y hy => by
    rcases List.mem_cons.1 hy with rfl | hy
    · exact ltB_irrefl _
    · exact ltB_asymm (rising_all hl y hy)
  cases a with
  | nil =>
    cases b with
    | nil => cases h
    | cons y b =>
      obtain rfl : y = e := by rw [nearE] at h; injection h
      obtain ⟨h1, h2⟩ := rising_head hb
      refine ⟨h1, ⟨rfl, by simp⟩, ⟨h2, up h2⟩, ?_, .inr (List.mem_cons_self ..)⟩
      rw [dropE_same]; simp [dropE]
  | cons x a =>
    obtain ⟨h1, h2⟩ := rising_head ha
    cases b with
    | nil =>
      obtain rfl : x = e := by rw [nearE] at h; injection h
      refine ⟨h1, ⟨h2, up h2⟩, ⟨rfl, by simp⟩, ?_, .inl (List.mem_cons_self ..)⟩
      rw [dropE_same]; simp [dropE]
    | cons y b =>
      obtain ⟨h3, h4⟩ := rising_head hb
      cases hxy : ltB x y with
      | true =>
        rw [nearE_lt hxy] at h
        obtain rfl : x = e := by injection h
        refine ⟨h1, ⟨h2, up h2⟩, ⟨h4, fun z hz => leB_trans (ltB_asymm hxy) (up h4 z hz)⟩, ?_, .inl (List.mem_cons_self ..)⟩
        have := dropE_len x (y :: b)
        rw [dropE_same]; simp only [List.length_cons] at this ⊢; omega
      | false =>
        rw [nearE_ge hxy] at h
        obtain rfl : y = e := by injection h
        refine ⟨h3, ⟨h2, fun z hz => leB_trans hxy (up h2 z hz)⟩, ⟨h4, up h4⟩, ?_, .inr (List.mem_cons_self ..)⟩
        have := dropE_len y (x :: a)
        rw [dropE_same]; simp only [List.length_cons] at this ⊢; omega
theorem nearE_none {a b : List (List UInt8)} (h : nearE a b = none) : a = [] ∧ b = [] := by
  cases a with
  | nil => cases b with
    | nil => exact ⟨rfl, rfl⟩
    | cons y b => cases h
  | cons x a => cases b with
    | nil => cases h
    | cons y b => rw [nearE] at h; cases hxy : ltB x y <;> rw [hxy] at h <;> cases h
/-- All edges of both, rising. -/
def mrgE : Nat → List (List UInt8) → List (List UInt8) → List (List UInt8)
  | 0, _, _ => []
  | n + 1, a, b => match nearE a b with
    | none => []
    | some e => e :: mrgE n (dropE e a) (dropE e b)
theorem mrgE_some {n : Nat} {a b : List (List UInt8)} {e : List UInt8} (h : nearE a b = some e) : mrgE (n + 1) a b = e :: mrgE n (dropE e a) (dropE e b) := by rw [mrgE, h]
theorem mrgE_none {n : Nat} {a b : List (List UInt8)} (h : nearE a b = none) : mrgE n a b = [] := by
  cases n with
  | zero => rfl
  | succ n => rw [mrgE, h]
theorem mrgE_rise : ∀ (n : Nat) {c : List UInt8} {a b : List (List UInt8)}, risingB c a = true → risingB c b = true → risingB c (mrgE n a b) = true
  | 0, _, _, _, _, _ => rfl
  | n + 1, c, a, b, ha, hb => by
    cases h : nearE a b with
    | none => rw [mrgE_none h]; rfl
    | some e =>
      obtain ⟨h1, h2, h3, _⟩ := nearE_some ha hb h
      rw [mrgE_some h]
      exact risingB_of h1 (mrgE_rise n h2.drop h3.drop)
theorem mrgE_mem : ∀ (n : Nat) {c : List UInt8} {a b : List (List UInt8)}, risingB c a = true → risingB c b = true → a.length + b.length ≤ n → ∀ x, (x ∈ a ∨ x ∈ b) → x ∈ mrgE n a b
  | 0, _, a, b, _, _, hn, x, hx => by
    have h1 : a = [] := List.length_eq_zero_iff.1 (by omega)
    have h2 : b = [] := List.length_eq_zero_iff.1 (by omega)
    rw [h1, h2] at hx; rcases hx with hx | hx <;> cases hx
  | n + 1, c, a, b, ha, hb, hn, x, hx => by
    cases h : nearE a b with
    | none =>
      obtain ⟨h1, h2⟩ := nearE_none h
      rw [h1, h2] at hx; rcases hx with hx | hx <;> cases hx
    | some e =>
      obtain ⟨_, h2, h3, h4, _⟩ := nearE_some ha hb h
      rw [mrgE_some h]
      by_cases he : x = e
      · subst he; exact List.mem_cons_self ..
      · refine List.mem_cons_of_mem _ (mrgE_mem n h2.drop h3.drop (by omega) x ?_)
        rcases hx with hx | hx
        · exact .inl (mem_dropE hx he)
        · exact .inr (mem_dropE hx he)
theorem mrgE_of : ∀ (n : Nat) {a b : List (List UInt8)} {x : List UInt8}, x ∈ mrgE n a b → x ∈ a ∨ x ∈ b
  | 0, _, _, _, h => by cases h
  | n + 1, a, b, x, h => by
    cases hn : nearE a b with
    | none => rw [mrgE_none hn] at h; cases h
    | some e =>
      rw [mrgE_some hn] at h
      rcases List.mem_cons.1 h with rfl | h
      · cases a with
        | nil => cases b with
          | nil => cases hn
          | cons y b => injection hn with hn; subst hn; exact .inr (List.mem_cons_self ..)
        | cons u a => cases b with
          | nil => injection hn with hn; subst hn; exact .inl (List.mem_cons_self ..)
          | cons y b =>
            cases hu : ltB u y with
            | true => rw [nearE_lt hu] at hn; injection hn with hn; subst hn; exact .inl (List.mem_cons_self ..)
            | false => rw [nearE_ge hu] at hn; injection hn with hn; subst hn; exact .inr (List.mem_cons_self ..)
      · rcases mrgE_of n h with h | h
        · exact .inl (dropE_mem h)
        · exact .inr (dropE_mem h)
/-- What is swept, edge by edge: what is still to come. -/
def restE (n : Nat) (a b : List (List UInt8)) : Option (List UInt8) → List (List UInt8)
  | none => []
  | some e => e :: mrgE n (dropE e a) (dropE e b)
theorem restE_next (n : Nat) (a b : List (List UInt8)) : mrgE (n + 1) a b = restE n a b (nearE a b) := by
  cases hn : nearE a b with
  | none => rw [mrgE_none hn]; rfl
  | some e => rw [mrgE_some hn]; rfl
/-- The swept list is what is meant. -/
theorem sweep_make (op : Int) (a b : List Rng) (f : List UInt8 → Bool) (hf : ∀ s, f s = inV op a b s) (n : Nat) (hn : (edgesR (normV a)).length + (edgesR (normV b)).length ≤ n) :
    mkR f (restE n (edgesR (normV a)) (edgesR (normV b)) (some [])) none = makeV op a b := by
  have ra : rightL (normV a) = true := makeV_right _ _ _
  have rb : rightL (normV b) = true := makeV_right _ _ _
  have fa : FromE [] (edgesR (normV a)) := ⟨edgesR_riseB ra, fun x _ => ltB_nil x⟩
  have fb : FromE [] (edgesR (normV b)) := ⟨edgesR_riseB rb, fun x _ => ltB_nil x⟩
  have hlen : ∀ x ∈ mrgE n (dropE [] (edgesR (normV a))) (dropE [] (edgesR (normV b))), x.length ≤ 17 := fun x hx => by
    rcases mrgE_of n hx with h | h
    · exact edgesR_len17 (rightL_all ra) x (dropE_mem h)
    · exact edgesR_len17 (rightL_all rb) x (dropE_mem h)
  have hmem : ∀ x, (x ∈ edgesR (normV a) ∨ x ∈ edgesR (normV b)) → x ∈ [] :: mrgE n (dropE [] (edgesR (normV a))) (dropE [] (edgesR (normV b))) := fun x hx => by
    by_cases he : x = []
    · rw [he]; exact List.mem_cons_self ..
    · refine List.mem_cons_of_mem _ (mrgE_mem n fa.drop fb.drop ?_ x ?_)
      · have := dropE_len [] (edgesR (normV a)); have := dropE_len [] (edgesR (normV b)); omega
      · rcases hx with hx | hx
        · exact .inl (mem_dropE hx he)
        · exact .inr (mem_dropE hx he)
  have hdet : Det f ([] :: mrgE n (dropE [] (edgesR (normV a))) (dropE [] (edgesR (normV b)))) := fun s c h => by
    rw [hf, hf]
    unfold inV
    rw [← normV_has a s, ← normV_has b s, ← normV_has a c, ← normV_has b c, ← togV_edges ra, ← togV_edges rb, ← togV_edges ra, ← togV_edges rb,
      togV_det (edgesR (normV a)) false fun x hx => h x (hmem x (.inl hx)), togV_det (edgesR (normV b)) false fun x hx => h x (hmem x (.inr hx))]
  obtain ⟨h1, h2⟩ := mkR_all (mrgE_rise n fa.drop fb.drop) hlen hdet
  exact makeV_unique h1 fun s => by
    rw [show restE n (edgesR (normV a)) (edgesR (normV b)) (some []) = [] :: mrgE n (dropE [] (edgesR (normV a))) (dropE [] (edgesR (normV b))) from rfl, h2, hf]; rfl
end Go.Proofs.Ytohdncmlmpnfbaa

/-
  Layer 7 (span): which of two ranges ends ahead.
-/
namespace Go.Proofs.Ytohdncmlmpnfbaa
open Go.RowKit

end Go.Proofs.Ytohdncmlmpnfbaa

/-
  Layer 8 (ranges), the program: is there a text between two; is a list right; which texts it has; are two lists the same, range by range.
-/
namespace Go.Proofs.Ytohdncmlmpnfbaa
open Go.RowKit

theorem rg_apart (r t : Rng) (S T U V : ByteArray) (o p v : Bool) (hr : IsR r S T o) (ht : IsR t U V p) (hv : gapR r t = v) (w : World) :
    Calls Try.prog 42 #[.agg #[.string S, .string T, .bool o], .agg #[.string U, .string V, .bool p]] w fun e w' => e = .returned (.bool v) ∧ Below w.heap.size w w' := by
  obtain ⟨-, h2, h3⟩ := hr
  obtain ⟨h4, -, -⟩ := ht
  obtain ⟨x, hx, hx1, -⟩ := cmp_test r.hi t.lo
  have C := fun w => Lib.hid (cmp_is r.hi t.lo T U h2 h4 x hx w)
  unfold gapR at hv
  rw [← hx1, h3] at hv
  clear hx hx1 h2 h3 h4
  obtain ⟨d, hd⟩ : ∃ d, decide (x < 0) = d := ⟨_, rfl⟩
  rw [hd] at hv
  subst hv
  cases o <;> cases d
  all_goals
    go_enter Try.func42, Try.ntmps42
    go_wp2_with ((with_reducible refine (C _).out.mono ?_); rintro e w' ⟨rfl, rfl⟩)
    go_ret
    exact ⟨rfl, ((Below.refl _ _).alloc (Nat.le_refl _) _).alloc (by simp) _⟩
end Go.Proofs.Ytohdncmlmpnfbaa

/-
  Layer 8 (ranges), the program: is a list right.
-/
namespace Go.Proofs.Ytohdncmlmpnfbaa
open Go.RowKit

set_option maxHeartbeats 1000000 in
theorem rgs_right (A : Option Addr) (c n : Nat) (l : List Rng) (hn : n = l.length) (v : Bool) (hv : rightL l = v) (w : World) (hr : kRng.Rd w w.heap.size A c l) :
    Calls Try.prog 22 #[.slice A n c] w fun e w' => e = .returned (.bool v) ∧ Below w.heap.size w w' := by
  have HN := Lib.hid hn
  have HR := Lib.hid hr
  have hmx : n ≤ 9223372036854775807 := rd_max hr hn
  have hcx : n ≤ c := by rw [hn]; exact hr.room
  subst hv
  clear hn hr
  go_enter Try.func22, Try.ntmps22
  go_wp2_with fail
  go_loopw [7] (fun i wr => ∃ k : Nat, k ≤ n ∧ Hid (rightL l = rightF (prevR l k) (l.drop k)) ∧ i = .int .i64 k ∧ Below w.heap.size w wr) (fun i _ => n - (intOf i).toNat)
  case atStart => exact ⟨0, by omega, (rightF_none l).symm, rfl, Below.refl _ _⟩
  case round =>
    obtain ⟨k, hk, HL, rfl, hb⟩ := hrel
    by_cases hlt : k < n
    · obtain ⟨r, hg, hd, -⟩ := get_some (l := l) (k := k) (by have := HN.out; omega)
      have HR1 := Lib.hid (HR.out.below hb)
      obtain ⟨b, o, rfl, hb1, hcell⟩ := rngs_at HR1.out (by have := HN.out; omega)
      obtain ⟨c0, c1, c2⟩ := hcell k r hg
      obtain ⟨d, hdv⟩ : ∃ d, rightR r = d := ⟨_, rfl⟩
      have C := fun w => (span_right r _ _ _ d (IsR.mk' r) hdv w)
      have hbl := Nat.lt_of_lt_of_le hb1 hb.size
      obtain ⟨S, hS⟩ : ∃ S, str r.lo = S := ⟨_, rfl⟩
      obtain ⟨T, hT⟩ : ∃ T, str r.hi = T := ⟨_, rfl⟩
      obtain ⟨q, hq⟩ : ∃ q, r.op = q := ⟨_, rfl⟩
      have HG := rgAt_new wr S T q 49
      have HB1 := hb.alloc hb.size (.cells #[.string S, .string T, .bool q] 49)
      have HC : Hid (CellL w [(⟨wr.heap.size, 0, none⟩, .string S), (⟨wr.heap.size, 1, none⟩, .string T), (⟨wr.heap.size, 2, none⟩, .bool q)] (wr.alloc (.cells #[.string S, .string T, .bool q] 49))) := ⟨HG.1, HG.2.1, HG.2.2.1, HB1⟩
      rw [hS, hT, hq] at C
      rw [hS] at c0
      rw [hT] at c1
      rw [hq] at c2
      cases d
      · have HL2 := Lib.hid (HL.out.trans (show rightF (prevR l k) (l.drop k) = false by rw [hd]; cases prevR l k <;> simp [rightF, hdv]))
        have C := Lib.hid (fun L => cellL_of (a := w) (l := L) C)
        clear hcell hg hd hdv hS hT hq HG HB1
        go_wp2_with fail
        clear c0 c1 c2
        refine q_region (CellL w [(⟨wr.heap.size, 0, none⟩, .string S), (⟨wr.heap.size, 1, none⟩, .string T), (⟨wr.heap.size, 2, none⟩, .bool q)]) (by kernel_rfl) (by kernel_rfl) (cellL_drew HC.out) ?_
        repeat (first
          | go_big_quiet_skip
          | (go_big_quiet_want; (first
            | (refine q_take (v := ?_) ?_ ?_; rotate_left; (focus (intro w hSw; (try simp only [CellL] at hSw); go_split_ands; go_simp; (try (rw [if_neg (by omega)])); (try with_reducible rfl); done)))
            | (refine q_call (C.out _) ?_ ?_; (focus (intro w hSw; (try simp only [CellL] at hSw); go_split_ands; go_simp; (try (rw [if_neg (by omega)])); done)))); (try simp only [Act.put, List.setIfInBounds_toArray, List.set_cons_zero, List.set_cons_succ]); go_big_quiet_on))
        refine wpQuiet_nil ?_
        intro w2 hw2
        go_wp2_with fail
        go_ret
        exact ⟨ret_bool HL2.out.symm, cellL_size hw2⟩
      · have C := Lib.hid (fun L => cellL_of (a := w) (l := L) C)
        cases k with
        | zero =>
          have HL2 := Lib.hid (HL.out.trans (show rightF (prevR l 0) (l.drop 0) = rightF (prevR l 1) (l.drop 1) by rw [hd]; show rightF none _ = rightF l[0]? _; rw [hg]; simp [rightF, hdv]))
          clear hcell hg hd hdv hS hT hq HG HB1
          simp only [Nat.zero_mul, Nat.add_zero] at c0 c1 c2
          go_wp2_with fail
          clear c0 c1 c2
          refine q_region (CellL w [(⟨wr.heap.size, 0, none⟩, .string S), (⟨wr.heap.size, 1, none⟩, .string T), (⟨wr.heap.size, 2, none⟩, .bool q)]) (by kernel_rfl) (by kernel_rfl) (cellL_drew HC.out) ?_
          repeat (first
            | go_big_quiet_skip
            | (go_big_quiet_want; (first
              | (refine q_take (v := ?_) ?_ ?_; rotate_left; (focus (intro w hSw; (try simp only [CellL] at hSw); go_split_ands; go_simp; (try (rw [if_neg (by omega)])); (try with_reducible rfl); done)))
              | (refine q_call (C.out _) ?_ ?_; (focus (intro w hSw; (try simp only [CellL] at hSw); go_split_ands; go_simp; (try (rw [if_neg (by omega)])); done)))); (try simp only [Act.put, List.setIfInBounds_toArray, List.set_cons_zero, List.set_cons_succ]); go_big_quiet_on))
          refine wpQuiet_nil ?_
          intro w2 hw2
          go_wp2_with fail
          go_roundw
          case rel => exact ⟨1, by omega, HL2, rfl, cellL_size hw2⟩
          case measure => simp [intOf]; omega
        | succ j =>
          obtain ⟨p, hp, -, -⟩ := get_some (l := l) (k := j) (by have := HN.out; omega)
          obtain ⟨p0, p1, p2⟩ := hcell j p hp
          obtain ⟨x, hx⟩ : ∃ x, gapR p r = x := ⟨_, rfl⟩
          have CA := fun w => (rg_apart p r _ _ S T _ q x (IsR.mk' p) ⟨hS, hT, hq⟩ hx w)
          have CA := Lib.hid (fun L => cellL_of (a := w) (l := L) CA)
          have HL2 := Lib.hid (HL.out.trans (show rightF (prevR l (j + 1)) (l.drop (j + 1)) = (x && rightF (prevR l (j + 2)) (l.drop (j + 2))) by rw [hd]; show rightF l[j]? _ = (_ && rightF l[j + 1]? _); rw [hp, hg]; simp [rightF, hdv, hx]))
          obtain ⟨U, hU⟩ : ∃ U, str p.lo = U := ⟨_, rfl⟩
          obtain ⟨V, hV⟩ : ∃ V, str p.hi = V := ⟨_, rfl⟩
          obtain ⟨m, hm⟩ : ∃ m, p.op = m := ⟨_, rfl⟩
          rw [hU, hV, hm] at CA
          rw [hU] at p0
          rw [hV] at p1
          rw [hm] at p2
          have HW := alloc_keeps wr (.cells #[.string S, .string T, .bool q] 49)
          have HC2 : Hid (CellL w [(⟨wr.heap.size, 0, none⟩, .string S), (⟨wr.heap.size, 1, none⟩, .string T), (⟨wr.heap.size, 2, none⟩, .bool q), (⟨b, o + j * 3, none⟩, .string U), (⟨b, o + j * 3 + 1, none⟩, .string V), (⟨b, o + j * 3 + 2, none⟩, .bool m)] (wr.alloc (.cells #[.string S, .string T, .bool q] 49))) := ⟨HG.1, HG.2.1, HG.2.2.1, (HW _ _ hbl).trans p0, (HW _ _ hbl).trans p1, (HW _ _ hbl).trans p2, HB1⟩
          have hj1 : (0 : Int) < (j : Int) + 1 := by omega
          have hjd : decide ((0 : Int) < (j : Int) + 1) = true := decide_eq_true hj1
          have hjn : (j : Int) < (n : Int) := by omega
          have hj0 : (0 : Int) ≤ (j : Int) := by omega
          have hjw : IntKind.i64.wrap ((j : Int) + 1 - 1) = (j : Int) := by rw [Int.add_sub_cancel]; exact IntWalk.i64_in _ (by omega)
          have hjw2 : IntKind.i64.wrap (j : Int) = (j : Int) := IntWalk.i64_in _ (by omega)
          have HJW := Lib.hid (And.intro hjw hjw2)
          clear hcell hg hd hdv hS hT hq HG HB1 hp hx hU hV hm HC HW p0 p1 p2 hjw hjw2
          cases x
          all_goals
            go_wp2_with fail
            clear c0 c1 c2
            obtain ⟨hjw, hjw2⟩ := HJW.out
            refine q_region (CellL w [(⟨wr.heap.size, 0, none⟩, .string S), (⟨wr.heap.size, 1, none⟩, .string T), (⟨wr.heap.size, 2, none⟩, .bool q), (⟨b, o + j * 3, none⟩, .string U), (⟨b, o + j * 3 + 1, none⟩, .string V), (⟨b, o + j * 3 + 2, none⟩, .bool m)]) (by kernel_rfl) (by kernel_rfl) (cellL_drew HC2.out) ?_
            repeat (first
              | go_big_quiet_skip
              | (go_big_quiet_want; (first
                | (refine q_take (v := ?_) ?_ ?_; rotate_left; (focus (intro w hSw; (try simp only [CellL] at hSw); go_split_ands; go_simp; (try (rw [if_neg (by omega)])); (try with_reducible rfl); done)))
                | (refine q_call (C.out _) ?_ ?_; (focus (intro w hSw; (try simp only [CellL] at hSw); go_split_ands; go_simp; (try (rw [if_neg (by omega)])); done)))
                | (refine q_call (CA.out _) ?_ ?_; (focus (intro w hSw; (try simp only [CellL] at hSw); go_split_ands; go_simp; (try (rw [if_neg (by omega)])); done)))); (try simp only [Act.put, List.setIfInBounds_toArray, List.set_cons_zero, List.set_cons_succ]); go_big_quiet_on))
            clear hjw hjw2
            refine wpQuiet_nil ?_
            intro w2 hw2
            go_wp2_with fail
          · go_ret
            exact ⟨ret_bool HL2.out.symm, cellL_size hw2⟩
          · go_roundw
            case rel => exact ⟨j + 2, by omega, HL2, by go_num, cellL_size hw2⟩
            case measure => simp [intOf]; omega
    · have HL2 := Lib.hid (HL.out.trans (show rightF (prevR l k) (l.drop k) = true by rw [List.drop_eq_nil_of_le (by have := HN.out; omega)]; cases prevR l k <;> rfl))
      go_wp2_with fail
      go_ret
      exact ⟨ret_bool HL2.out.symm, hb⟩
end Go.Proofs.Ytohdncmlmpnfbaa

/-
  Plain facts on filters, as the program goes through them: the range of a node by itself, and what a list comes to, node by node, with what stands open. No program in this text.
-/
namespace Go.Proofs.Ytohdncmlmpnfbaa

/-- The range of a node that takes no kids. -/
def ownR (n : Nd) : Rng :=
  if n.op = 1 then allR else if n.op = 3 then prefixR n.lo else if n.op = 4 then ⟨n.lo, n.hi, false⟩ else if n.op = 5 then ⟨n.lo, n.hi, true⟩ else zeroR
theorem prefixR_rightV (p : List UInt8) : rightR (prefixR p) = decide (p.length ≤ 16) := by
  by_cases h : p.length ≤ 16
  · rw [decide_eq_true h, prefixR_right h]
  · rw [decide_eq_false h, prefixR_long (by omega)]; rfl
theorem own_leaf {n : Nd} (h1 : n.op ≠ 6) (h2 : n.op ≠ 7) (h3 : n.op ≠ 8) (hn : nodeV n = true) (ks : List TxtP) (s : List UInt8) : hasR (ownR n) s = valN n ks s := by
  cases hr : leafR n with
  | some r =>
    obtain ⟨hrr, hv⟩ := det_leaf hn hr
    rw [hv]
    unfold leafR at hr
    unfold ownR
    by_cases h3 : n.op = 3
    · rw [if_pos h3] at hr
      injection hr with hr
      rw [if_neg (by omega), if_pos h3, hr]
    · rw [if_neg h3] at hr
      by_cases h4 : n.op = 4
      · rw [if_pos h4] at hr
        injection hr with hr
        rw [if_neg (by omega), if_neg h3, if_pos h4, hr]
      · rw [if_neg h4] at hr
        by_cases h5 : n.op = 5
        · rw [if_pos h5] at hr
          injection hr with hr
          rw [if_neg (by omega), if_neg h3, if_neg h4, if_pos h5, ← hr]
          have hn5 : n.hi = [] := by
            unfold nodeV at hn
            rw [if_neg (by omega), if_neg h3, if_neg h4, if_pos h5] at hn
            simp only [Bool.and_eq_true, List.isEmpty_iff] at hn
            exact hn.2.2
          rw [hn5]
        · rw [if_neg h5] at hr; cases hr
  | none =>
    have ho := nodeV_op hn
    unfold leafR at hr
    have h3 : n.op ≠ 3 := fun h => by rw [if_pos h] at hr; cases hr
    rw [if_neg h3] at hr
    have h4 : n.op ≠ 4 := fun h => by rw [if_pos h] at hr; cases hr
    rw [if_neg h4] at hr
    have h5 : n.op ≠ 5 := fun h => by rw [if_pos h] at hr; cases hr
    unfold ownR valN
    by_cases h1 : n.op = 1
    · rw [if_pos h1, if_pos h1, hasR_all]
    · rw [if_neg h1, if_neg h3, if_neg h4, if_neg h5, if_neg h1, if_neg h3, if_neg h4, if_neg h5, if_neg (by omega), if_neg (by omega), if_neg (by omega)]; rfl

/-- What a list of nodes comes to: f tells it of each node, and of what its kids came to; the first of what stands open first. -/
def foldG {T : Type} (f : Nd → List T → T) : List Nd → List T → List T
  | [], st => st
  | n :: l, st => foldG f l (st.take (st.length - kidsN n) ++ [f n (st.drop (st.length - kidsN n))])
theorem foldG_cons {T : Type} (f : Nd → List T → T) (n : Nd) (l : List Nd) (st : List T) {m : Nat} (h : st.length - kidsN n = m) : foldG f (n :: l) st = foldG f l (st.take m ++ [f n (st.drop m)]) := by subst h; rfl
/-- Where the next node finds its kids. -/
theorem dep_step {n : Nd} {l : List Nd} {d e : Nat} (h : depV (n :: l) d = some e) : nodeV n = true ∧ kidsN n ≤ d ∧ depV l (d - kidsN n + 1) = some e := by
  by_cases hn : nodeV n = true ∧ kidsN n ≤ d
  · rw [depV_node hn.1 hn.2] at h; exact ⟨hn.1, hn.2, h⟩
  · have h' : nodeV n = false ∨ ¬ kidsN n ≤ d := by
      cases hm : nodeV n with
      | false => exact .inl rfl
      | true => exact .inr fun hk => hn ⟨hm, hk⟩
    rw [depV_wrong h'] at h; cases h
theorem foldG_len {T : Type} (f : Nd → List T → T) : ∀ (l : List Nd) (st : List T) (e : Nat), depV l st.length = some e → (foldG f l st).length = e
  | [], st, e, h => by injection h
  | n :: l, st, e, h => by
    obtain ⟨_, h2, h3⟩ := dep_step h
    rw [foldG]
    refine foldG_len f l _ e ?_
    rw [List.length_append, List.length_take, List.length_singleton, Nat.min_eq_left (by omega)]
    exact h3
/-- What each of those that stand open keeps. -/
theorem foldG_all {T : Type} (f : Nd → List T → T) (C : T → Prop) : ∀ (l : List Nd) (st : List T) (e : Nat), (∀ n ∈ l, nodeV n = true → ∀ ks, ks.length = kidsN n → (∀ k ∈ ks, C k) → C (f n ks)) → (∀ k ∈ st, C k) → depV l st.length = some e → ∀ k ∈ foldG f l st, C k
  | [], _, _, _, hs, _ => hs
  | n :: l, st, e, hf, hs, h => by
    obtain ⟨h1, h2, h3⟩ := dep_step h
    rw [foldG]
    refine foldG_all f C l _ e (fun m hm => hf m (List.mem_cons_of_mem _ hm)) (fun k hk => ?_) (by rw [List.length_append, List.length_take, List.length_singleton, Nat.min_eq_left (by omega)]; exact h3)
    rcases List.mem_append.1 hk with hk | hk
    · exact hs k (List.mem_of_mem_take hk)
    · rw [List.mem_singleton] at hk
      subst hk
      exact hf n (List.mem_cons_self ..) h1 _ (by rw [List.length_drop]; omega) fun k hk => hs k (List.mem_of_mem_drop hk)
theorem foldG_map {T U : Type} (f : Nd → List T → T) (g : Nd → List U → U) (p : T → U) (hp : ∀ n ks, p (f n ks) = g n (ks.map p)) : ∀ (l : List Nd) (st : List T), (foldG f l st).map p = foldG g l (st.map p)
  | [], _ => rfl
  | n :: l, st => by
    rw [foldG, foldG, foldG_map f g p hp l, List.map_append, List.map_take, List.map_cons, List.map_nil, hp, List.map_drop, List.length_map]
/-- With texts told, it is what the document says. -/
theorem foldG_ev : ∀ (l : List Nd) (st : List TxtP) (e : Nat), depV l st.length = some e → (foldG (fun n ks => valN n ks.reverse) l st).reverse = evV l st.reverse
  | [], _, _, _ => rfl
  | n :: l, st, e, h => by
    obtain ⟨h1, h2, h3⟩ := dep_step h
    have e1 : st.reverse.take (kidsN n) = (st.drop (st.length - kidsN n)).reverse := by rw [List.take_reverse]
    have e2 : st.reverse.drop (kidsN n) = (st.take (st.length - kidsN n)).reverse := by rw [List.drop_reverse]
    rw [foldG, evV, foldG_ev l _ e (by rw [List.length_append, List.length_take, List.length_singleton, Nat.min_eq_left (by omega)]; exact h3), e1, e2, List.reverse_append, List.reverse_singleton]
    rfl
/-- What is told of each value, against the document's word. -/
theorem foldG_right {T : Type} (f : Nd → List T → T) (C : T → TxtP → Prop) {l : List Nd} (hl : rightN l = true)
    (hf : ∀ n ∈ l, nodeV n = true → ∀ ks : List (T × TxtP), ks.length = kidsN n → (∀ k ∈ ks, C k.1 k.2) → C (f n (ks.map (·.1))) (valN n (ks.map (·.2)).reverse)) :
    ∃ x, foldG f l [] = [x] ∧ C x (topV l) := by
  obtain ⟨_, _, h3⟩ := rightN_iff.1 hl
  let g : Nd → List (T × TxtP) → T × TxtP := fun n ks => (f n (ks.map (·.1)), valN n (ks.map (·.2)).reverse)
  have e1 : (foldG g l []).map (·.1) = foldG f l [] := foldG_map g f (·.1) (fun n ks => rfl) l []
  have e2 : (foldG g l []).map (·.2) = foldG (fun n ks => valN n ks.reverse) l [] := foldG_map g (fun n ks => valN n ks.reverse) (·.2) (fun n ks => rfl) l []
  have e3 := foldG_ev l [] 1 h3
  have hc := foldG_all g (fun k => C k.1 k.2) l [] 1 hf (fun k hk => by cases hk) h3
  have hlen := foldG_len g l [] 1 h3
  match hg : foldG g l [], hlen with
  | [k], _ =>
    rw [hg] at e1 e2 hc
    refine ⟨k.1, e1.symm, ?_⟩
    rw [← e2] at e3
    have : topV l = k.2 := by
      unfold topV stkV
      rw [show evV l [] = evV l ([] : List TxtP).reverse from rfl, ← e3]; rfl
    rw [this]
    exact hc k (List.mem_singleton.2 rfl)

/-! Whether it has a text. -/
/-- What a node comes to, of what its kids came to. -/
def boolN (s : List UInt8) (n : Nd) (ks : List Bool) : Bool :=
  if n.op = 6 then !(ks.headD false) else if n.op = 7 then !ks.contains false else if n.op = 8 then ks.contains true else hasR (ownR n) s
theorem all_contains (ks : List TxtP) (s : List UInt8) : (ks.all fun k => k s) = !(ks.map fun k => k s).contains false := by
  induction ks with
  | nil => rfl
  | cons k ks ih =>
    rw [List.all_cons, List.map_cons, List.contains_cons, Bool.not_or, ih]
    cases k s <;> rfl
theorem any_contains (ks : List TxtP) (s : List UInt8) : (ks.any fun k => k s) = (ks.map fun k => k s).contains true := by
  induction ks with
  | nil => rfl
  | cons k ks ih =>
    rw [List.any_cons, List.map_cons, List.contains_cons, ih]
    cases k s <;> rfl
theorem nodeV_not {n : Nd} (hn : nodeV n = true) (h : n.op = 6) : kidsN n = 1 := by
  unfold nodeV at hn
  rw [if_neg (by omega), if_neg (by omega), if_neg (by omega), if_neg (by omega)] at hn
  simp only [Bool.and_eq_true, Bool.or_eq_true, decide_eq_true_eq] at hn
  unfold kidsN
  omega
theorem nodeV_some {n : Nd} (hn : nodeV n = true) (h : n.op = 7 ∨ n.op = 8) : 1 ≤ kidsN n := by
  unfold nodeV at hn
  rw [if_neg (by omega), if_neg (by omega), if_neg (by omega), if_neg (by omega)] at hn
  simp only [Bool.and_eq_true, Bool.or_eq_true, decide_eq_true_eq] at hn
  unfold kidsN
  omega
theorem boolN_val {n : Nd} (hn : nodeV n = true) (s : List UInt8) (ks : List (Bool × TxtP)) (hk : ks.length = kidsN n) (hc : ∀ k ∈ ks, k.1 = k.2 s) : boolN s n (ks.map (·.1)) = valN n (ks.map (·.2)).reverse s := by
  have e : ks.map (·.1) = (ks.map (·.2)).map fun k => k s := by
    rw [List.map_map]
    exact List.map_congr_left fun k hk => hc k hk
  unfold boolN
  by_cases h6 : n.op = 6
  · have h1 := nodeV_not hn h6
    rw [h1] at hk
    match ks, hk, hc with
    | [k], _, hc =>
      rw [if_pos h6]
      unfold valN
      rw [if_neg (by omega), if_neg (by omega), if_neg (by omega), if_neg (by omega), if_pos h6]
      have := hc k (List.mem_singleton.2 rfl)
      simp [this]
  · rw [if_neg h6]
    by_cases h7 : n.op = 7
    · rw [if_pos h7, e, ← all_contains]
      unfold valN
      rw [if_neg (by omega), if_neg (by omega), if_neg (by omega), if_neg (by omega), if_neg h6, if_pos h7, List.all_reverse]
    · rw [if_neg h7]
      by_cases h8 : n.op = 8
      · rw [if_pos h8, e, ← any_contains]
        unfold valN
        rw [if_neg (by omega), if_neg (by omega), if_neg (by omega), if_neg (by omega), if_neg h6, if_neg h7, if_pos h8, List.any_reverse]
      · rw [if_neg h8, own_leaf h6 h7 h8 hn]
theorem fold_match {l : List Nd} (hl : rightN l = true) (s : List UInt8) : foldG (boolN s) l [] = [matchN l s] := by
  obtain ⟨x, h1, h2⟩ := foldG_right (boolN s) (fun b p => b = p s) hl fun n _ hn ks hk hc => boolN_val hn s ks hk hc
  rw [h1, h2]
  unfold matchN
  rw [hl, Bool.true_and]

/-! Its list of ranges. -/
/-- What two lists make, of all of them. -/
def togL (op : Int) : List (List Rng) → List Rng
  | [] => []
  | a :: l => l.foldl (makeV op) a
def listN (n : Nd) (ks : List (List Rng)) : List Rng :=
  if n.op = 6 then notV (ks.headD []) else if n.op = 7 then togL 2 ks else if n.op = 8 then togL 1 ks else normV [ownR n]
/-- A right list that turns at no other texts than these. -/
def OkL (E : List (List UInt8)) (l : List Rng) : Prop := rightL l = true ∧ Det (hasL l) E
theorem tog_ok (op : Int) (E : List (List UInt8)) (g : List UInt8 → List TxtP → Bool) : ∀ (l : List (List Rng)) (a : List Rng), OkL E a → (∀ k ∈ l, OkL E k) → OkL E (l.foldl (makeV op) a)
  | [], a, ha, _ => ha
  | b :: l, a, ha, hl => by
    rw [List.foldl_cons]
    refine tog_ok op E g l _ ⟨makeV_right _ _ _, fun s c h => ?_⟩ fun k hk => hl k (List.mem_cons_of_mem _ hk)
    rw [makeV_has, makeV_has, ha.2 s c h, (hl b (List.mem_cons_self ..)).2 s c h]
theorem tog_and : ∀ (l : List (List Rng)) (a : List Rng) (s : List UInt8), hasL (l.foldl (makeV 2) a) s = (hasL a s && l.all fun k => hasL k s)
  | [], a, s => by simp
  | b :: l, a, s => by rw [List.foldl_cons, tog_and l, makeV_has, gV2, List.all_cons, Bool.and_assoc]
theorem tog_or : ∀ (l : List (List Rng)) (a : List Rng) (s : List UInt8), hasL (l.foldl (makeV 1) a) s = (hasL a s || l.any fun k => hasL k s)
  | [], a, s => by simp
  | b :: l, a, s => by rw [List.foldl_cons, tog_or l, makeV_has, gV1, List.any_cons, Bool.or_assoc]
theorem listN_ok {E : List (List UInt8)} {n : Nd} (hn : nodeV n = true) (hE : ∀ r, leafR n = some r → Det (hasR r) E) (ks : List (List Rng × TxtP)) (hk : ks.length = kidsN n) (hc : ∀ k ∈ ks, OkL E k.1 ∧ ∀ s, hasL k.1 s = k.2 s) :
    OkL E (listN n (ks.map (·.1))) ∧ ∀ s, hasL (listN n (ks.map (·.1))) s = valN n (ks.map (·.2)).reverse s := by
  have key : rightL (listN n (ks.map (·.1))) = true ∧ ∀ s, hasL (listN n (ks.map (·.1))) s = valN n (ks.map (·.2)).reverse s := by
    unfold listN
    by_cases h6 : n.op = 6
    · have h1 := nodeV_not hn h6
      rw [h1] at hk
      match ks, hk, hc with
      | [k], _, hc =>
        rw [if_pos h6]
        refine ⟨makeV_right _ _ _, fun s => ?_⟩
        unfold valN
        rw [if_neg (by omega), if_neg (by omega), if_neg (by omega), if_neg (by omega), if_pos h6]
        have := (hc k (List.mem_singleton.2 rfl)).2 s
        simp [notV_has, this]
    · rw [if_neg h6]
      by_cases h7 : n.op = 7
      · have h1 := nodeV_some hn (.inl h7)
        rw [if_pos h7]
        match ks, hk, hc with
        | [], hk, _ => simp at hk; omega
        | k :: ks, _, hc =>
          rw [List.map_cons, togL]
          refine ⟨(tog_ok 2 E (fun _ _ => true) _ _ (hc k (List.mem_cons_self ..)).1 fun m hm => ?_).1, fun s => ?_⟩
          · obtain ⟨q, hq, rfl⟩ := List.mem_map.1 hm
            exact (hc q (List.mem_cons_of_mem _ hq)).1
          · rw [tog_and]
            unfold valN
            rw [if_neg (by omega), if_neg (by omega), if_neg (by omega), if_neg (by omega), if_neg h6, if_pos h7, List.all_reverse, List.map_cons, List.all_cons, (hc k (List.mem_cons_self ..)).2 s, List.all_map, List.all_map]
            congr 1
            rw [Bool.eq_iff_iff, List.all_eq_true, List.all_eq_true]
            constructor
            · intro h q hq; have := h q hq; simp only [Function.comp] at this ⊢; rw [← (hc q (List.mem_cons_of_mem _ hq)).2 s]; exact this
            · intro h q hq; have := h q hq; simp only [Function.comp] at this ⊢; rw [(hc q (List.mem_cons_of_mem _ hq)).2 s]; exact this
      · rw [if_neg h7]
        by_cases h8 : n.op = 8
        · have h1 := nodeV_some hn (.inr h8)
          rw [if_pos h8]
          match ks, hk, hc with
          | [], hk, _ => simp at hk; omega
          | k :: ks, _, hc =>
            rw [List.map_cons, togL]
            refine ⟨(tog_ok 1 E (fun _ _ => true) _ _ (hc k (List.mem_cons_self ..)).1 fun m hm => ?_).1, fun s => ?_⟩
            · obtain ⟨q, hq, rfl⟩ := List.mem_map.1 hm
              exact (hc q (List.mem_cons_of_mem _ hq)).1
            · rw [tog_or]
              unfold valN
              rw [if_neg (by omega), if_neg (by omega), if_neg (by omega), if_neg (by omega), if_neg h6, if_neg h7, if_pos h8, List.any_reverse, List.map_cons, List.any_cons, (hc k (List.mem_cons_self ..)).2 s, List.any_map, List.any_map]
              congr 1
              rw [Bool.eq_iff_iff, List.any_eq_true, List.any_eq_true]
              constructor
              · rintro ⟨q, hq, h⟩; refine ⟨q, hq, ?_⟩; simp only [Function.comp] at h ⊢; rw [← (hc q (List.mem_cons_of_mem _ hq)).2 s]; exact h
              · rintro ⟨q, hq, h⟩; refine ⟨q, hq, ?_⟩; simp only [Function.comp] at h ⊢; rw [(hc q (List.mem_cons_of_mem _ hq)).2 s]; exact h
        · rw [if_neg h8]
          refine ⟨makeV_right _ _ _, fun s => ?_⟩
          rw [normV_has, hasL_cons, hasL_nil, Bool.or_false, own_leaf h6 h7 h8 hn]
  refine ⟨⟨key.1, ?_⟩, key.2⟩
  have : Det (valN n (ks.map (·.2)).reverse) E := det_val hn hE fun p hp => by
    obtain ⟨q, hq, rfl⟩ := List.mem_map.1 (List.mem_reverse.1 hp)
    intro s c h
    rw [← (hc q hq).2, ← (hc q hq).2]
    exact (hc q hq).1.2 s c h
  intro s c h
  rw [key.2, key.2]
  exact this s c h
def edgeN (l : List Nd) : List (List UInt8) := edgesL (leavesL l)
theorem leaf_det {l : List Nd} {n : Nd} (h : n ∈ l) (hn : nodeV n = true) {r : Rng} (hr : leafR n = some r) : Det (hasR r) (edgeN l) := by
  obtain ⟨h8, h9⟩ := edges_mem (leavesL l) [[]] (List.mem_filterMap.2 ⟨n, h, hr⟩) (det_leaf hn hr).1
  exact det_has h8 h9
/-- A right list that turns at no other texts than a filter's edges isn't longer than they are. -/
theorem okL_small {l : List Nd} {a : List Rng} (h : OkL (edgeN l) a) (hl : l.length ≤ 64) : SmallL 200 a := by
  obtain ⟨m, h4, h5, h6⟩ := edgesL_ok (leavesL l)
  have hd : Det (hasL a) ([] :: m) := by rw [← h4]; exact h.2
  have hm := mkR_all h5 h6 hd
  have e : a = mkR (hasL a) ([] :: m) none := rightL_unique h.1 hm.1 fun s => (hm.2 s).symm
  have h7 := mkR_len (hasL a) ([] :: m) none
  have h8 := edgesL_len (leavesL l)
  have h9 : (leavesL l).length ≤ l.length := List.length_filterMap_le _ _
  rw [h4] at h8
  rw [← e] at h7
  refine ⟨by omega, fun r hr => ?_⟩
  have hrr := rightL_all h.1 r hr
  have := rightR_lo hrr
  have := rightR_hi hrr
  omega
theorem fold_ranges {l : List Nd} (hl : rightN l = true) : foldG listN l [] = [rangesN l] := by
  obtain ⟨x, h1, h2, h3⟩ := foldG_right listN (fun a p => OkL (edgeN l) a ∧ ∀ s, hasL a s = p s) hl fun n hm hn ks hk hc => listN_ok hn (fun r hr => leaf_det hm hn hr) ks hk hc
  rw [h1]
  obtain ⟨h4, h5⟩ := rangesN_ok l
  have : x = rangesN l := rightL_unique h2.1 h4 fun s => by
    rw [h3, h5]
    unfold matchN
    rw [hl, Bool.true_and]
  rw [this]
/-- What stands open on the way keeps to it. -/
theorem open_ok {l : List Nd} {ks : List (List Rng)} {n : Nd} (hm : n ∈ l) (hn : nodeV n = true) (hk : ks.length = kidsN n) (hc : ∀ k ∈ ks, OkL (edgeN l) k) : OkL (edgeN l) (listN n ks) := by
  have := (listN_ok (E := edgeN l) hn (fun r hr => leaf_det hm hn hr) (ks.map fun k => (k, hasL k)) (by rw [List.length_map]; exact hk) (fun k hk => by
    obtain ⟨q, hq, rfl⟩ := List.mem_map.1 hk
    exact ⟨hc q hq, fun s => rfl⟩)).1
  rwa [List.map_map, show ((fun x : List Rng × TxtP => x.1) ∘ fun k => (k, hasL k)) = id from rfl, List.map_id] at this
end Go.Proofs.Ytohdncmlmpnfbaa

/-
  Layer 9 (filter), the program: the range of a node by itself; is a node right; is a filter right.
-/
namespace Go.Proofs.Ytohdncmlmpnfbaa
open Go.RowKit

theorem eq_nd_bare (O K k : Int) (S T : ByteArray) (x y z : Bool) (hx : (K == k) = x) (hy : (S.toList == []) = y) (hz : (T.toList == []) = z) (w : World) :
    (Op.equalIn 10000 51 (.agg #[.int .i64 O, .int .i64 K, .string S, .string T]) (.agg #[.int .i64 O, .int .i64 k, .string ⟨#[]⟩, .string ⟨#[]⟩])).run Try.prog w = .ok (x && y && z) w := by
  refine eq_nd _ _ _ _ _ _ _ _ _ ?_ w
  have e : (⟨#[]⟩ : ByteArray).toList = [] := str_toList []
  rw [e, hx, hy, hz, beq_self_eq_true, Bool.true_and]
set_option maxHeartbeats 1000000 in
theorem flt_own (n : Nd) (O K : Int) (S T : ByteArray) (hO : n.op = O) (hS : str n.lo = S) (hT : str n.hi = T) (hl : n.lo.length ≤ 1000000) (r : Rng) (hr : ownR n = r) (U V : ByteArray) (p : Bool) (h : IsR r U V p) (w : World) :
    Calls Try.prog 58 #[.agg #[.int .i64 O, .int .i64 K, .string S, .string T]] w fun e w' => e = .returned (.agg #[.string U, .string V, .bool p]) ∧ Below w.heap.size w w' := by
  have HB := Lib.hid (((Below.refl w.heap.size w).alloc (Nat.le_refl _) (.cells #[.int .i64 O, .int .i64 K, .string S, .string T] 51)).alloc (by simp) (.cells #[.string U, .string V, .bool p] 49))
  unfold ownR at hr
  rw [hO] at hr
  by_cases h1 : O = 1
  · rw [if_pos h1] at hr
    subst hr
    have C := fun w => Lib.hid (all_is U V p h w)
    subst h1
    clear hO hS hT h hl HB
    go_enter Try.func58, Try.ntmps58
    go_wp2_with ((with_reducible refine (C _).out.mono ?_); rintro e w' ⟨rfl, hb⟩; obtain ⟨hc, hf⟩ := bcell hb; replace hb := (((Below.refl w.heap.size w).alloc (Nat.le_refl _) _).alloc (by simp) _).trans (hb.mono (by simp; omega)))
    exact bodyPost_ret (v := .agg #[.string U, .string V, .bool p]) (by simp [results, Try.results58, go_sem, hc]) rfl ⟨rfl, below_set3 hb (Nat.le_succ _) _ _ _⟩
  · rw [if_neg h1] at hr
    have n1 : (O == 1) = false := beq_eq_false_iff_ne.2 h1
    by_cases h3 : O = 3
    · rw [if_pos h3] at hr
      have C := fun w => Lib.hid (span_prefix n.lo r S U V p hS hl hr h w)
      subst h3
      clear hO hS hT h hl hr HB h1
      go_enter Try.func58, Try.ntmps58
      go_wp2_with ((with_reducible refine (C _).out.mono ?_); rintro e w' ⟨rfl, hb⟩; obtain ⟨hc, hf⟩ := bcell hb; replace hb := (((Below.refl w.heap.size w).alloc (Nat.le_refl _) _).alloc (by simp) _).trans (hb.mono (by simp; omega)))
      exact bodyPost_ret (v := .agg #[.string U, .string V, .bool p]) (by simp [results, Try.results58, go_sem, hc]) rfl ⟨rfl, below_set3 hb (Nat.le_succ _) _ _ _⟩
    · rw [if_neg h3] at hr
      have n3 : (O == 3) = false := beq_eq_false_iff_ne.2 h3
      by_cases h4 : O = 4
      · rw [if_pos h4] at hr
        subst hr
        obtain ⟨hU, hV, rfl⟩ := h
        obtain rfl : S = U := hS.symm.trans hU
        obtain rfl : T = V := hT.symm.trans hV
        subst h4
        clear hO hS hT hl h1 h3 hU hV
        go_enter Try.func58, Try.ntmps58
        go_wp2_with fail
        exact bodyPost_ret (v := .agg #[.string S, .string T, .bool false]) (by simp [results, Try.results58, go_sem]) rfl ⟨rfl, HB.out⟩
      · rw [if_neg h4] at hr
        have n4 : (O == 4) = false := beq_eq_false_iff_ne.2 h4
        by_cases h5 : O = 5
        · rw [if_pos h5] at hr
          subst hr
          obtain ⟨hU, hV, rfl⟩ := h
          obtain rfl : S = U := hS.symm.trans hU
          obtain rfl : T = V := hT.symm.trans hV
          subst h5
          clear hO hS hT hl h1 h3 h4 hU hV
          go_enter Try.func58, Try.ntmps58
          go_wp2_with fail
          exact bodyPost_ret (v := .agg #[.string S, .string T, .bool true]) (by simp [results, Try.results58, go_sem]) rfl ⟨rfl, HB.out⟩
        · rw [if_neg h5] at hr
          have n5 : (O == 5) = false := beq_eq_false_iff_ne.2 h5
          subst hr
          obtain ⟨rfl, rfl, rfl⟩ := h
          clear hO hS hT hl h1 h3 h4 h5
          go_enter Try.func58, Try.ntmps58
          go_wp2_with fail
          exact bodyPost_ret (v := .agg #[.string ⟨#[]⟩, .string ⟨#[]⟩, .bool false]) (by simp [results, Try.results58, go_sem]) rfl ⟨rfl, HB.out⟩
theorem nodeV_own {n : Nd} (h : n.op = 4 ∨ n.op = 5) : nodeV n = ((n.kids == 0) && rightR (ownR n)) := by
  rcases h with h | h
  · rw [nodeV_4 h]; unfold ownR; rw [if_neg (by omega), if_neg (by omega), if_pos h]
  · rw [nodeV_5 h]; unfold ownR; rw [if_neg (by omega), if_neg (by omega), if_neg (by omega), if_pos h, rightR_open rfl]
theorem nodeV_pre {n : Nd} (h : n.op = 3) : nodeV n = ((n.kids == 0) && (n.hi.isEmpty && rightR (ownR n))) := by
  rw [nodeV_3 h]; unfold ownR; rw [if_neg (by omega), if_pos h, prefixR_rightV, Bool.and_comm (decide _)]
set_option maxHeartbeats 4000000 in
theorem flt_node (n : Nd) (O K : Int) (S T : ByteArray) (hO : n.op = O) (hK : n.kids = K) (hS : str n.lo = S) (hT : str n.hi = T) (hl : n.lo.length ≤ 1000000) (v : Bool) (hv : nodeV n = v) (w : World) :
    Calls Try.prog 47 #[.agg #[.int .i64 O, .int .i64 K, .string S, .string T]] w fun e w' => e = .returned (.bool v) ∧ Below w.heap.size w w' := by
  have HB := Lib.hid ((Below.refl w.heap.size w).alloc (Nat.le_refl _) (.cells #[.int .i64 O, .int .i64 K, .string S, .string T] 51))
  have eS := txt_empty hS
  have eT := txt_empty hT
  obtain ⟨vl, hvl⟩ : ∃ vl, n.lo.isEmpty = vl := ⟨_, rfl⟩
  obtain ⟨vh, hvh⟩ : ∃ vh, n.hi.isEmpty = vh := ⟨_, rfl⟩
  rw [hvl] at eS
  rw [hvh] at eT
  obtain ⟨k0, hk0⟩ : ∃ k0, (K == 0) = k0 := ⟨_, rfl⟩
  obtain ⟨r, hr⟩ : ∃ r, ownR n = r := ⟨_, rfl⟩
  obtain ⟨U, hU⟩ : ∃ U, str r.lo = U := ⟨_, rfl⟩
  obtain ⟨V, hV⟩ : ∃ V, str r.hi = V := ⟨_, rfl⟩
  obtain ⟨p, hp⟩ : ∃ p, r.op = p := ⟨_, rfl⟩
  obtain ⟨z, hz⟩ : ∃ z, rightR r = z := ⟨_, rfl⟩
  have CO := fun w => Lib.hid (flt_own n O K S T hO hS hT hl r hr U V p ⟨hU, hV, hp⟩ w)
  have CR := fun w => Lib.hid (span_right r U V p z ⟨hU, hV, hp⟩ hz w)
  clear hU hV hp hl
  by_cases h1 : O = 1 ∨ O = 2
  · have e := nodeV_12 (n := n) (by rw [hO]; exact h1)
    rw [hv, hvl, hvh, hK, hk0, ← Bool.and_assoc] at e
    have EQ := fun w => eq_nd_bare O K 0 S T k0 vl vh hk0 eS eT w
    clear hv hS hT hvl hvh hK hO CO CR hr hz hk0 eS eT
    rw [← e] at EQ
    clear e
    rcases h1 with rfl | rfl
    all_goals
      go_enter Try.func47, Try.ntmps47
      go_wp2_with fail
      go_ret
      exact ⟨rfl, HB.out⟩
  · have n1 : (O == 1) = false := beq_eq_false_iff_ne.2 fun e => h1 (.inl e)
    have n2 : (O == 2) = false := beq_eq_false_iff_ne.2 fun e => h1 (.inr e)
    by_cases h3 : O = 3
    · have e := nodeV_pre (n := n) (by rw [hO]; exact h3)
      rw [hv, hvh, hK, hk0, hr, hz] at e
      subst e
      clear hv hS hT hvl hvh hK hO eS h1 hr hz
      subst h3
      cases k0
      case' true =>
        cases vh
        case' true =>
          cases z
      all_goals
        go_enter Try.func47, Try.ntmps47
        go_wp2_with (first
          | ((with_reducible refine (CO _).out.mono ?_); rintro e w1 ⟨rfl, hq⟩; replace HB := Lib.hid (HB.out.trans (hq.mono (by simp))); clear hq)
          | ((with_reducible refine (CR _).out.mono ?_); rintro e w2 ⟨rfl, hq⟩; replace HB := Lib.hid (HB.out.trans (hq.mono HB.out.size)); clear hq))
        go_ret
        exact ⟨rfl, HB.out⟩
    · have n3 : (O == 3) = false := beq_eq_false_iff_ne.2 h3
      by_cases h4 : O = 4 ∨ O = 5
      · have e := nodeV_own (n := n) (by rw [hO]; exact h4)
        rw [hv, hK, hk0, hr, hz] at e
        subst e
        clear hv hS hT hvl hvh hK hO eS eT h1 hr hz h3
        rcases h4 with rfl | rfl
        all_goals
          cases k0
          case' true =>
            cases z
        all_goals
          go_enter Try.func47, Try.ntmps47
          go_wp2_with (first
            | ((with_reducible refine (CO _).out.mono ?_); rintro e w1 ⟨rfl, hq⟩; replace HB := Lib.hid (HB.out.trans (hq.mono (by simp))); clear hq)
            | ((with_reducible refine (CR _).out.mono ?_); rintro e w2 ⟨rfl, hq⟩; replace HB := Lib.hid (HB.out.trans (hq.mono HB.out.size)); clear hq))
          go_ret
          exact ⟨rfl, HB.out⟩
      · have n4 : (O == 4) = false := beq_eq_false_iff_ne.2 fun e => h4 (.inl e)
        have n5 : (O == 5) = false := beq_eq_false_iff_ne.2 fun e => h4 (.inr e)
        by_cases h6 : O = 6
        · have e := nodeV_6 (n := n) (by rw [hO]; exact h6)
          obtain ⟨k1, hk1⟩ : ∃ k1, (K == 1) = k1 := ⟨_, rfl⟩
          rw [hv, hvl, hvh, hK, hk1, ← Bool.and_assoc, Bool.and_comm, ← Bool.and_assoc] at e
          have EQ := fun w => eq_nd_bare O K 1 S T k1 vl vh hk1 eS eT w
          clear hv hS hT hvl hvh hK hO CO CR hr hz hk0 hk1 eS eT h1 h3 h4
          rw [← e] at EQ
          clear e
          subst h6
          go_enter Try.func47, Try.ntmps47
          go_wp2_with fail
          go_ret
          exact ⟨rfl, HB.out⟩
        · have n6 : (O == 6) = false := beq_eq_false_iff_ne.2 h6
          by_cases h7 : O = 7 ∨ O = 8
          · have e := nodeV_78 (n := n) (by rw [hO]; exact h7)
            obtain ⟨ka, hka⟩ : ∃ ka, decide (1 ≤ K) = ka := ⟨_, rfl⟩
            obtain ⟨kb, hkb⟩ : ∃ kb, decide (K ≤ 32) = kb := ⟨_, rfl⟩
            have EQ := fun w => eq_nd_bare O K K S T true vl vh (beq_self_eq_true K) eS eT w
            rw [hv, hvl, hvh, hK, hka, hkb] at e
            subst e
            clear hv hS hT hvl hvh hK hO CO CR hr hz hk0 eS eT h1 h3 h4 h6
            rcases h7 with rfl | rfl
            all_goals
              cases vl
              case' true =>
                cases vh
                case' true =>
                  cases ka
                  case' true =>
                    cases kb
            all_goals
              go_enter Try.func47, Try.ntmps47
              go_wp2_with fail
              go_ret
              exact ⟨rfl, HB.out⟩
          · have n7 : (O == 7) = false := beq_eq_false_iff_ne.2 fun e => h7 (.inl e)
            have n8 : (O == 8) = false := beq_eq_false_iff_ne.2 fun e => h7 (.inr e)
            have e := nodeV_no (n := n) (by rw [hO]; omega)
            rw [hv] at e
            subst e
            clear hv hS hT hvl hvh hK hO CO CR hr hz hk0 eS eT h1 h3 h4 h6 h7
            go_enter Try.func47, Try.ntmps47
            go_wp2_with fail
            go_ret
            exact ⟨rfl, HB.out⟩
set_option maxHeartbeats 1000000 in
theorem flt_right (A : Option Addr) (c n : Nat) (l : List Nd) (hn : n = l.length) (hl : ∀ r ∈ l, r.lo.length ≤ 1000000) (v : Bool) (hv : rightN l = v) (w : World) (hr : kNd.Rd w w.heap.size A c l) :
    Calls Try.prog 32 #[.slice A n c] w fun e w' => e = .returned (.bool v) ∧ Below w.heap.size w w' := by
  have HN := Lib.hid hn
  have HR := Lib.hid hr
  have HV := Lib.hid hv
  have HL := Lib.hid hl
  have hmx : n ≤ 9223372036854775807 := rd_max hr hn
  have hcx : n ≤ c := by rw [hn]; exact hr.room
  by_cases h32 : n ≤ 32
  · have HD : Hid (rightN l = (decide (1 ≤ n) && decide (depV l 0 = some 1))) := by
      unfold rightN
      rw [← hn, decide_eq_true h32, Bool.and_true]
      rfl
    clear hn hr hv hl
    go_enter Try.func32, Try.ntmps32
    go_wp2_with fail
    go_loopw [3, 11] (fun o i wr => ∃ k d : Nat, k ≤ n ∧ d ≤ k ∧ (0 < k → 0 < d) ∧ Hid (depV l 0 = depV (l.drop k) d) ∧ o = .int .i64 d ∧ i = .int .i64 k ∧ Below w.heap.size w wr) (fun _ i _ => n - (intOf i).toNat)
    case atStart => exact ⟨0, 0, by omega, by omega, by omega, rfl, rfl, rfl, Below.refl _ _⟩
    case round =>
      obtain ⟨k, d, hk, hd9, hd0, HE, rfl, rfl, hb⟩ := hrel
      by_cases hlt : k < n
      · obtain ⟨r, hg, hd, hrm⟩ := get_some (l := l) (k := k) (by have := HN.out; omega)
        obtain ⟨b, o, rfl, hb1, hcell⟩ := nds_at (HR.out.below hb) (by have := HN.out; omega)
        obtain ⟨c0, c1, c2, c3⟩ := hcell k r hg
        obtain ⟨x, hx⟩ : ∃ x, nodeV r = x := ⟨_, rfl⟩
        have C := fun w => Lib.hid (flt_node r _ _ _ _ rfl rfl rfl rfl (HL.out r hrm) x hx w)
        have hb2 := Nat.lt_of_lt_of_le hb1 hb.size
        obtain ⟨O, hO⟩ : ∃ O, r.op = O := ⟨_, rfl⟩
        obtain ⟨K, hK⟩ : ∃ K, r.kids = K := ⟨_, rfl⟩
        obtain ⟨S, hS⟩ : ∃ S, str r.lo = S := ⟨_, rfl⟩
        obtain ⟨T, hT⟩ : ∃ T, str r.hi = T := ⟨_, rfl⟩
        rw [hO, hK, hS, hT] at C
        rw [hO] at c0
        rw [hK] at c1
        rw [hS] at c2
        rw [hT] at c3
        have HB1 := Lib.hid (hb.alloc hb.size (.cells #[.int .i64 O, .int .i64 K, .string S, .string T] 51))
        cases x
        · have HF : Hid (false = v) := by
            have e := HV.out
            rw [HD.out, HE.out, hd, depV_wrong (.inl hx), decide_eq_false (p := none = some 1) (by simp), Bool.and_false] at e
            exact e
          clear hcell hg hd hO hK hS hT hx HE
          go_wp2_with ((with_reducible refine (C _).out.mono ?_); rintro e w2 ⟨rfl, hq⟩; have HB2 := Lib.hid (HB1.out.trans (hq.mono HB1.out.size)); clear hq)
          go_ret
          exact ⟨ret_bool HF.out, HB2.out⟩
        · obtain ⟨g0, g32⟩ := nodeV_kids hx
          rw [hK] at g0 g32
          obtain ⟨q, rfl⟩ : ∃ q : Nat, K = (q : Int) := ⟨K.toNat, by omega⟩
          have hq9 : q ≤ 32 := by omega
          have hkq : kidsN r = q := by unfold kidsN; rw [hK]; rfl
          by_cases hqd : q ≤ d
          · have HE2 := Lib.hid (HE.out.trans (show depV (l.drop k) d = depV (l.drop (k + 1)) (d - q + 1) by rw [hd, depV_node hx (by omega), hkq]))
            have t1 : decide (d < q) = false := decide_eq_false (by omega)
            have t2 : decide ((d : Int) < (q : Int)) = false := decide_eq_false (by omega)
            have hd32 : d ≤ 32 := by omega
            clear hcell hg hd hO hK hS hT hx HE hkq
            go_wp2_with ((with_reducible refine (C _).out.mono ?_); rintro e w2 ⟨rfl, hq⟩; have HB2 := Lib.hid (HB1.out.trans (hq.mono HB1.out.size)); obtain ⟨hc, hf⟩ := bcell hq; clear hq)
            go_roundw
            case rel => exact ⟨k + 1, d - q + 1, by omega, by omega, by omega, HE2, by go_num, by go_num, HB2.out⟩
            case measure => simp [intOf]; omega
          · have HF : Hid (false = v) := by
              have e := HV.out
              rw [HD.out, HE.out, hd, depV_wrong (.inr (by omega)), decide_eq_false (p := none = some 1) (by simp), Bool.and_false] at e
              exact e
            have t1 : decide (d < q) = true := decide_eq_true (by omega)
            have t2 : decide ((d : Int) < (q : Int)) = true := decide_eq_true (by omega)
            clear hcell hg hd hO hK hS hT hx HE hkq
            go_wp2_with ((with_reducible refine (C _).out.mono ?_); rintro e w2 ⟨rfl, hq⟩; have HB2 := Lib.hid (HB1.out.trans (hq.mono HB1.out.size)); obtain ⟨hc, hf⟩ := bcell hq; clear hq)
            go_ret
            exact ⟨ret_bool HF.out, HB2.out⟩
      · have HE2 := Lib.hid (HE.out.trans (show depV (l.drop k) d = some d by rw [List.drop_eq_nil_of_le (by have := HN.out; omega)]; rfl))
        have HF : Hid (((d : Int) == 1) = v) := by
          have e := HV.out
          rw [HD.out, HE2.out] at e
          rw [← e]
          by_cases h1 : d = 1
          · subst h1; rw [decide_eq_true (show 1 ≤ n by omega)]; rfl
          · rw [decide_eq_false (p := some d = some 1) (by simpa using h1), Bool.and_false]
            exact beq_eq_false_iff_ne.2 (by omega)
        clear HE
        go_wp2_with fail
        go_ret
        exact ⟨ret_bool HF.out, hb⟩
  · have HD : Hid (false = v) := by
      have e := HV.out
      unfold rightN at e
      rw [← hn, decide_eq_false h32, Bool.and_false, Bool.false_and] at e
      exact e
    clear hn hr hv hl
    go_enter Try.func32, Try.ntmps32
    go_wp2_with fail
    go_ret
    exact ⟨ret_bool HD.out, Below.refl _ _⟩
end Go.Proofs.Ytohdncmlmpnfbaa
