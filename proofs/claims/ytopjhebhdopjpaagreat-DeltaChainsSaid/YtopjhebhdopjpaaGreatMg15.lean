/-
  Several texts in one: KnwP, KnwQ, KnwR, KnwRst, KnwS, KnwT, Law08A, Law08B, Law08C, Law08D, Law08E, Law08F.
-/
import Derived.BigRegion
import Derived.Deep.RegionHeld3
import Derived.Deep.DeepCutAuto
import Derived.Test.YtopjhebhdopjpaaGreatMg14
namespace Go.Proofs.YtopjhebhdopjpaaGreat
open Go.RowKit

theorem pc_sizeOf : ∀ w, (sizeOf kPs.el).run Tryz.prog w = .ok kPs.size w := fun w => by kernel_rfl
theorem own_lastS {w : World} {base g n c D : Nat} {S : Nat → Prop} {dn : List Pc} {p : Pc} (h : dPc.Own w base S (.slice (some ⟨g, 0, none⟩) n c) (dn ++ [p])) (hn : n = (dn ++ [p]).length) (hD : dn.length = D) (x : List UInt8) (T : ByteArray) (hT : str x = T) (q : Bool) :
    dPc.Own ((w.setCell ⟨g, D * 4 + 1, none⟩ (.string T)).setCell ⟨g, D * 4 + 2, none⟩ (.bool q)) base S (.slice (some ⟨g, 0, none⟩) n c) (dn ++ [⟨⟨p.rng.lo, x, q⟩, p.set⟩]) := by
  subst hD hT
  obtain ⟨bs, h1, h2⟩ := h
  have hnb : n = bs.length := hn.trans h2.1.symm
  have hDl : dn.length < bs.length := by rw [h2.1, List.length_append, List.length_singleton]; omega
  obtain ⟨b, hb⟩ : ∃ b, bs[dn.length]? = some b := ⟨_, List.getElem?_eq_getElem hDl⟩
  have g1 : (dn ++ [p])[dn.length]? = some p := by rw [List.getElem?_append_right (Nat.le_refl _), Nat.sub_self]; rfl
  have hrel := h2.2 _ _ _ hb g1
  obtain ⟨e1, e2, e3⟩ := hrel
  have k1 := Kind.Own.stored (k := kPs) h1 (j := 1) (y := ⟨⟨b.rng.lo, x, b.rng.op⟩, b.A, b.n, b.c⟩) (v := .string (str x)) hnb hb (by decide) rfl
  have k2 := Kind.Own.stored (k := kPs) k1 (i := dn.length) (j := 2) (x := ⟨⟨b.rng.lo, x, b.rng.op⟩, b.A, b.n, b.c⟩) (y := ⟨⟨b.rng.lo, x, q⟩, b.A, b.n, b.c⟩) (v := .bool q) (by rw [hnb, List.length_set]) (by rw [List.getElem?_set_self hDl]) (by decide) rfl
  rw [List.set_set] at k2
  have hkeep : KeptS (fun g' => (S g' ∧ (Value.slice (some ⟨g, 0, none⟩) n c).ownBlock ≠ some g')) w ((w.setCell ⟨g, dn.length * 4 + 1, none⟩ (.string (str x))).setCell ⟨g, dn.length * 4 + 2, none⟩ (.bool q)) := fun a ha _ => by
    have hne : g ≠ a.block := fun e => ha.2 (by rw [← e]; rfl)
    rw [World.cell?_setCell_other _ _ _ _ (fun e => hne (by rw [← e])), World.cell?_setCell_other _ _ _ _ (fun e => hne (by rw [← e]))]
  have h3 := Deep.All.keep h2 hkeep
  refine ⟨_, k2, ?_, fun i b' a' hb' ha' => ?_⟩
  · rw [List.length_set, h2.1, List.length_append, List.length_append]; rfl
  · by_cases hi : i = dn.length
    · subst hi
      rw [List.getElem?_set_self hDl] at hb'
      rw [List.getElem?_append_right (Nat.le_refl _), Nat.sub_self] at ha'
      injection hb' with hb'
      injection ha' with ha'
      subst hb' ha'
      obtain ⟨f1, f2, f3⟩ := h3.2 _ _ _ hb g1
      exact ⟨by rw [f1], f2, f3⟩
    · rw [List.getElem?_set_ne (fun e => hi e.symm)] at hb'
      refine h3.2 i b' a' hb' ?_
      by_cases hl : i < dn.length
      · rw [List.getElem?_append_left hl] at ha' ⊢; exact ha'
      · rw [List.getElem?_append_right (by omega)] at ha'
        exfalso
        obtain ⟨m, hm⟩ : ∃ m, i - dn.length = m + 1 := ⟨i - dn.length - 1, by omega⟩
        rw [hm] at ha'
        cases ha'
theorem own_atS {w : World} {base n c D : Nat} {S : Nat → Prop} {A : Option Addr} {dq : List Pc} {p : Pc} (h : dPc.Own w base S (.slice A n c) (dq ++ [p])) (hn : n = (dq ++ [p]).length) (hD : dq.length = D) :
    ∃ (g : Nat) (A' : Option Addr) (n' c' : Nat) (T0 T : ByteArray) (q : Bool), A = some ⟨g, 0, none⟩ ∧ base ≤ g ∧ g < w.heap.size ∧ IsR p.rng T0 T q ∧ n' = p.set.length ∧ RdK w w.heap.size A' c' p.set ∧ w.cell? ⟨g, D * 4, none⟩ = some (.string T0) ∧ w.cell? ⟨g, D * 4 + 1, none⟩ = some (.string T) ∧ w.cell? ⟨g, D * 4 + 2, none⟩ = some (.bool q) ∧ w.cell? ⟨g, D * 4 + 3, none⟩ = some (.slice A' n' c') ∧ ∀ j, w.frozen? ⟨g, j, none⟩ = false := by
  subst hD
  obtain ⟨bs, h1, h2⟩ := h
  have hnb : n = bs.length := hn.trans h2.1.symm
  have hDl : dq.length < bs.length := by rw [h2.1, List.length_append, List.length_singleton]; omega
  obtain ⟨g, c', hv, -, hg1, hg2, hf, hc⟩ := h1.some_ hnb (by omega)
  injection hv with hA
  obtain ⟨b, hb⟩ : ∃ b, bs[dq.length]? = some b := ⟨_, List.getElem?_eq_getElem hDl⟩
  have g1 : (dq ++ [p])[dq.length]? = some p := by rw [List.getElem?_append_right (Nat.le_refl _), Nat.sub_self]; rfl
  obtain ⟨e1, e2, e3⟩ := h2.2 _ _ _ hb g1
  refine ⟨g, b.A, b.n, b.c, _, _, _, hA, hg1, hg2, IsR.mk' p.rng, e2, rdk_of e3, ?_, ?_, ?_, hc _ b hb 3 _ rfl, hf⟩
  · rw [← e1]; exact hc _ b hb 0 _ rfl
  · rw [← e1]; exact hc _ b hb 1 _ rfl
  · rw [← e1]; exact hc _ b hb 2 _ rfl
def RetPut (w : World) (v : Value) (base : Nat) (R : Nat → Prop) (U : List Pc) (e : Ending) (w' : World) : Prop := ∃ v', e = .returned v' ∧ dPc.Own w' base R v' U ∧ Below base w w' ∧ KeptS (fun g => v.ownBlock ≠ some g) w w'
theorem KeptS.trans {S : Nat → Prop} {w w' w'' : World} (h : KeptS S w w') (h' : KeptS S w' w'') (hs : w.heap.size ≤ w'.heap.size) : KeptS S w w'' := fun p hp hl => (h' p hp (Nat.lt_of_lt_of_le hl hs)).trans (h p hp hl)
theorem keptS_set {S : Nat → Prop} {w : World} {g o : Nat} (u : Value) (hg : ∀ b, S b → b ≠ g) : KeptS S w (w.setCell ⟨g, o, none⟩ u) := fun p hp _ => World.cell?_setCell_other _ _ _ _ fun e => hg _ hp (by rw [← e])
theorem piece_cells {w wb : World} {S T : ByteArray} {o : Bool} {A : Option Addr} {n c : Nat} (h : w.alloc (.cells #[.string S, .string T, .bool o, .slice A n c] 48) = wb) :
    wb.cell? ⟨w.heap.size, 0, none⟩ = some (.string S) ∧ wb.cell? ⟨w.heap.size, 1, none⟩ = some (.string T) ∧ wb.cell? ⟨w.heap.size, 2, none⟩ = some (.bool o) ∧ wb.cell? ⟨w.heap.size, 3, none⟩ = some (.slice A n c) := by
  have hnew := heap_new w (.cells #[.string S, .string T, .bool o, .slice A n c] 48) _ rfl
  subst h
  refine ⟨?_, ?_, ?_, ?_⟩ <;> rw [cell_of_row _ _ _ _ _ _ hnew] <;> rfl
theorem rng_cells {w wb : World} {S T : ByteArray} {o : Bool} (h : w.alloc (.cells #[.string S, .string T, .bool o] 45) = wb) :
    wb.cell? ⟨w.heap.size, 0, none⟩ = some (.string S) ∧ wb.cell? ⟨w.heap.size, 1, none⟩ = some (.string T) ∧ wb.cell? ⟨w.heap.size, 2, none⟩ = some (.bool o) := by
  have hnew := heap_new w (.cells #[.string S, .string T, .bool o] 45) _ rfl
  subst h
  refine ⟨?_, ?_, ?_⟩ <;> rw [cell_of_row _ _ _ _ _ _ hnew] <;> rfl
set_option maxRecDepth 100000 in
set_option maxHeartbeats 8000000 in
theorem kw_put (R : Nat → Prop) (A9 : Option Addr) (n9 c9 : Nat) (dn : List Pc) (base : Nat) (hn9 : n9 = dn.length) (r : Rng) (S T : ByteArray) (o : Bool) (hIs : IsR r S T o) (A : Option Addr) (c n : Nat) (X : List Kn) (hn : n = X.length) (hl : n9 ≤ 200000) (U : List Pc) (hU : putP dn r X = U) (w : World) (hb : base ≤ w.heap.size)
    (ho : dPc.Own w base R (.slice A9 n9 c9) dn) (hX : dKn.Rd w (fun g => R g ∧ (Value.slice A9 n9 c9).ownBlock ≠ some g) A c X) :
    Calls Tryz.prog 70 #[.slice A9 n9 c9, .agg #[.string S, .string T, .bool o], .slice A n c] w (RetPut w (.slice A9 n9 c9) base R U) := by
  obtain ⟨w1, hw1⟩ : ∃ w1, w.alloc (.cells #[.string S, .string T, .bool o] 45) = w1 := ⟨_, rfl⟩
  obtain ⟨w2, hw2⟩ : ∃ w2, w1.alloc (.cells #[.string S, .string T, .bool o, .slice A n c] 48) = w2 := ⟨_, rfl⟩
  have h1 : Below w.heap.size w w1 := hw1 ▸ below_new _ _
  have h2 : Below w1.heap.size w1 w2 := hw2 ▸ below_new _ _
  have h12 := h1.trans (h2.mono h1.size)
  have hs1 : w1.heap.size = w.heap.size + 1 := by rw [← hw1, size1]
  have hmx := hX.max hn
  have hcx : n ≤ c := by rw [hn]; exact hX.room
  have HO := Lib.hid (ho.below h12)
  have HX := Lib.hid (Deep.Rd.keep hX (keptS_below h12 _))
  have HB := Lib.hid h12
  have hl0 : w.heap.size < w2.heap.size := by have := h2.size; omega
  have hl1 : w1.heap.size < w2.heap.size := by rw [← hw2, size1]; omega
  obtain ⟨x0, x1, x2⟩ := rng_cells hw1
  obtain ⟨z0, z1, z2, z3⟩ := piece_cells hw2
  have hlt1 : w.heap.size < w1.heap.size := by omega
  have y0 := ((bcell h2).1 _ _ hlt1).trans x0
  have y1 := ((bcell h2).1 _ _ hlt1).trans x1
  have y2 := ((bcell h2).1 _ _ hlt1).trans x2
  by_cases hX0 : X = []
  · subst hX0
    obtain rfl : n = 0 := hn
    obtain rfl : dn = U := by rw [← hU]; rfl
    have hw9 : IntKind.i64.wrap ((n9 : Int) - 1) = (n9 : Int) - 1 := IntWalk.i64_in _ (by omega)
    clear hIs ho hX hU h1 h2 h12
    go_enter Tryz.func70, Tryz.ntmps70
    go_wp2_with fail
    go_ret
    exact ⟨_, rfl, HO.out, HB.out.mono hb, keptS_below HB.out _⟩
  · have hnp : 0 < n := by rw [hn]; exact List.length_pos_iff.2 hX0
    have hn0 : ((n : Int) == 0) = false := beq_eq_false_iff_ne.2 (by omega)
    cases r with
    | mk lo hi op =>
    obtain ⟨e1, e2, e3⟩ := hIs
    change str lo = S at e1
    change str hi = T at e2
    change op = o at e3
    subst e3
    have hHn := Lib.hid hn
    have PR := fun w => Lib.hid (piece_row_n w lo hi S T e1 e2 op A n c)
    rcases last_cases dn with rfl | ⟨dq, p, rfl⟩
    · obtain rfl : n9 = 0 := hn9
      obtain rfl : U = [⟨⟨lo, hi, op⟩, X⟩] := by rw [← hU]; exact putP_first hX0
      have HC := Lib.hid (show CellL w2 [(⟨w1.heap.size, 0, none⟩, .string S), (⟨w1.heap.size, 1, none⟩, .string T), (⟨w1.heap.size, 2, none⟩, .bool op), (⟨w1.heap.size, 3, none⟩, .slice A n c)] w2 from ⟨z0, z1, z2, z3, Below.refl _ _⟩)
      clear ho hX hU h1 h2 h12 hs1 hn e1 e2 hX0 hlt1 hl0 y0 y1 y2
      go_enter Tryz.func70, Tryz.ntmps70
      go_upto_region 5 with fail
      refine q_region (CellL w2 [(⟨w1.heap.size, 0, none⟩, .string S), (⟨w1.heap.size, 1, none⟩, .string T), (⟨w1.heap.size, 2, none⟩, .bool op), (⟨w1.heap.size, 3, none⟩, .slice A n c)]) (by kernel_rfl) (by kernel_rfl) (cellL_drew HC.out) ?_
      repeat (first
        | go_big_quiet_skip
        | (go_big_quiet_want; (first
          | (refine q_take (v := ?_) ?_ ?_; rotate_left; (focus (intro w hSw; (try simp only [CellL] at hSw); go_split_ands; go_simp; (try (rw [if_neg (by omega)])); (try with_reducible rfl); done)))); (try simp only [Act.put, List.setIfInBounds_toArray, List.set_cons_zero, List.set_cons_succ]); go_big_quiet_on))
      refine wpQuiet_nil ?_
      intro w3 hw3
      obtain ⟨k0, k1, k2, k3, hb3⟩ := hw3
      have HO3 := Lib.hid (HO.out.below hb3)
      have HX3 := Lib.hid (Deep.Rd.keep HX.out (keptS_below hb3 _))
      have HKP := Lib.hid (keptS_below (S := fun g => (Value.slice A9 0 c9).ownBlock ≠ some g) (HB.out.trans (hb3.mono HB.out.size)))
      have HZ3 := Lib.hid (Nat.le_trans HB.out.size hb3.size)
      have HB3 := Lib.hid ((HB.out.trans (hb3.mono HB.out.size)).mono hb)
      have HSZ := Lib.hid (Nat.le_trans hb HB3.out.size)
      obtain ⟨bs, hown, hall⟩ := HO3.out
      have HKO := Lib.hid hown
      have HKA := Lib.hid hall
      have HLE := Lib.hid (show bs.length + [(⟨⟨lo, hi, op⟩, A, n, c⟩ : Ps)].length ≤ 1000000 by rw [hall.1]; simp)
      clear hown hall hb3 HO HX HB HC HO3
      go_wp2_with (at_builtin; refine wpList_app_k kPs rfl (.tmp 31) (.tmp 33) rfl base _ bs rfl (Kind.Own.alloc HKO.out _) _ (some ⟨w3.heap.size, 0, none⟩) 1 1 [⟨⟨lo, hi, op⟩, A, n, c⟩] rfl rfl (PR w3).out HLE.out (by decide) (cle_alloc HSZ.out _) ?_; intro v5 w5 hown5 hg5 hb5 hv5; have HO5 := Lib.hid (Deep.Own.app (HKA.out.keep (keptS_below (below_new w3 _) _)) (.one (dPc.keep (show dPc.rel w3 (fun g => R g ∧ (Value.slice A9 0 c9).ownBlock ≠ some g) ⟨⟨lo, hi, op⟩, A, n, c⟩ ⟨⟨lo, hi, op⟩, X⟩ from ⟨rfl, hHn.out, HX3.out⟩) (keptS_below (below_new w3 _) _))) hown5 hg5 hv5); have HB5 := Lib.hid ((HB3.out.alloc HSZ.out _).trans hb5); have HKP5 := Lib.hid ((HKP.out.trans (keptS_below (below_new w3 _) _) HZ3.out).trans (keptS_grown hg5 fun g h => h) (Nat.le_trans HZ3.out (by rw [size1]; omega))); clear hown5 hg5 hb5 hv5)
      go_ret
      exact ⟨v5, rfl, HO5.out, HB5.out, HKP5.out⟩
    · obtain ⟨D, hD⟩ : ∃ D, dq.length = D := ⟨_, rfl⟩
      have hnD : n9 = D + 1 := by rw [hn9, List.length_append, hD]; rfl
      obtain ⟨g, A2, n2, c2, T0, T2, q2, rfl, hg1, hg2, hIs2, hn2, hr2, u0, u1, u2, u3, -⟩ := own_atS HO.out hn9 hD
      have hD0 : (0 : Int) ≤ (D : Int) := by omega
      have hD1 : (D : Int) < (n9 : Int) := by omega
      have hDw : IntKind.i64.wrap ((n9 : Int) - 1) = (D : Int) := by rw [show (n9 : Int) - 1 = (D : Int) by omega]; exact IntWalk.i64_in _ (by omega)
      have hDw3 : IntKind.i64.wrap (D : Int) = (D : Int) := IntWalk.i64_in _ (by omega)
      have hDd : decide ((D : Int) < 0) = false := decide_eq_false (by omega)
      have hDc : n9 ≤ c9 := by
        obtain ⟨bs, h3, h4⟩ := HO.out
        have := h3.rd.room
        rw [h4.1, ← hn9] at this
        exact this
      obtain ⟨y, hy⟩ : ∃ y, gapP p ⟨⟨lo, hi, op⟩, X⟩ = y := ⟨_, rfl⟩
      have hX2 : RdK w2 w2.heap.size A c X := rdk_of HX.out
      have CF := Lib.hid (fun (L : List (Addr × Value)) => fun (W : World) (hC : CellL w2 L W) => (kw_follows p ⟨⟨lo, hi, op⟩, X⟩ T0 T2 S T q2 op A2 A c2 c n2 n ⟨hIs2, hn2⟩ ⟨⟨e1, e2, rfl⟩, hn⟩ y hy W (hr2.call (cellL_size hC)) (hX2.call (cellL_size hC))).mono fun (e' : Ending) (W' : World) ⟨h1, h2⟩ => (⟨h1, cellL_call h2 hC⟩ : e' = Ending.returned (.bool y) ∧ CellL w2 L W'))
      have HC := Lib.hid (show CellL w2 [(⟨w1.heap.size, 0, none⟩, .string S), (⟨w1.heap.size, 1, none⟩, .string T), (⟨w1.heap.size, 2, none⟩, .bool op), (⟨w1.heap.size, 3, none⟩, .slice A n c), (⟨w.heap.size, 1, none⟩, .string T), (⟨w.heap.size, 2, none⟩, .bool op), (⟨g, D * 4, none⟩, .string T0), (⟨g, D * 4 + 1, none⟩, .string T2), (⟨g, D * 4 + 2, none⟩, .bool q2), (⟨g, D * 4 + 3, none⟩, .slice A2 n2 c2)] w2 from ⟨z0, z1, z2, z3, y1, y2, u0, u1, u2, u3, Below.refl _ _⟩)
      have HU := Lib.hid hU
      have HX0 := Lib.hid hX0
      have HY := Lib.hid hy
      have HN9 := Lib.hid hn9
      have HDD := Lib.hid hD
      have HT := Lib.hid e2
      have hll : (dq ++ [p]).length ≤ 200000 := by rw [← hn9]; exact hl
      clear ho hX hU h1 h2 h12 hs1 hn e1 e2 hX0 hlt1 hl0 y0 hr2 hX2 hIs2 hn2 hy hn9 hD hnD
      cases y
      all_goals
        go_enter Tryz.func70, Tryz.ntmps70
        go_upto_region 5 with fail
        refine q_region (CellL w2 [(⟨w1.heap.size, 0, none⟩, .string S), (⟨w1.heap.size, 1, none⟩, .string T), (⟨w1.heap.size, 2, none⟩, .bool op), (⟨w1.heap.size, 3, none⟩, .slice A n c), (⟨w.heap.size, 1, none⟩, .string T), (⟨w.heap.size, 2, none⟩, .bool op), (⟨g, D * 4, none⟩, .string T0), (⟨g, D * 4 + 1, none⟩, .string T2), (⟨g, D * 4 + 2, none⟩, .bool q2), (⟨g, D * 4 + 3, none⟩, .slice A2 n2 c2)]) (by kernel_rfl) (by kernel_rfl) (cellL_drew HC.out) ?_
        repeat (first
          | go_big_quiet_skip
          | (go_big_quiet_want; (first
            | (refine q_take (v := ?_) ?_ ?_; rotate_left; (focus (intro w hSw; (try simp only [CellL] at hSw); go_split_ands; go_simp; (try (rw [if_neg (by omega)])); (try with_reducible rfl); done)))
            | (refine q_call (CF.out _) ?_ ?_; (focus (intro w hSw; (try simp only [CellL] at hSw); go_split_ands; go_simp; (try (rw [if_neg (by omega)])); done)))); (try simp only [Act.put, List.setIfInBounds_toArray, List.set_cons_zero, List.set_cons_succ]); go_big_quiet_on))
        refine wpQuiet_nil ?_
        intro w3 hw3
        clear x0 x1 x2 y1 y2 z0 z1 z2 z3 u0 u1 u2 u3
        obtain ⟨k0, k1, k2, k3, y1, y2, u0, u1, u2, u3, hb3⟩ := hw3
        have HO3 := Lib.hid (HO.out.below hb3)
        have HX3 := Lib.hid (Deep.Rd.keep HX.out (keptS_below hb3 _))
        have HKP := Lib.hid (keptS_below (S := fun g' => (Value.slice (some ⟨g, 0, none⟩) n9 c9).ownBlock ≠ some g') (HB.out.trans (hb3.mono HB.out.size)))
        have HZ3 := Lib.hid (Nat.le_trans HB.out.size hb3.size)
        have HB3 := Lib.hid ((HB.out.trans (hb3.mono HB.out.size)).mono hb)
        have HSZ := Lib.hid (Nat.le_trans hb HB3.out.size)
        clear hb3 HO HX HB HC CF
      · obtain ⟨g', _, _, _, _, _, _, hA, -, -, -, -, -, -, -, -, -, hfz⟩ := own_atS HO3.out HN9.out HDD.out
        injection hA with hA
        injection hA with hA
        subst hA
        go_wp2_with fail
        go_region
        go_wp2_with fail
        go_ret
        have ho := own_lastS HO3.out HN9.out HDD.out hi T HT.out op
        have hs := (HB3.out.setCell (p := ⟨g, D * 4 + 1, none⟩) hg1 (.string T)).setCell (p := ⟨g, D * 4 + 2, none⟩) hg1 (.bool op)
        exact ⟨_, rfl, by rw [← HU.out, putP_more HX0.out HY.out]; exact ho.below (Below.refl _ _).drew, hs.drew, ((HKP.out.trans (keptS_set (o := D * 4 + 1) (.string T) fun b h e => h (by rw [e]; rfl)) HZ3.out).trans (keptS_set (o := D * 4 + 2) (.bool op) fun b h e => h (by rw [e]; rfl)) (by simpa using HZ3.out)).trans (keptS_below (Below.refl _ _).drew _) (by simpa using HZ3.out)⟩
      · obtain ⟨bs, hown, hall⟩ := HO3.out
        have HKO := Lib.hid hown
        have HKA := Lib.hid hall
        have HLE := Lib.hid (show bs.length + [(⟨⟨lo, hi, op⟩, A, n, c⟩ : Ps)].length ≤ 1000000 by rw [hall.1, List.length_singleton]; omega)
        clear hown hall
        go_wp2_with (at_builtin; refine wpList_app_k kPs rfl (.tmp 31) (.tmp 33) rfl base _ bs rfl (Kind.Own.alloc HKO.out _) _ (some ⟨w3.heap.size, 0, none⟩) 1 1 [⟨⟨lo, hi, op⟩, A, n, c⟩] rfl rfl (PR w3).out HLE.out (by decide) (cle_alloc HSZ.out _) ?_; intro v5 w5 hown5 hg5 hb5 hv5; have HO5 := Lib.hid (Deep.Own.app (HKA.out.keep (keptS_below (below_new w3 _) _)) (.one (dPc.keep (show dPc.rel w3 (fun g' => R g' ∧ (Value.slice (some ⟨g, 0, none⟩) n9 c9).ownBlock ≠ some g') ⟨⟨lo, hi, op⟩, A, n, c⟩ ⟨⟨lo, hi, op⟩, X⟩ from ⟨rfl, hHn.out, HX3.out⟩) (keptS_below (below_new w3 _) _))) hown5 hg5 hv5); have HB5 := Lib.hid ((HB3.out.alloc HSZ.out _).trans hb5); have HKP5 := Lib.hid ((HKP.out.trans (keptS_below (below_new w3 _) _) HZ3.out).trans (keptS_grown hg5 fun g h => h) (Nat.le_trans HZ3.out (by rw [size1]; omega))); clear hown5 hg5 hb5 hv5)
        go_ret
        exact ⟨v5, rfl, by rw [← HU.out, putP_gap HX0.out HY.out]; exact HO5.out, HB5.out, HKP5.out⟩
theorem cmp_le_test (a b : List UInt8) : ∃ x : Int, Lib.compareBytes a b = x ∧ decide (x ≤ 0) = !ltB b a := by
  rcases ltB_three a b with ⟨h1, h2, -⟩ | ⟨h1, h2, -⟩ | ⟨-, h2, h3⟩
  · exact ⟨-1, cmp_lt h1, by rw [h2]; rfl⟩
  · exact ⟨1, cmp_gt h2, by rw [h2]; rfl⟩
  · exact ⟨0, by rw [h3]; exact cmp_self b, by rw [h2]; rfl⟩
def RetRd (w : World) (S : Nat → Prop) (N : Nat) (k : List Pc) (e : Ending) (w' : World) : Prop := ∃ A c, e = .returned (.slice A N c) ∧ dPc.Rd w' S A c k ∧ Below w.heap.size w w'
set_option maxRecDepth 100000 in
set_option maxHeartbeats 4000000 in
theorem kw_pass (A : Option Addr) (c n : Nat) (k : List Pc) (x : List UInt8) (X : ByteArray) (S : Nat → Prop) (hn : n = k.length) (hX : str x = X) (U : List Pc) (hU : passP x k = U) (N : Nat) (hN : N = U.length) (w : World) (hr : dPc.Rd w S A c k) :
    Calls Tryz.prog 69 #[.slice A n c, .string X] w (RetRd w S N U) := by
  have hmx := hr.max hn
  have hcx : n ≤ c := by rw [hn]; exact hr.room
  cases k with
  | nil =>
    obtain rfl : n = 0 := hn
    obtain rfl : U = [] := hU.symm
    obtain rfl : N = 0 := hN
    have HR := Lib.hid hr
    clear hr hX hU
    go_enter Tryz.func69, Tryz.ntmps69
    go_wp2_with fail
    go_ret
    exact ⟨A, c, rfl, HR.out, Below.refl _ _⟩
  | cons p k =>
    have hnp : 0 < n := by rw [hn]; simp
    have hnd : decide ((n : Int) > 0) = true := decide_eq_true (by omega)
    have hnd2 : decide ((0 : Int) < (n : Int)) = true := hnd
    have hnd3 : decide (0 < n) = true := decide_eq_true hnp
    obtain ⟨b, o, A', n', c', S1, T1, q1, rfl, hb1, ⟨-, hT1, hq1⟩, -, -, p0, p1, p2, p3⟩ := RdPc.at_ (w := w) (Deep.Rd.all hr) (i := 0) (x := p) rfl
    rw [Nat.zero_mul, Nat.add_zero] at p0 p1 p2 p3
    obtain ⟨z, hz, hz2⟩ := cmp_le_test p.rng.hi x
    have C := fun w => Lib.hid (cmp_is p.rng.hi x T1 X hT1 hX z hz w)
    obtain ⟨y, hy⟩ : ∃ y, ltB x p.rng.hi = y := ⟨_, rfl⟩
    rw [hy] at hz2
    have HU := Lib.hid hU
    have HN := Lib.hid hN
    have HNN := Lib.hid hn
    have HR := Lib.hid hr
    cases q1 with
    | true =>
      have HP := Lib.hid (passP_no (x := x) (p := p) (k := k) (by rw [hq1]; rfl))
      clear hn hX hU hN hr hT1 hq1 hz hy
      go_enter Tryz.func69, Tryz.ntmps69
      go_wp2_with fail
      go_ret
      obtain rfl : N = n := by rw [HN.out, ← HU.out, HP.out]; exact HNN.out.symm
      exact ⟨_, c, rfl, by rw [← HU.out, HP.out]; exact HR.out, Below.refl _ _⟩
    | false =>
      cases y with
      | true =>
        have HP := Lib.hid (passP_no (x := x) (p := p) (k := k) (by rw [hq1, hy]; rfl))
        clear hn hX hU hN hr hT1 hq1 hz hy
        go_enter Tryz.func69, Tryz.ntmps69
        go_wp2_with ((with_reducible refine (C _).out.mono ?_); rintro e w1 ⟨rfl, rfl⟩)
        go_ret
        obtain rfl : N = n := by rw [HN.out, ← HU.out, HP.out]; exact HNN.out.symm
        exact ⟨_, c, rfl, by rw [← HU.out, HP.out]; exact HR.out, Below.refl _ _⟩
      | false =>
        have HP := Lib.hid (passP_yes (x := x) (p := p) (k := k) (by rw [hq1, hy]; rfl))
        have hN1 : n - 1 = N := by rw [hN, ← hU, HP.out, hn]; rfl
        have K : ∀ W : World, (Instr.slice 22 (.slice (some ⟨b, o, none⟩) n c) (some (.int .i64 1)) none none).run Tryz.prog W = .ok (.slice (cutK (some ⟨b, o, none⟩) 1 4 c) N (c - 1)) W := fun W => by rw [← hN1]; exact kPs.run_cutK pc_sizeOf W (some ⟨b, o, none⟩) n c 1 (by omega)
        obtain ⟨A5, hA5⟩ : ∃ A5, cutK (some ⟨b, o, none⟩) 1 4 c = A5 := ⟨_, rfl⟩
        obtain ⟨c5, hc5⟩ : ∃ c5, c - 1 = c5 := ⟨_, rfl⟩
        rw [hA5, hc5] at K
        have HD := Lib.hid (show dPc.Rd w S A5 c5 k by rw [← hA5, ← hc5]; exact hr.drop (j := 1))
        clear hn hX hU hN hr hT1 hq1 hz hy hN1 hA5 hc5
        go_enter Tryz.func69, Tryz.ntmps69
        go_wp2_with ((with_reducible refine (C _).out.mono ?_); rintro e w1 ⟨rfl, rfl⟩)
        go_ret
        exact ⟨_, _, rfl, by rw [← HU.out, HP.out]; exact HD.out, Below.refl _ _⟩
def RetKS (w : World) (S : Nat → Prop) (N : Nat) (k : List Kn) (e : Ending) (w' : World) : Prop := ∃ A c, e = .returned (.slice A N c) ∧ dKn.Rd w' S A c k ∧ Below w.heap.size w w'
set_option maxRecDepth 100000 in
set_option maxHeartbeats 4000000 in
theorem kw_first (A : Option Addr) (c n : Nat) (k : List Pc) (x : List UInt8) (X : ByteArray) (S : Nat → Prop) (hn : n = k.length) (hX : str x = X) (U : List Kn) (hU : firstP x k = U) (N : Nat) (hN : N = U.length) (w : World) (hr : dPc.Rd w S A c k) :
    Calls Tryz.prog 71 #[.slice A n c, .string X] w (RetKS w S N U) := by
  have hmx := hr.max hn
  have hcx : n ≤ c := by rw [hn]; exact hr.room
  cases k with
  | nil =>
    obtain rfl : n = 0 := hn
    obtain rfl : U = [] := hU.symm
    obtain rfl : N = 0 := hN
    clear hr hX hU
    go_enter Tryz.func71, Tryz.ntmps71
    go_wp2_with fail
    go_ret
    exact ⟨none, 0, rfl, Deep.Rd.nil _ _ _ _ (Nat.zero_le _), Below.refl _ _⟩
  | cons p k =>
    have hnp : 0 < n := by rw [hn]; simp
    have hnd : decide ((n : Int) > 0) = true := decide_eq_true (by omega)
    have hnd2 : decide ((0 : Int) < (n : Int)) = true := hnd
    have hnd3 : decide (0 < n) = true := decide_eq_true hnp
    obtain ⟨b, o, rfl, hb1, hcell⟩ := pieces_of hr (by simp)
    obtain ⟨A', n', c', hn', hrd, p0, p1, p2, p3⟩ := hcell 0 p rfl
    rw [Nat.zero_mul, Nat.add_zero] at p0 p1 p2 p3
    obtain ⟨d, hd⟩ : ∃ d, hasR p.rng x = d := ⟨_, rfl⟩
    have C := fun w => span_has p.rng x _ _ X _ d (IsR.mk' p.rng) hX hd w
    obtain ⟨S1, hS1⟩ : ∃ S, str p.rng.lo = S := ⟨_, rfl⟩
    obtain ⟨S2, hS2⟩ : ∃ S, str p.rng.hi = S := ⟨_, rfl⟩
    obtain ⟨q, hq⟩ : ∃ q, p.rng.op = q := ⟨_, rfl⟩
    rw [hS1, hS2, hq] at C
    rw [hS1] at p0
    rw [hS2] at p1
    rw [hq] at p2
    replace C := fun w => Lib.hid (C w)
    cases d with
    | false =>
      obtain rfl : U = [] := by rw [← hU]; exact setP_no hd
      obtain rfl : N = 0 := hN
      clear hn hr hX hU hcell hrd hn' hd hS1 hS2 hq
      go_enter Tryz.func71, Tryz.ntmps71
      go_wp2_with ((with_reducible refine (C _).out.mono ?_); rintro e w1 ⟨rfl, hq⟩; have HQ := Lib.hid hq; clear hq)
      go_ret
      exact ⟨none, 0, rfl, Deep.Rd.nil _ _ _ _ (Nat.zero_le _), HQ.out⟩
    | true =>
      obtain rfl : U = p.set := by rw [← hU]; exact setP_yes hd
      obtain rfl : N = n' := by rw [hN, hn']
      have HRD := Lib.hid hrd
      clear hn hr hX hU hN hcell hrd hd hS1 hS2 hq
      try clear hn'
      go_enter Tryz.func71, Tryz.ntmps71
      go_wp2_with ((with_reducible refine (C _).out.mono ?_); rintro e w1 ⟨rfl, hq⟩; have HQ := Lib.hid hq; have g3 := ((bcell hq).1 _ _ hb1).trans p3; replace hb1 := Nat.lt_of_lt_of_le hb1 hq.size; clear hq)
      go_ret
      exact ⟨A', c', rfl, HRD.out.call HQ.out, HQ.out⟩
end Go.Proofs.YtopjhebhdopjpaaGreat

namespace Go.Proofs.YtopjhebhdopjpaaGreat
open Go.RowKit

def KeepC (F : FuncId) (op : Int) : Prop := ∀ (A B : Option Addr) (c d n m : Nat) (x y : List Kn) (S : Nat → Prop), n = x.length → m = y.length → rightS x = true → rightS y = true → (∀ r, (runsV x r).length ≤ 100000) → (∀ r, (runsV y r).length ≤ 100000) → ∀ U, makeS op x y = U → ∀ N, N = U.length → ∀ w, dKn.Rd w S A c x → dKn.Rd w S B d y →
  Calls Tryz.prog F #[.slice A n c, .slice B m d] w (dKn.Ret w S N U)
theorem RetKF.keep {w : World} {S : Nat → Prop} {N : Nat} {s : List Kn} {e : Ending} {w' : World} (h : RetKF w N s e w') : dKn.Ret w S N s e w' := by
  obtain ⟨A, c, h1, h2, h3⟩ := h
  exact ⟨A, c, h1, h2.mono fun g hg => .inr hg, h3⟩
theorem kw_union : KeepC 85 1 := fun A B c d n m x y S hn hm hx hy hlx hly U hU N hN w ha hb => by
  have HA := Lib.hid ha
  have HB := Lib.hid hb
  cases x with
  | nil =>
    obtain rfl : n = 0 := hn
    obtain rfl : y = U := by rw [← hU]; exact (makeS_no1 hy).symm
    obtain rfl : N = m := by rw [hN, hm]
    clear ha hb hx hy hlx hly hU hN hm
    go_enter Tryz.func85, Tryz.ntmps85
    go_wp2_with fail
    go_ret
    exact ⟨B, d, rfl, HB.out.mono fun g hg => .inl hg, Below.refl _ _⟩
  | cons x0 x =>
    have hn0 : ((n : Int) == 0) = false := beq_eq_false_iff_ne.2 (by rw [hn]; simp; omega)
    cases y with
    | nil =>
      obtain rfl : m = 0 := hm
      obtain rfl : x0 :: x = U := by rw [← hU]; exact (makeS_no2 hx).symm
      obtain rfl : N = n := by rw [hN, hn]
      clear ha hb hx hy hlx hly hU hN hn
      go_enter Tryz.func85, Tryz.ntmps85
      go_wp2_with fail
      go_ret
      exact ⟨A, c, rfl, HA.out.mono fun g hg => .inl hg, Below.refl _ _⟩
    | cons y0 y =>
      have hm0 : ((m : Int) == 0) = false := beq_eq_false_iff_ne.2 (by rw [hm]; simp; omega)
      have C := Lib.hid (vs_union_new A B c d n m _ _ hn hm hlx hly U hU N hN.symm w (rdk_of ha) (rdk_of hb))
      clear ha hb hx hy hlx hly hU hN hn hm
      go_enter Tryz.func85, Tryz.ntmps85
      go_wp2_with ((with_reducible refine C.out.mono ?_); rintro e w1 h1; obtain ⟨A1, c1, rfl, h2, h3⟩ := h1; have HF := Lib.hid (show dKn.Ret w S N U (.returned (.slice A1 N c1)) w1 from ⟨A1, c1, rfl, h2.mono fun g hg => .inr hg, h3⟩); clear h2 h3)
      go_ret
      exact HF.out
theorem kw_less : KeepC 41 3 := fun A B c d n m x y S hn hm hx hy hlx hly U hU N hN w ha hb => by
  have HA := Lib.hid ha
  have HB := Lib.hid hb
  cases x with
  | nil =>
    obtain rfl : n = 0 := hn
    obtain rfl : U = [] := by rw [← hU]; exact makeS_less1 y
    obtain rfl : N = 0 := hN
    clear ha hb hx hy hlx hly hU hm
    go_enter Tryz.func41, Tryz.ntmps41
    go_wp2_with fail
    go_ret
    exact ⟨A, c, rfl, HA.out.mono fun g hg => .inl hg, Below.refl _ _⟩
  | cons x0 x =>
    have hn0 : ((n : Int) == 0) = false := beq_eq_false_iff_ne.2 (by rw [hn]; simp; omega)
    cases y with
    | nil =>
      obtain rfl : m = 0 := hm
      obtain rfl : x0 :: x = U := by rw [← hU]; exact (makeS_less0 hx).symm
      obtain rfl : N = n := by rw [hN, hn]
      clear ha hb hx hy hlx hly hU hN hn
      go_enter Tryz.func41, Tryz.ntmps41
      go_wp2_with fail
      go_ret
      exact ⟨A, c, rfl, HA.out.mono fun g hg => .inl hg, Below.refl _ _⟩
    | cons y0 y =>
      have hm0 : ((m : Int) == 0) = false := beq_eq_false_iff_ne.2 (by rw [hm]; simp; omega)
      have C := Lib.hid (vs_less_new A B c d n m _ _ hn hm hlx hly U hU N hN.symm w (rdk_of ha) (rdk_of hb))
      clear ha hb hx hy hlx hly hU hN hn hm
      go_enter Tryz.func41, Tryz.ntmps41
      go_wp2_with ((with_reducible refine C.out.mono ?_); rintro e w1 h1; obtain ⟨A1, c1, rfl, h2, h3⟩ := h1; have HF := Lib.hid (show dKn.Ret w S N U (.returned (.slice A1 N c1)) w1 from ⟨A1, c1, rfl, h2.mono fun g hg => .inr hg, h3⟩); clear h2 h3)
      go_ret
      exact HF.out
theorem take_drop_now {es : List (List UInt8)} {j : Nat} {e : List UInt8} (h : es[j]? = some e) : es.take j ++ e :: es.drop (j + 1) = es ∧ es.take j ++ [e] = es.take (j + 1) := by
  have h1 := drop_now h
  refine ⟨by rw [← h1, List.take_append_drop], ?_⟩
  rw [List.take_add_one, h]; rfl
set_option maxRecDepth 100000 in
set_option maxHeartbeats 16000000 in
theorem kw_sweep (S : Nat → Prop) (F : FuncId) (op : Int) (hop : op = 1 ∨ op = 3) (HK : KeepC F op) (eg : ∀ args w, (callFunc F args).run Tryz.prog w = .ok (.enter F args) w) (A B : Option Addr) (c d n m : Nat) (a b : List Pc) (hn : n = a.length) (hm : m = b.length) (hnl : n ≤ 40000) (hml : m ≤ 40000) (hra : rightP a = true) (hrb : rightP b = true)
    (hca : ∀ s r, (runsV (catK a s) r).length ≤ 100000) (hcb : ∀ s r, (runsV (catK b s) r).length ≤ 100000) (U : List Pc) (hU : rightP U = true) (hUc : ∀ s, catK U s = makeS op (catK a s) (catK b s)) (N : Nat) (hN : N = U.length) (w : World) (ha : dPc.Rd w S A c a) (hb : dPc.Rd w S B d b) :
    Calls Tryz.prog 39 #[.slice A n c, .slice B m d, .func (.func F) #[] #[]] w (dPc.Ret w S N U) := by
  obtain ⟨R, hR⟩ : ∃ R : Nat → Prop, ∀ g, R g ↔ S g ∨ w.heap.size ≤ g := ⟨_, fun _ => Iff.rfl⟩
  have HRI := Lib.hid hR
  have C1 := Lib.hid (kw_edges A B c d n m a b hn hm hnl hml w (Deep.Rd.all ha) (Deep.Rd.all hb))
  have HA0 := Lib.hid (Deep.Rd.lives ha)
  have HB0 := Lib.hid (Deep.Rd.lives hb)
  have HNA := Lib.hid hn
  have HNB := Lib.hid hm
  have HRA := Lib.hid hra
  have HRB := Lib.hid hrb
  have HCA := Lib.hid hca
  have HCB := Lib.hid hcb
  have HU1 := Lib.hid hU
  have HU2 := Lib.hid hUc
  have HNN := Lib.hid hN
  have HKK := Lib.hid HK
  have HOP := Lib.hid hop
  obtain ⟨f, hf⟩ : ∃ f, (fun s => makeS op (catK a s) (catK b s)) = f := ⟨_, rfl⟩
  have HF := Lib.hid hf
  clear ha hb hn hm hra hrb hca hcb hU hUc hN HK hop hf hR
  go_enter Tryz.func39, Tryz.ntmps39
  go_wp2_with ((with_reducible refine C1.out.mono ?_); rintro e w1 ⟨vt, es, rfl, hes, hel, hot, hq⟩; obtain ⟨K, hK⟩ : ∃ K, K = es.length := ⟨_, rfl⟩; obtain ⟨At, ct, rfl, hrt⟩ := hot.read_n hK; have hK9 : K ≤ 160000 := (by omega); obtain ⟨w2, hm1, ho1, hb1⟩ := run_make_k kPs w1 w1.heap.size K (by omega) (by decide) (Nat.le_refl _); have hmk : (Instr.makeSlice 22 (.int .i64 0) (.int .i64 (K : Int))).run Tryz.prog w1 = .ok (.slice (some ⟨w1.heap.size, 0, none⟩) 0 K) w2 := hm1; have HES := Lib.hid hes; have HRT := Lib.hid hrt; have HKE := Lib.hid hK; have hKc : K ≤ ct := (by rw [hK]; exact hrt.room); have HO2 := Lib.hid (show dPc.Own w2 w1.heap.size R (.slice (some ⟨w1.heap.size, 0, none⟩) 0 K) [] from ⟨[], ho1, .nil _ _⟩); have HB2 := Lib.hid hb1; have HW1 := Lib.hid hq; clear hes hel hot hrt hq hm1 ho1 hb1 hK)
  have HA1 := Lib.hid ((Deep.Rd.call HA0.out HW1.out).mono (T := fun g => R g ∧ g < w1.heap.size) fun g h => ⟨(HRI.out g).2 (.inl h.1), Nat.lt_of_lt_of_le h.2 HW1.out.size⟩)
  have HB1 := Lib.hid ((Deep.Rd.call HB0.out HW1.out).mono (T := fun g => R g ∧ g < w1.heap.size) fun g h => ⟨(HRI.out g).2 (.inl h.1), Nat.lt_of_lt_of_le h.2 HW1.out.size⟩)
  have HEA := Lib.hid (show (∀ p ∈ a, p.rng.op = false → p.rng.hi ∈ es) ∧ (∀ p ∈ b, p.rng.op = false → p.rng.hi ∈ es) from ⟨fun p hp ho => (HES.out.2 _).2 ((edgesP_mem (List.mem_append.2 (.inl hp))).2 ho), fun p hp ho => (HES.out.2 _).2 ((edgesP_mem (List.mem_append.2 (.inr hp))).2 ho)⟩)
  have HSW := Lib.hid (show swP f [] es = U from by
    obtain ⟨s1, s2⟩ := sweep_ok (makeS_nils op HOP.out) HRA.out HRB.out HES.out
    rw [HF.out] at s1 s2
    exact rightP_unique s1 HU1.out fun s => by rw [s2, HU2.out])
  clear C1 HA0 HB0 hmk
  go_loopw [0, 1, 8, 20] (fun va vb vo i wr => ∃ (j : Nat) (ka kb dn : List Pc) (A7 A8 : Option Addr) (n7 c7 n8 c8 : Nat), j ≤ K ∧ va = .slice A7 n7 c7 ∧ vb = .slice A8 n8 c8 ∧ i = .int .i64 j ∧ Hid (n7 = ka.length ∧ dPc.Rd wr (fun g => R g ∧ g < w1.heap.size) A7 c7 ka) ∧ Hid (n8 = kb.length ∧ dPc.Rd wr (fun g => R g ∧ g < w1.heap.size) A8 c8 kb) ∧ Hid (LeftP a ka (es.take j) (es.drop j) ∧ LeftP b kb (es.take j) (es.drop j)) ∧ Hid (dPc.Own wr w1.heap.size R vo dn) ∧ Hid (swP f dn (es.drop j) = U) ∧ dn.length ≤ j ∧ Hid (Below w1.heap.size w1 wr)) (fun _ _ _ i _ => K - (intOf i).toNat)
  case atStart => exact ⟨0, a, b, [], A, B, n, c, m, d, by omega, rfl, rfl, rfl, ⟨HNA.out, HA1.out.call HB2.out⟩, ⟨HNB.out, HB1.out.call HB2.out⟩, ⟨.start HRA.out HEA.out.1, .start HRB.out HEA.out.2⟩, HO2.out, HSW.out, Nat.le_refl _, HB2.out⟩
  case round =>
    clear HSW HO2 HB2 HA1 HB1 HEA
    obtain ⟨j, ka, kb, dn, A7, A8, n7, c7, n8, c8, hj, rfl, rfl, rfl, H7, H8, HL, HO, HS, hdn, HW⟩ := hrel
    by_cases hlt : j < K
    · obtain ⟨e, hg, -, -⟩ := get_some (l := es) (k := j) (by have := HKE.out; omega)
      have hdd := drop_now hg
      obtain ⟨bt, ot, rfl, hbt, hct⟩ := texts_at HRT.out (by have := HKE.out; omega)
      obtain ⟨E, hE⟩ : ∃ E, str e = E := ⟨_, rfl⟩
      have q0 := ((bcell HW.out).1 _ _ hbt).trans (hct j e hg)
      rw [hE] at q0
      obtain ⟨htd, htk⟩ := take_drop_now hg
      have hL1 := HL.out.1
      have hL2 := HL.out.2
      rw [hdd] at hL1 hL2
      obtain ⟨hM1, hV1⟩ := hL1.step (htd.symm ▸ HES.out.1)
      obtain ⟨hM2, hV2⟩ := hL2.step (htd.symm ▸ HES.out.1)
      rw [htk] at hM1 hM2
      obtain ⟨ka2, hka⟩ : ∃ x, passP e ka = x := ⟨_, rfl⟩
      obtain ⟨kb2, hkb⟩ : ∃ x, passP e kb = x := ⟨_, rfl⟩
      rw [hka] at hM1 hV1
      rw [hkb] at hM2 hV2
      obtain ⟨n3, hn3⟩ : ∃ x, x = ka2.length := ⟨_, rfl⟩
      obtain ⟨n4, hn4⟩ : ∃ x, x = kb2.length := ⟨_, rfl⟩
      obtain ⟨X1, hX1⟩ : ∃ X, catK a e = X := ⟨_, rfl⟩
      obtain ⟨X2, hX2⟩ : ∃ X, catK b e = X := ⟨_, rfl⟩
      obtain ⟨N1, hN1⟩ : ∃ N, N = X1.length := ⟨_, rfl⟩
      obtain ⟨N2, hN2⟩ : ∃ N, N = X2.length := ⟨_, rfl⟩
      obtain ⟨XK, hXK⟩ : ∃ X, makeS op X1 X2 = X := ⟨_, rfl⟩
      obtain ⟨NK, hNK⟩ : ∃ N, N = XK.length := ⟨_, rfl⟩
      obtain ⟨n9, hn9⟩ : ∃ N, N = dn.length := ⟨_, rfl⟩
      obtain ⟨A9, c9, rfl, -⟩ := HO.out.rd hn9 (fun g hg => (HRI.out g).2 (.inr (Nat.le_trans HW1.out.size hg)))
      have hfe : f e = XK := by rw [← HF.out, ← hXK, ← hX1, ← hX2]
      have HM := Lib.hid (And.intro hM1 hM2)
      have P1 := fun w h => Lib.hid (kw_pass A7 c7 n7 ka e E (fun g => R g ∧ g < w1.heap.size) H7.out.1 hE ka2 hka n3 hn3 w h)
      have P2 := fun w h => Lib.hid (kw_pass A8 c8 n8 kb e E (fun g => R g ∧ g < w1.heap.size) H8.out.1 hE kb2 hkb n4 hn4 w h)
      have F1 := fun A c w h => Lib.hid (kw_first A c n3 ka2 e E (fun g => R g ∧ g < w1.heap.size) hn3 hE X1 (hV1.trans hX1) N1 hN1 w h)
      have F2 := fun A c w h => Lib.hid (kw_first A c n4 kb2 e E (fun g => R g ∧ g < w1.heap.size) hn4 hE X2 (hV2.trans hX2) N2 hN2 w h)
      have KK := fun A B c d w h1 h2 => Lib.hid (HKK.out A B c d N1 N2 X1 X2 (fun g => R g ∧ g < w1.heap.size) hN1 hN2 (by rw [← hX1]; exact catK_right HRA.out e) (by rw [← hX2]; exact catK_right HRB.out e) (fun r => by rw [← hX1]; exact HCA.out e r) (fun r => by rw [← hX2]; exact HCB.out e r) XK hXK NK hNK w h1 h2)
      have HN3 := Lib.hid hn3
      have HN4 := Lib.hid hn4
      have hel2 : dn.length + 1 ≤ 200000 := by omega
      have hj0 : (0 : Int) ≤ (j : Int) := by omega
      have hjn : (j : Int) < (K : Int) := by omega
      have hj1 : (0 : Int) ≤ (j : Int) + 1 := by omega
      by_cases hlast : j + 1 < K
      · obtain ⟨e2, hg2, -, -⟩ := get_some (l := es) (k := j + 1) (by have := HKE.out; omega)
        have hdd2 := drop_now hg2
        obtain ⟨T, hT⟩ : ∃ T, str e2 = T := ⟨_, rfl⟩
        have q1 := ((bcell HW.out).1 _ _ hbt).trans (hct (j + 1) e2 hg2)
        rw [hT] at q1
        have hnx : nextR e (es.drop (j + 1)) = ⟨e, e2, false⟩ := by rw [hdd2]; rfl
        have hj2 : (j : Int) + 1 < (K : Int) := by omega
        have hj3 : decide ((j : Int) + 1 < (K : Int)) = true := decide_eq_true hj2
        have hbl : bt < (wr.alloc (.cells #[.string E, .string ⟨#[]⟩, .bool true] 45)).heap.size := by rw [size1]; exact Nat.lt_succ_of_lt (Nat.lt_of_lt_of_le hbt HW.out.size)
        have q2 : (wr.alloc (.cells #[.string E, .string ⟨#[]⟩, .bool true] 45)).cell? ⟨bt, ot + (j + 1), none⟩ = some (.string T) := ((bcell (below_new wr _)).1 _ _ (Nat.lt_of_lt_of_le hbt HW.out.size)).trans q1
        have hIs : IsR (nextR e (es.drop (j + 1))) E T false := by rw [hnx]; exact ⟨hE, hT, rfl⟩
        obtain ⟨U2, hU2⟩ : ∃ U2, putP dn (nextR e (es.drop (j + 1))) XK = U2 := ⟨_, rfl⟩
        have HS2 := Lib.hid (show swP f U2 (es.drop (j + 1)) = U by have h := HS.out; rw [hdd, swP, hfe, hU2] at h; exact h)
        have hl2 : U2.length ≤ j + 1 := by have := putP_len dn (nextR e (es.drop (j + 1))) XK; rw [hU2] at this; omega
        have HL2 := Lib.hid hl2
        have PP := fun A c w hb ho hX => Lib.hid (kw_put R A9 n9 c9 dn w1.heap.size hn9 (nextR e (es.drop (j + 1))) E T false hIs A c NK XK hNK (by omega) U2 hU2 w hb ho hX)
        obtain ⟨w6, hw6⟩ : ∃ w6, wr.alloc (.cells #[.string E, .string T, .bool false] 45) = w6 := ⟨_, rfl⟩
        have h6 : Below wr.heap.size wr w6 := hw6 ▸ below_new _ _
        obtain ⟨g0, g1, g2⟩ := rng_cells hw6
        have hlr : wr.heap.size < w6.heap.size := by rw [← hw6, size1]; omega
        have hneR : (Value.slice A9 n9 c9).ownBlock ≠ some wr.heap.size := fun e9 => by have := (HO.out.lt _ e9).2; omega
        replace HO := Lib.hid (HO.out.below h6)
        have HA6 := Lib.hid (Deep.Rd.call H7.out.2 h6)
        have HB6 := Lib.hid (Deep.Rd.call H8.out.2 h6)
        replace HW := Lib.hid (HW.out.trans (h6.mono HW.out.size))
        clear hM1 hM2 hV1 hV2 hL1 hL2 hka hkb hn3 hn4 hX1 hX2 hN1 hN2 hXK hNK hn9 hfe hg hE htd htk hct hIs hnx hU2 hl2 HS HL hdd H7 H8 HKK HCA HCB HRA HRB HU1 HU2 HF HES h6 q1
        go_upto_region 10 with (first
          | ((with_reducible refine (P1 _ HA6.out).out.mono ?_); rintro e9 w7 ⟨A3, c3, rfl, hrd, hq⟩; have H3 := Lib.hid hrd; replace HB6 := Lib.hid (Deep.Rd.call HB6.out hq); replace HO := Lib.hid (HO.out.below hq); replace HW := Lib.hid (HW.out.trans (hq.mono HW.out.size)); replace g0 := ((bcell hq).1 _ _ hlr).trans g0; replace g1 := ((bcell hq).1 _ _ hlr).trans g1; replace g2 := ((bcell hq).1 _ _ hlr).trans g2; replace hlr := Nat.lt_of_lt_of_le hlr hq.size; clear hrd hq)
          | ((with_reducible refine (P2 _ HB6.out).out.mono ?_); rintro e9 w8 ⟨A4, c4, rfl, hrd, hq⟩; have H4 := Lib.hid hrd; replace H3 := Lib.hid (H3.out.call hq); replace HO := Lib.hid (HO.out.below hq); replace HW := Lib.hid (HW.out.trans (hq.mono HW.out.size)); replace g0 := ((bcell hq).1 _ _ hlr).trans g0; replace g1 := ((bcell hq).1 _ _ hlr).trans g1; replace g2 := ((bcell hq).1 _ _ hlr).trans g2; replace hlr := Nat.lt_of_lt_of_le hlr hq.size; clear hrd hq))
        go_region_held3 (fun w' => w'.cell? ⟨wr.heap.size, 0, none⟩ = some (.string E) ∧ w'.cell? ⟨wr.heap.size, 1, none⟩ = some (.string T) ∧ w'.cell? ⟨wr.heap.size, 2, none⟩ = some (.bool false)) (first | (exact ⟨by assumption, by assumption, by assumption⟩) | go_keep)
          (first
            | (go_at_call 71; (with_reducible refine (F1 _ _ _ (by first | exact H3.out | exact Deep.Rd.call H3.out (Below.refl _ _).drew)).out.mono ?_); rintro e9 w9 ⟨A5, c5, rfl, hrd, hq⟩; (try replace hq := below_of_drew hq); have H5 := Lib.hid hrd; replace H3 := Lib.hid (Deep.Rd.call H3.out hq); replace H4 := Lib.hid (Deep.Rd.call H4.out hq); replace HO := Lib.hid (HO.out.below hq); replace HW := Lib.hid (HW.out.trans (hq.mono HW.out.size)); replace g0 := ((bcell hq).1 _ _ hlr).trans g0; replace g1 := ((bcell hq).1 _ _ hlr).trans g1; replace g2 := ((bcell hq).1 _ _ hlr).trans g2; replace hlr := Nat.lt_of_lt_of_le hlr hq.size; clear hrd hq)
            | (go_at_call 71; (with_reducible refine (F2 _ _ _ (by first | exact H4.out | exact Deep.Rd.call H4.out (Below.refl _ _).drew)).out.mono ?_); rintro e9 w9 ⟨A6, c6, rfl, hrd, hq⟩; (try replace hq := below_of_drew hq); have H6 := Lib.hid hrd; replace H3 := Lib.hid (Deep.Rd.call H3.out hq); replace H4 := Lib.hid (Deep.Rd.call H4.out hq); replace H5 := Lib.hid (Deep.Rd.call H5.out hq); replace HO := Lib.hid (HO.out.below hq); replace HW := Lib.hid (HW.out.trans (hq.mono HW.out.size)); replace g0 := ((bcell hq).1 _ _ hlr).trans g0; replace g1 := ((bcell hq).1 _ _ hlr).trans g1; replace g2 := ((bcell hq).1 _ _ hlr).trans g2; replace hlr := Nat.lt_of_lt_of_le hlr hq.size; clear hrd hq)
            | ((with_reducible refine (KK _ _ _ _ _ H5.out H6.out).out.mono ?_); rintro e9 w9 ⟨A10, c10, rfl, hrd, hq⟩; have HX := Lib.hid (hrd.mono (T := fun g => R g ∧ (Value.slice A9 n9 c9).ownBlock ≠ some g) fun g hg => ⟨by rcases hg with hg | hg; exact hg.1; exact (HRI.out g).2 (.inr (by have h1 := HW1.out.size; have h2 := HW.out.size; omega)), fun e5 => by have := HO.out.lt g e5; rcases hg with ⟨-, hg⟩ | hg <;> omega⟩); replace H3 := Lib.hid (Deep.Rd.call H3.out hq); replace H4 := Lib.hid (Deep.Rd.call H4.out hq); replace HO := Lib.hid (HO.out.below hq); replace HW := Lib.hid (HW.out.trans (hq.mono HW.out.size)); replace g0 := ((bcell hq).1 _ _ hlr).trans g0; replace g1 := ((bcell hq).1 _ _ hlr).trans g1; replace g2 := ((bcell hq).1 _ _ hlr).trans g2; replace hlr := Nat.lt_of_lt_of_le hlr hq.size; clear hrd hq)
            | (go_at_call 70; (with_reducible refine (PP _ _ _ HW.out.size HO.out HX.out).out.mono ?_); rintro e9 w9 ⟨v10, rfl, hop, hq, hkp⟩; replace g0 := (hkp ⟨wr.heap.size, 0, none⟩ hneR hlr).trans g0; replace g1 := (hkp ⟨wr.heap.size, 1, none⟩ hneR hlr).trans g1; replace g2 := (hkp ⟨wr.heap.size, 2, none⟩ hneR hlr).trans g2; have HO10 := Lib.hid hop; have HW10 := Lib.hid (HW.out.trans hq); replace H3 := Lib.hid (Deep.Rd.keep H3.out (keptS_under hq fun g h => h.2)); replace H4 := Lib.hid (Deep.Rd.keep H4.out (keptS_under hq fun g h => h.2)); clear hop hq hkp))
        all_goals
          go_wp2_with fail
          go_roundw
          case rel => exact ⟨j + 1, ka2, kb2, U2, A3, A4, n3, c3, n4, c4, by omega, rfl, rfl, by go_num, ⟨HN3.out, H3.out⟩, ⟨HN4.out, H4.out⟩, HM.out, HO10, HS2, HL2.out, HW10⟩
          case measure => simp [intOf]; omega
      · have hnx : nextR e (es.drop (j + 1)) = ⟨e, [], true⟩ := by rw [List.drop_eq_nil_of_le (by have := HKE.out; omega)]; rfl
        have hj3 : decide ((j : Int) + 1 < (K : Int)) = false := decide_eq_false (by omega)
        have hIs : IsR (nextR e (es.drop (j + 1))) E ⟨#[]⟩ true := by rw [hnx]; exact ⟨hE, rfl, rfl⟩
        obtain ⟨U2, hU2⟩ : ∃ U2, putP dn (nextR e (es.drop (j + 1))) XK = U2 := ⟨_, rfl⟩
        have HS2 := Lib.hid (show swP f U2 (es.drop (j + 1)) = U by have h := HS.out; rw [hdd, swP, hfe, hU2] at h; exact h)
        have hl2 : U2.length ≤ j + 1 := by have := putP_len dn (nextR e (es.drop (j + 1))) XK; rw [hU2] at this; omega
        have HL2 := Lib.hid hl2
        have PP := fun A c w hb ho hX => Lib.hid (kw_put R A9 n9 c9 dn w1.heap.size hn9 (nextR e (es.drop (j + 1))) E ⟨#[]⟩ true hIs A c NK XK hNK (by omega) U2 hU2 w hb ho hX)
        obtain ⟨w6, hw6⟩ : ∃ w6, wr.alloc (.cells #[.string E, .string ⟨#[]⟩, .bool true] 45) = w6 := ⟨_, rfl⟩
        have h6 : Below wr.heap.size wr w6 := hw6 ▸ below_new _ _
        obtain ⟨g0, g1, g2⟩ := rng_cells hw6
        have hlr : wr.heap.size < w6.heap.size := by rw [← hw6, size1]; omega
        have hneR : (Value.slice A9 n9 c9).ownBlock ≠ some wr.heap.size := fun e9 => by have := (HO.out.lt _ e9).2; omega
        replace HO := Lib.hid (HO.out.below h6)
        have HA6 := Lib.hid (Deep.Rd.call H7.out.2 h6)
        have HB6 := Lib.hid (Deep.Rd.call H8.out.2 h6)
        replace HW := Lib.hid (HW.out.trans (h6.mono HW.out.size))
        clear hM1 hM2 hV1 hV2 hL1 hL2 hka hkb hn3 hn4 hX1 hX2 hN1 hN2 hXK hNK hn9 hfe hg hE htd htk hct hIs hnx hU2 hl2 HS HL hdd H7 H8 HKK HCA HCB HRA HRB HU1 HU2 HF HES h6
        go_upto_region 10 with (first
          | ((with_reducible refine (P1 _ HA6.out).out.mono ?_); rintro e9 w7 ⟨A3, c3, rfl, hrd, hq⟩; have H3 := Lib.hid hrd; replace HB6 := Lib.hid (Deep.Rd.call HB6.out hq); replace HO := Lib.hid (HO.out.below hq); replace HW := Lib.hid (HW.out.trans (hq.mono HW.out.size)); replace g0 := ((bcell hq).1 _ _ hlr).trans g0; replace g1 := ((bcell hq).1 _ _ hlr).trans g1; replace g2 := ((bcell hq).1 _ _ hlr).trans g2; replace hlr := Nat.lt_of_lt_of_le hlr hq.size; clear hrd hq)
          | ((with_reducible refine (P2 _ HB6.out).out.mono ?_); rintro e9 w8 ⟨A4, c4, rfl, hrd, hq⟩; have H4 := Lib.hid hrd; replace H3 := Lib.hid (H3.out.call hq); replace HO := Lib.hid (HO.out.below hq); replace HW := Lib.hid (HW.out.trans (hq.mono HW.out.size)); replace g0 := ((bcell hq).1 _ _ hlr).trans g0; replace g1 := ((bcell hq).1 _ _ hlr).trans g1; replace g2 := ((bcell hq).1 _ _ hlr).trans g2; replace hlr := Nat.lt_of_lt_of_le hlr hq.size; clear hrd hq))
        go_region_held3 (fun w' => w'.cell? ⟨wr.heap.size, 0, none⟩ = some (.string E) ∧ w'.cell? ⟨wr.heap.size, 1, none⟩ = some (.string ⟨#[]⟩) ∧ w'.cell? ⟨wr.heap.size, 2, none⟩ = some (.bool true)) (first | (exact ⟨by assumption, by assumption, by assumption⟩) | go_keep)
          (first
            | (go_at_call 71; (with_reducible refine (F1 _ _ _ (by first | exact H3.out | exact Deep.Rd.call H3.out (Below.refl _ _).drew)).out.mono ?_); rintro e9 w9 ⟨A5, c5, rfl, hrd, hq⟩; (try replace hq := below_of_drew hq); have H5 := Lib.hid hrd; replace H3 := Lib.hid (Deep.Rd.call H3.out hq); replace H4 := Lib.hid (Deep.Rd.call H4.out hq); replace HO := Lib.hid (HO.out.below hq); replace HW := Lib.hid (HW.out.trans (hq.mono HW.out.size)); replace g0 := ((bcell hq).1 _ _ hlr).trans g0; replace g1 := ((bcell hq).1 _ _ hlr).trans g1; replace g2 := ((bcell hq).1 _ _ hlr).trans g2; replace hlr := Nat.lt_of_lt_of_le hlr hq.size; clear hrd hq)
            | (go_at_call 71; (with_reducible refine (F2 _ _ _ (by first | exact H4.out | exact Deep.Rd.call H4.out (Below.refl _ _).drew)).out.mono ?_); rintro e9 w9 ⟨A6, c6, rfl, hrd, hq⟩; (try replace hq := below_of_drew hq); have H6 := Lib.hid hrd; replace H3 := Lib.hid (Deep.Rd.call H3.out hq); replace H4 := Lib.hid (Deep.Rd.call H4.out hq); replace H5 := Lib.hid (Deep.Rd.call H5.out hq); replace HO := Lib.hid (HO.out.below hq); replace HW := Lib.hid (HW.out.trans (hq.mono HW.out.size)); replace g0 := ((bcell hq).1 _ _ hlr).trans g0; replace g1 := ((bcell hq).1 _ _ hlr).trans g1; replace g2 := ((bcell hq).1 _ _ hlr).trans g2; replace hlr := Nat.lt_of_lt_of_le hlr hq.size; clear hrd hq)
            | ((with_reducible refine (KK _ _ _ _ _ H5.out H6.out).out.mono ?_); rintro e9 w9 ⟨A10, c10, rfl, hrd, hq⟩; have HX := Lib.hid (hrd.mono (T := fun g => R g ∧ (Value.slice A9 n9 c9).ownBlock ≠ some g) fun g hg => ⟨by rcases hg with hg | hg; exact hg.1; exact (HRI.out g).2 (.inr (by have h1 := HW1.out.size; have h2 := HW.out.size; omega)), fun e5 => by have := HO.out.lt g e5; rcases hg with ⟨-, hg⟩ | hg <;> omega⟩); replace H3 := Lib.hid (Deep.Rd.call H3.out hq); replace H4 := Lib.hid (Deep.Rd.call H4.out hq); replace HO := Lib.hid (HO.out.below hq); replace HW := Lib.hid (HW.out.trans (hq.mono HW.out.size)); replace g0 := ((bcell hq).1 _ _ hlr).trans g0; replace g1 := ((bcell hq).1 _ _ hlr).trans g1; replace g2 := ((bcell hq).1 _ _ hlr).trans g2; replace hlr := Nat.lt_of_lt_of_le hlr hq.size; clear hrd hq)
            | (go_at_call 70; (with_reducible refine (PP _ _ _ HW.out.size HO.out HX.out).out.mono ?_); rintro e9 w9 ⟨v10, rfl, hop, hq, hkp⟩; replace g0 := (hkp ⟨wr.heap.size, 0, none⟩ hneR hlr).trans g0; replace g1 := (hkp ⟨wr.heap.size, 1, none⟩ hneR hlr).trans g1; replace g2 := (hkp ⟨wr.heap.size, 2, none⟩ hneR hlr).trans g2; have HO10 := Lib.hid hop; have HW10 := Lib.hid (HW.out.trans hq); replace H3 := Lib.hid (Deep.Rd.keep H3.out (keptS_under hq fun g h => h.2)); replace H4 := Lib.hid (Deep.Rd.keep H4.out (keptS_under hq fun g h => h.2)); clear hop hq hkp))
        all_goals
          go_wp2_with fail
          go_roundw
          case rel => exact ⟨j + 1, ka2, kb2, U2, A3, A4, n3, c3, n4, c4, by omega, rfl, rfl, by go_num, ⟨HN3.out, H3.out⟩, ⟨HN4.out, H4.out⟩, HM.out, HO10, HS2, HL2.out, HW10⟩
          case measure => simp [intOf]; omega
    · have HE := Lib.hid (show dn = U from by
        have h := HS.out
        rw [List.drop_eq_nil_of_le (by have := HKE.out; omega)] at h
        exact h)
      obtain ⟨A9, c9, rfl, hrd⟩ := HO.out.rd (n := N) (by rw [HE.out]; exact HNN.out) (fun g hg => (HRI.out g).2 (.inr (Nat.le_trans HW1.out.size hg)))
      have HD := Lib.hid hrd
      clear hrd HO HRT
      go_wp2_with fail
      go_ret
      exact ⟨A9, c9, rfl, by rw [← HE.out]; exact HD.out.mono (fun g hg => (HRI.out g).1 hg), HW1.out.trans (HW.out.mono HW1.out.size)⟩
end Go.Proofs.YtopjhebhdopjpaaGreat

namespace Go.Proofs.YtopjhebhdopjpaaGreat
open Go.RowKit

theorem Deep.Own.stored {P : Program} {β α : Type} {d : Deep P β α} {w : World} {base g n c : Nat} {S : Nat → Prop} {s : List α} (h : d.Own w base S (.slice (some ⟨g, 0, none⟩) n c) s) (hn : n = s.length) {i j : Nat} {x : α} (hx : s[i]? = some x) (hj : j < d.k.size) {v : Value}
    (hb : ∀ b, d.rel w (fun g' => S g' ∧ (Value.slice (some ⟨g, 0, none⟩) n c).ownBlock ≠ some g') b x → ∃ b', (d.k.cells b).set j v = d.k.cells b' ∧ d.rel w (fun g' => S g' ∧ (Value.slice (some ⟨g, 0, none⟩) n c).ownBlock ≠ some g') b' x) :
    d.Own (w.setCell ⟨g, i * d.k.size + j, none⟩ v) base S (.slice (some ⟨g, 0, none⟩) n c) s := by
  obtain ⟨bs, h1, h2⟩ := h
  have hnb : n = bs.length := hn.trans h2.1.symm
  have hil : i < bs.length := by rw [h2.1]; exact (List.getElem?_eq_some_iff.1 hx).1
  obtain ⟨b, hbi⟩ : ∃ b, bs[i]? = some b := ⟨_, List.getElem?_eq_getElem hil⟩
  obtain ⟨b', e1, e2⟩ := hb b (h2.2 i b x hbi hx)
  have hkeep : KeptS (fun g' => S g' ∧ (Value.slice (some ⟨g, 0, none⟩) n c).ownBlock ≠ some g') w (w.setCell ⟨g, i * d.k.size + j, none⟩ v) := keptS_set v fun b hb e => hb.2 (by rw [e]; rfl)
  refine ⟨bs.set i b', Kind.Own.stored h1 hnb hbi hj e1, by rw [List.length_set, h2.1], fun i' b2 a2 hb2 ha2 => ?_⟩
  by_cases hi : i' = i
  · subst hi
    rw [List.getElem?_set_self hil] at hb2
    injection hb2 with hb2
    subst hb2
    rw [hx] at ha2
    injection ha2 with ha2
    subst ha2
    exact d.keep e2 hkeep
  · rw [List.getElem?_set_ne (fun e => hi e.symm)] at hb2
    exact d.keep (h2.2 i' b2 a2 hb2 ha2) hkeep
theorem Deep.Own.at_ {P : Program} {β α : Type} {d : Deep P β α} {w : World} {base n c : Nat} {S : Nat → Prop} {A : Option Addr} {s : List α} (h : d.Own w base S (.slice A n c) s) (hn : n = s.length) {i : Nat} {x : α} (hx : s[i]? = some x) :
    ∃ (g : Nat) (y : β), A = some ⟨g, 0, none⟩ ∧ base ≤ g ∧ g < w.heap.size ∧ (∀ j, w.frozen? ⟨g, j, none⟩ = false) ∧ d.rel w (fun g' => S g' ∧ (Value.slice A n c).ownBlock ≠ some g') y x ∧ ∀ j u, (d.k.cells y)[j]? = some u → w.cell? ⟨g, i * d.k.size + j, none⟩ = some u := by
  obtain ⟨bs, h1, h2⟩ := h
  have hil : i < bs.length := by rw [h2.1]; exact (List.getElem?_eq_some_iff.1 hx).1
  obtain ⟨g, c', hv, -, hg1, hg2, hf, hc⟩ := h1.some_ (hn.trans h2.1.symm) (by rw [hn, ← h2.1]; omega)
  injection hv with hA
  obtain ⟨b, hbi⟩ : ∃ b, bs[i]? = some b := ⟨_, List.getElem?_eq_getElem hil⟩
  exact ⟨g, b, hA, hg1, hg2, hf, h2.2 i b x hbi hx, hc i b hbi⟩
theorem runs_part {s : List Kn} {x : Kn} (h : x ∈ s) : x.runs.length ≤ (runsV s x.rep).length := by
  obtain ⟨a, b, rfl⟩ := List.append_of_mem h
  rw [runsV_append, runsV, partV_yes rfl, List.length_append, List.length_append]
  omega
set_option maxRecDepth 100000 in
set_option maxHeartbeats 16000000 in
theorem kw_own (A : Option Addr) (c n : Nat) (k : List Pc) (hn : n = k.length) (hnl : n ≤ 500000) (hsl : ∀ p ∈ k, p.set.length ≤ 500000) (hrl : ∀ p ∈ k, ∀ r, (runsV p.set r).length ≤ 100000) (w : World) (hr : RdPc w A c k) :
    Calls Tryz.prog 38 #[.slice A n c] w (RetP w n k) := by
  obtain ⟨bs, hbs, hball⟩ := Deep.Rd.lives hr
  have C1 := Lib.hid (kw_cloneP A c n bs (hn.trans hball.1.symm) hnl w hbs.rd)
  have HN := Lib.hid hn
  have HBA := Lib.hid hball
  have HSL := Lib.hid hsl
  have HRL := Lib.hid hrl
  clear hn hsl hrl hr hbs hball
  go_enter Tryz.func38, Tryz.ntmps38
  go_wp2_with ((with_reducible refine C1.out.mono ?_); rintro e w1 ⟨v1, rfl, ho, hq⟩; obtain ⟨A9, c9, rfl, hrd9⟩ := ho.read_n (HN.out.trans HBA.out.1.symm); have HO1 := Lib.hid (show dPc.Own w1 w.heap.size (fun _ => True) (.slice A9 n c9) k from ⟨bs, ho, (HBA.out.keep (keptS_below hq _)).mono fun g h => ⟨trivial, fun e => by have := (ho.lt g e).1; have := h.2; omega⟩⟩); have hc9 : n ≤ c9 := (by have := hrd9.room; rw [HBA.out.1, ← HN.out] at this; exact this); have HW1 := Lib.hid hq; clear ho hq hrd9)
  clear C1 HBA
  go_loopw [12] (fun i wr => ∃ j : Nat, j ≤ n ∧ i = .int .i64 j ∧ Hid (dPc.Own wr w.heap.size (fun _ => True) (.slice A9 n c9) k) ∧ Hid (Below w.heap.size w wr)) (fun i _ => n - (intOf i).toNat)
  case atStart => exact ⟨0, by omega, rfl, HO1.out, HW1.out⟩
  case round =>
    clear HO1 HW1
    obtain ⟨j, hj, rfl, HO, HW⟩ := hrel
    by_cases hlt : j < n
    · obtain ⟨x, hg, -, hxm⟩ := get_some (l := k) (k := j) (by have := HN.out; omega)
      obtain ⟨g, y, rfl, hg1, hg2, hfz, ⟨hrel1, hyn, hyr⟩, hcell⟩ := HO.out.at_ HN.out hg
      have p0 : wr.cell? ⟨g, j * 4, none⟩ = some (.string (str y.rng.lo)) := hcell 0 _ rfl
      have p1 : wr.cell? ⟨g, j * 4 + 1, none⟩ = some (.string (str y.rng.hi)) := hcell 1 _ rfl
      have p2 : wr.cell? ⟨g, j * 4 + 2, none⟩ = some (.bool y.rng.op) := hcell 2 _ rfl
      have p3 : wr.cell? ⟨g, j * 4 + 3, none⟩ = some (.slice y.A y.n y.c) := hcell 3 _ rfl
      obtain ⟨S1, hS1⟩ : ∃ S, str y.rng.lo = S := ⟨_, rfl⟩
      obtain ⟨S2, hS2⟩ : ∃ S, str y.rng.hi = S := ⟨_, rfl⟩
      obtain ⟨q, hq⟩ : ∃ q, y.rng.op = q := ⟨_, rfl⟩
      obtain ⟨A', hA'⟩ : ∃ A', y.A = A' := ⟨_, rfl⟩
      obtain ⟨n', hn'⟩ : ∃ n', y.n = n' := ⟨_, rfl⟩
      obtain ⟨c', hc'⟩ : ∃ c', y.c = c' := ⟨_, rfl⟩
      rw [hS1] at p0
      rw [hS2] at p1
      rw [hq] at p2
      rw [hA', hn', hc'] at p3
      rw [hA', hc'] at hyr
      rw [hn'] at hyn
      obtain ⟨ys, hys, hyall⟩ := Deep.Rd.lives hyr
      obtain ⟨wb, hwb⟩ : ∃ wb, wr.alloc (.cells #[.string S1, .string S2, .bool q, .slice A' n' c'] 48) = wb := ⟨_, rfl⟩
      have hbb : Below wr.heap.size wr wb := hwb ▸ below_new _ _
      obtain ⟨-, -, -, z3⟩ := piece_cells hwb
      have hgb : g < wb.heap.size := Nat.lt_of_lt_of_le hg2 hbb.size
      have hsx := HSL.out x hxm
      have hn5 : n' ≤ 500000 := by omega
      have HRX := Lib.hid (fun (r : Int) => HRL.out x hxm r)
      have C2 := Lib.hid (kw_cloneK A' c' n' ys (hyn.trans hyall.1.symm) (by omega) wb (hys.rd.call hbb))
      have HYN := Lib.hid hyn
      have HYL := Lib.hid (hyn.trans hyall.1.symm)
      have HYA := Lib.hid (hyall.keep (keptS_below hbb _))
      have HLB := Lib.hid hbb.size
      have HO2 := Lib.hid (HO.out.below hbb)
      have HWB := Lib.hid (HW.out.trans (hbb.mono HW.out.size))
      have HG := Lib.hid hg
      have hj0 : (0 : Int) ≤ (j : Int) := by omega
      have hjn : (j : Int) < (n : Int) := by omega
      have f3 : wb.frozen? ⟨g, j * 4 + 3, none⟩ = false := ((bcell hbb).2 _ _ hg2).trans (hfz _)
      have p3b := ((bcell hbb).1 _ _ hg2).trans p3
      have HF3 := Lib.hid (And.intro p3b f3)
      clear hcell hrel1 hyr hyn hys hyall hS1 hS2 hq hA' hn' hc' hbb hfz hg hxm hsx HO f3 p3b
      go_wp2_with ((with_reducible refine C2.out.mono ?_); rintro e w2 ⟨v5, rfl, ho5, hq⟩; obtain ⟨A5, c5, rfl, hrd5⟩ := ho5.read_n HYL.out; have H5 := Lib.hid (show dKn.Own w2 wb.heap.size (fun b => (Value.slice (some ⟨g, 0, none⟩) n c9).ownBlock ≠ some b) (.slice A5 n' c5) x.set from ⟨ys, ho5, (HYA.out.keep (keptS_below hq _)).mono fun b h => ⟨h.1.2, fun e => by have := (ho5.lt b e).1; have := h.2; have := HLB.out; omega⟩⟩); have hc5 : n' ≤ c5 := (by have := hrd5.room; rw [← HYL.out] at this; exact this); have HB5 := Lib.hid hq; clear ho5 hq hrd5)
      clear C2 HYA p0 p1 p2 p3 z3
      go_loopw [22] (fun i2 wx => ∃ i : Nat, i ≤ n' ∧ i2 = .int .i64 i ∧ Hid (dKn.Own wx wb.heap.size (fun b => (Value.slice (some ⟨g, 0, none⟩) n c9).ownBlock ≠ some b) (.slice A5 n' c5) x.set) ∧ Hid (Below wb.heap.size wb wx)) (fun i2 _ => n' - (intOf i2).toNat)
      case atStart => exact ⟨0, by omega, rfl, H5.out, HB5.out⟩
      case round =>
        clear H5 HB5
        obtain ⟨i, hi, rfl, H5, HB5⟩ := hrel
        by_cases hlt2 : i < n'
        · obtain ⟨x2, hgx, -, hx2m⟩ := get_some (l := x.set) (k := i) (by have := HYN.out; omega)
          obtain ⟨g5, y5, rfl, hg51, hg52, hfz5, ⟨e1, e2, e3⟩, hcell5⟩ := H5.out.at_ HYN.out hgx
          have r0 : wr.cell? ⟨g5, i * 2, none⟩ = some (.int .i64 y5.rep) := hcell5 0 _ rfl
          have r1 : wr.cell? ⟨g5, i * 2 + 1, none⟩ = some (.slice y5.A y5.n y5.c) := hcell5 1 _ rfl
          obtain ⟨X, hX⟩ : ∃ X, y5.rep = X := ⟨_, rfl⟩
          obtain ⟨A2, hA2⟩ : ∃ A', y5.A = A' := ⟨_, rfl⟩
          obtain ⟨n2, hn2⟩ : ∃ n', y5.n = n' := ⟨_, rfl⟩
          obtain ⟨c2, hc2⟩ : ∃ c', y5.c = c' := ⟨_, rfl⟩
          rw [hX] at r0
          rw [hA2, hn2, hc2] at r1
          rw [hA2, hc2] at e3
          rw [hn2] at e2
          obtain ⟨wx, hwx⟩ : ∃ wx, wr.alloc (.cells #[.int .i64 X, .slice A2 n2 c2] 64) = wx := ⟨_, rfl⟩
          have hbx : Below wr.heap.size wr wx := hwx ▸ below_new _ _
          have hnew := heap_new wr (.cells #[.int .i64 X, .slice A2 n2 c2] 64) _ rfl
          have s1 : wx.cell? ⟨wr.heap.size, 1, none⟩ = some (.slice A2 n2 c2) := by rw [← hwx, cell_of_row _ _ _ _ _ _ hnew]; rfl
          have hl2 : x2.runs.length ≤ 100000 := Nat.le_trans (runs_part hx2m) (HRX.out _)
          have C3 := Lib.hid (cn_clone A2 c2 n2 x2.runs e2 (by omega) wx (e3.rd.call hbx))
          have hgx5 : g5 < wx.heap.size := Nat.lt_of_lt_of_le hg52 hbx.size
          have hgx9 : g < wx.heap.size := Nat.lt_of_lt_of_le hgb (Nat.le_trans HB5.out.size hbx.size)
          have F5 := Lib.hid (And.intro (((bcell hbx).1 _ _ hg52).trans r1) (((bcell hbx).2 _ _ hg52).trans (hfz5 (i * 2 + 1))))
          have H5X := Lib.hid (H5.out.below hbx)
          have HBX := Lib.hid (HB5.out.trans (hbx.mono HB5.out.size))
          have HN2 := Lib.hid e2
          have HGX := Lib.hid hgx
          have hi0 : (0 : Int) ≤ (i : Int) := by omega
          have hin : (i : Int) < (n' : Int) := by omega
          clear hcell5 e1 e2 e3 hX hA2 hn2 hc2 hbx hnew hl2 hfz5 hgx hx2m H5 HB5
          go_wp2_with ((with_reducible refine C3.out.mono ?_); rintro e w7 ⟨v6, rfl, ho6, hq⟩; obtain ⟨A6, c6, rfl, -⟩ := ho6.read_n HN2.out; have k1 := ((bcell hq).1 _ _ hgx5).trans F5.out.1; have k2 := ((bcell hq).2 _ _ hgx5).trans F5.out.2; have H6 := Lib.hid ho6; have H57 := Lib.hid (H5X.out.below hq); have HB7 := Lib.hid (HBX.out.trans (hq.mono HBX.out.size)); clear ho6 hq)
          go_roundw
          case measure => simp [intOf]; omega
          case rel =>
            have hst := Deep.Own.stored (d := dKn) H57.out HYN.out HGX.out (j := 1) (v := .slice A6 n2 c6) (by decide) (fun b hb => ⟨⟨b.rep, A6, n2, c6⟩, rfl, hb.1, HN2.out, (H6.out.rdS HN2.out).mono fun b (hb : wx.heap.size ≤ b) => ⟨fun e => by have e2 : some g = some b := e; injection e2 with e2; omega, fun e => by have e2 : some g5 = some b := e; injection e2 with e2; omega⟩⟩)
            exact ⟨i + 1, by omega, by go_num, hst, HB7.out.setCell (p := ⟨g5, i * 2 + 1, none⟩) hg51 _⟩
        · have q3 := ((bcell HB5.out).1 _ _ hgb).trans HF3.out.1
          have q4 := ((bcell HB5.out).2 _ _ hgb).trans HF3.out.2
          go_wp2_with fail
          obtain ⟨A8, c8, he, hrd8⟩ := H5.out.rd HYN.out (fun b hb e => by have e2 : some g = some b := e; injection e2 with e2; omega)
          cases he
          have hst := Deep.Own.stored (d := dPc) (HO2.out.below HB5.out) HN.out HG.out (j := 3) (v := .slice A5 n' c5) (by decide) (fun b hb => ⟨⟨b.rng, A5, n', c5⟩, rfl, hb.1, HYN.out, hrd8.mono fun b hb => ⟨trivial, hb⟩⟩)
          exact ⟨⟨j + 1, by omega, by go_num, hst, (HWB.out.trans (HB5.out.mono HWB.out.size)).setCell (p := ⟨g, j * 4 + 3, none⟩) hg1 _⟩, by simp [intOf]; omega⟩
    · go_wp2_with fail
      go_ret
      obtain ⟨A8, c8, he, hrd⟩ := HO.out.rd HN.out (fun _ _ => trivial)
      cases he
      exact ⟨_, _, rfl, hrd, HW.out⟩
end Go.Proofs.YtopjhebhdopjpaaGreat

namespace Go.Proofs.YtopjhebhdopjpaaGreat

end Go.Proofs.YtopjhebhdopjpaaGreat

namespace Go.Proofs.YtopjhebhdopjpaaGreat
open Go.RowKit

theorem CapN.left {L B : Nat} {a b : List Pc} (h : CapN L B (a ++ b)) : CapN L B a :=
  ⟨by have := h.len; rw [List.length_append] at this; omega, fun p hp => h.each p (List.mem_append.2 (.inl hp)), fun p hp => h.own p (List.mem_append.2 (.inl hp)), fun s r => by have := h.runs s r; rw [catK_append, runsV_append, List.length_append] at this; omega⟩
theorem CapN.right_ {L B : Nat} {a b : List Pc} (h : CapN L B (a ++ b)) : CapN L B b :=
  ⟨by have := h.len; rw [List.length_append] at this; omega, fun p hp => h.each p (List.mem_append.2 (.inr hp)), fun p hp => h.own p (List.mem_append.2 (.inr hp)), fun s r => by have := h.runs s r; rw [catK_append, runsV_append, List.length_append] at this; omega⟩
theorem tidyP_runs : ∀ (k : List Pc) (s : List UInt8) (r : Int), (runsV (catK (tidyP k) s) r).length ≤ (runsV (catK k s) r).length
  | [], _, _ => Nat.le_refl _
  | p :: k, s, r => by
    rw [tidyP_cons, catK, runsV_append, runsV_append, List.length_append, List.length_append]
    refine Nat.add_le_add ?_ (tidyP_runs k s r)
    cases hr : hasR p.rng s with
    | false =>
      have h2 : setP (normPc p) s = [] := setP_no (by rw [normPc_rng]; exact hr)
      rw [h2]
      cases onePc (normPc p) <;> exact Nat.zero_le _
    | true =>
      have h2 : setP (normPc p) s = ofS p.set := by rw [← normPc_set]; exact setP_yes (by rw [normPc_rng]; exact hr)
      rw [h2, setP_yes hr]
      cases onePc (normPc p)
      · exact Nat.zero_le _
      · exact ofS_short p.set r
theorem tidyP_mem {k : List Pc} {p : Pc} (h : p ∈ tidyP k) : ∃ x ∈ k, p = normPc x ∧ onePc p = true := by
  obtain ⟨h1, h2⟩ := List.mem_filter.1 h
  obtain ⟨x, hx, rfl⟩ := List.mem_map.1 h1
  exact ⟨x, hx, rfl, h2⟩
theorem tidyP_len (k : List Pc) : (tidyP k).length ≤ k.length := Nat.le_trans (List.length_filter_le _ _) (by rw [List.length_map]; exact Nat.le_refl _)
theorem CapN.tidy {L B : Nat} {k : List Pc} (h : CapN L B k) : CapN L B (tidyP k) := by
  refine ⟨Nat.le_trans (tidyP_len k) h.len, fun p hp => ?_, fun p hp r => ?_, fun s r => Nat.le_trans (tidyP_runs k s r) (h.runs s r)⟩
  · obtain ⟨x, hx, rfl, h1⟩ := tidyP_mem hp
    have h2 := h.each x hx
    refine ⟨by rw [normPc_rng]; exact h2.1, by rw [normPc_rng]; exact h2.2.1, ?_⟩
    exact upS_length (onePc_iff.1 h1).2.2
  · obtain ⟨x, hx, rfl, -⟩ := tidyP_mem hp
    rw [normPc_set]
    exact Nat.le_trans (ofS_short x.set r) (h.own x hx r)
theorem ofP_runs (k : List Pc) (s : List UInt8) (r : Int) : (runsV (catK (ofP k) s) r).length ≤ (runsV (catK k s) r).length := by
  rw [← atK_right (ofP_right k), ofP_at]
  exact ofS_short _ r
theorem ofP_len (k : List Pc) : (ofP k).length ≤ 1 + 2 * k.length := by
  have h := makeP_len 1 k [] []
  rw [List.length_nil] at h
  show (makeP 1 k [] []).length ≤ _
  omega
theorem ofPs_runs : ∀ (ls : List (List Pc)) (s : List UInt8) (r : Int), (runsV (catK (ls.map ofP).flatten s) r).length ≤ (runsV (catK ls.flatten s) r).length
  | [], _, _ => Nat.le_refl _
  | l :: ls, s, r => by
    have h1 := ofPs_runs ls s r
    have h2 := ofP_runs l s r
    rw [List.map_cons, List.flatten_cons, List.flatten_cons, catK_append, catK_append, runsV_append, runsV_append, List.length_append, List.length_append]
    omega
theorem ofPs_len : ∀ (ls : List (List Pc)), (ls.map ofP).flatten.length ≤ ls.length + 2 * ls.flatten.length
  | [] => Nat.le_refl _
  | l :: ls => by
    have h1 := ofPs_len ls
    have h2 := ofP_len l
    rw [List.map_cons, List.flatten_cons, List.flatten_cons, List.length_append, List.length_append, List.length_cons]
    omega
theorem CapN.mem {L B : Nat} : ∀ {ls : List (List Pc)} {l : List Pc}, CapN L B ls.flatten → l ∈ ls → CapN L B l
  | m :: ls, l, h, hl => by
    rw [List.flatten_cons] at h
    rcases List.mem_cons.1 hl with rfl | hl
    · exact h.left
    · exact CapN.mem h.right_ hl
theorem CapN.ofPs {L B : Nat} {ls : List (List Pc)} (h : CapN L B ls.flatten) : CapN (ls.length + 2 * L) B (ls.map ofP).flatten := by
  refine ⟨Nat.le_trans (ofPs_len ls) (by have := h.len; omega), fun p hp => ?_, fun p hp r => ?_, fun s r => Nat.le_trans (ofPs_runs ls s r) (h.runs s r)⟩
  · obtain ⟨l, hl, hp⟩ := List.mem_flatten.1 hp
    obtain ⟨k, hk, rfl⟩ := List.mem_map.1 hl
    exact (h.mem hk).of.each p hp
  · obtain ⟨l, hl, hp⟩ := List.mem_flatten.1 hp
    obtain ⟨k, hk, rfl⟩ := List.mem_map.1 hl
    exact (h.mem hk).of.own p hp r
theorem ofPs_of : ∀ ls : List (List Pc), ofP (ls.map ofP).flatten = ofP ls.flatten
  | [] => rfl
  | l :: ls => by
    rw [List.map_cons, List.flatten_cons, List.flatten_cons, ← joinP_of, ← joinP_of, ofPs_of ls, ofP_self (ofP_right l)]
theorem singles_flat (k : List Pc) : (k.map fun p => [p]).flatten = k := by induction k with
  | nil => rfl
  | cons p k ih => rw [List.map_cons, List.flatten_cons, ih]; rfl
theorem pp_sizeOf : ∀ w, (sizeOf kSlP.el).run Tryz.prog w = .ok kSlP.size w := fun w => by kernel_rfl
theorem rows_atS {w : World} {S : Nat → Prop} {A : Option Addr} {c : Nat} {ls : List (List Pc)} (h : dSlP.Rd w S A c ls) {k : Nat} {l : List Pc} (hl : ls[k]? = some l) :
    ∃ b o A1 n1 c1, A = some ⟨b, o, none⟩ ∧ b < w.heap.size ∧ w.cell? ⟨b, o + k, none⟩ = some (.slice A1 n1 c1) ∧ n1 = l.length ∧ dPc.Rd w S A1 c1 l := by
  obtain ⟨b, o, e1, -, e2, e3⟩ := Deep.Rd.at_ h (by have := (List.getElem?_eq_some_iff.1 hl).1; omega)
  obtain ⟨y, ⟨g1, g2⟩, g3⟩ := e3 k l hl
  have h6 := g3 0 _ rfl
  rw [show dSlP.k.size = 1 from rfl, Nat.mul_one, Nat.add_zero] at h6
  exact ⟨b, o, y.A, y.n, y.c, e1, e2, h6, g1, g2⟩
theorem Deep.Ret.to {w : World} {S : Nat → Prop} {N : Nat} {k : List Pc} {e : Ending} {w' : World} (h : dPc.Ret w S N k e w') : RetP w N k e w' := by
  obtain ⟨A, c, h1, h2, h3⟩ := h
  exact ⟨A, c, h1, Deep.Rd.all h2, h3⟩
set_option maxRecDepth 100000 in
theorem kw_join0 (S : Nat → Prop) (A : Option Addr) (c : Nat) (w : World) : Calls Tryz.prog 57 #[.slice A 0 c] w (dPc.Ret w S 0 []) := by
  go_enter Tryz.func57, Tryz.ntmps57
  go_wp2_with fail
  go_ret
  exact ⟨none, 0, rfl, Deep.Rd.nil _ _ _ _ (Nat.zero_le _), Below.refl _ _⟩
set_option maxRecDepth 100000 in
theorem kw_join1 (S : Nat → Prop) (A : Option Addr) (c : Nat) (l : List Pc) (n : Nat) (hn : n = l.length) (w : World) (hr : dSlP.Rd w S A c [l]) : Calls Tryz.prog 57 #[.slice A 1 c] w (dPc.Ret w S n l) := by
  obtain ⟨b, o, A1, n1, c1, rfl, hb1, c0, hn1, hrd⟩ := rows_atS hr (k := 0) rfl
  rw [Nat.add_zero] at c0
  obtain rfl : n1 = n := hn1.trans hn.symm
  have HRD := Lib.hid hrd
  have hc : 1 ≤ c := hr.room
  clear hr hrd hn hn1
  go_enter Tryz.func57, Tryz.ntmps57
  go_wp2_with fail
  go_ret
  exact ⟨A1, c1, rfl, HRD.out.mono fun g h => .inl h, Below.refl _ _⟩
set_option maxRecDepth 100000 in
set_option maxHeartbeats 4000000 in
theorem kw_join : ∀ (q : Nat) (S : Nat → Prop) (A : Option Addr) (c n : Nat) (ls : List (List Pc)), n = ls.length → n ≤ q → n ≤ 1000000 → (∀ l ∈ ls, rightP l = true) → CapN 17000 20000 ls.flatten → ∀ U, ofP ls.flatten = U → ∀ N, N = U.length → ∀ w, dSlP.Rd w S A c ls →
    Calls Tryz.prog 57 #[.slice A n c] w (dPc.Ret w S N U) := by
  intro q
  induction q with
  | zero =>
    intro S A c n ls hn hq _ _ _ U hU N hN w _
    obtain rfl : n = 0 := by omega
    obtain rfl : ls = [] := List.eq_nil_of_length_eq_zero hn.symm
    obtain rfl : U = [] := by rw [← hU]; exact ofP_self rfl
    subst hN
    exact kw_join0 S A c w
  | succ q ih =>
    intro S A c n ls hn hq hnl hri hcap U hU N hN w hr
    by_cases h0 : n = 0
    · subst h0
      obtain rfl : ls = [] := List.eq_nil_of_length_eq_zero hn.symm
      obtain rfl : U = [] := by rw [← hU]; exact ofP_self rfl
      subst hN
      exact kw_join0 S A c w
    · by_cases h1 : n = 1
      · subst h1
        obtain ⟨l, rfl⟩ : ∃ l, ls = [l] := by
          cases ls with
          | nil => simp at hn
          | cons l ls =>
            have h9 : ls = [] := List.eq_nil_of_length_eq_zero (by rw [List.length_cons] at hn; omega)
            exact ⟨l, by rw [h9]⟩
        have e : [l].flatten = l := List.append_nil l
        have hlU : l = U := by rw [← hU, e]; exact (ofP_self (hri l (List.mem_singleton.2 rfl))).symm
        clear hU hcap
        subst hlU
        exact kw_join1 S A c l N hN w hr
      · obtain ⟨h, hh⟩ : ∃ h, n / 2 = h := ⟨_, rfl⟩
        have hh1 : h ≤ n := by omega
        have hh2 : 1 ≤ h := by omega
        have hh3 : h < n := by omega
        have hcx : n ≤ c := by rw [hn]; exact hr.room
        have hquo : ((n : Int).tdiv 2) = (h : Int) := by rw [← hh]; rfl
        have hn0 : ((n : Int) == 0) = false := beq_eq_false_iff_ne.2 (by omega)
        have hn1 : ((n : Int) == 1) = false := beq_eq_false_iff_ne.2 (by omega)
        have hsp : (ls.take h).flatten ++ (ls.drop h).flatten = ls.flatten := by rw [← List.flatten_append, List.take_append_drop]
        have hcap2 := hcap
        rw [← hsp] at hcap2
        obtain ⟨X, hX⟩ : ∃ X, ofP (ls.take h).flatten = X := ⟨_, rfl⟩
        obtain ⟨Y, hY⟩ : ∃ Y, ofP (ls.drop h).flatten = Y := ⟨_, rfl⟩
        obtain ⟨NX, hNX⟩ : ∃ N, N = X.length := ⟨_, rfl⟩
        obtain ⟨NY, hNY⟩ : ∃ N, N = Y.length := ⟨_, rfl⟩
        obtain ⟨A5, hA5⟩ : ∃ A5, cutK A h 1 c = A5 := ⟨_, rfl⟩
        obtain ⟨c5, hc5⟩ : ∃ c5, c - h = c5 := ⟨_, rfl⟩
        obtain ⟨n5, hn5⟩ : ∃ n5, n - h = n5 := ⟨_, rfl⟩
        have J1 := fun w hw => Lib.hid (ih S A c h (ls.take h) (by rw [List.length_take]; omega) (by omega) (by omega) (fun l hl => hri l (List.mem_of_mem_take hl)) hcap2.left X hX NX hNX w hw)
        have J2 := fun w hw => Lib.hid (ih S A5 c5 n5 (ls.drop h) (by rw [List.length_drop]; omega) (by omega) (by omega) (fun l hl => hri l (List.mem_of_mem_drop hl)) hcap2.right_ Y hY NY hNY w hw)
        have hXr : rightP X = true := hX ▸ ofP_right _
        have hYr : rightP Y = true := hY ▸ ofP_right _
        have hXl : X.length ≤ 40000 := by have h1 := ofP_len (ls.take h).flatten; have h2 := hcap2.left.len; rw [hX] at h1; omega
        have hYl : Y.length ≤ 40000 := by have h1 := ofP_len (ls.drop h).flatten; have h2 := hcap2.right_.len; rw [hY] at h1; omega
        have hXc : ∀ s r, (runsV (catK X s) r).length ≤ 100000 := fun s r => by have h1 := ofP_runs (ls.take h).flatten s r; have h2 := hcap2.left.runs s r; rw [hX] at h1; omega
        have hYc : ∀ s r, (runsV (catK Y s) r).length ≤ 100000 := fun s r => by have h1 := ofP_runs (ls.drop h).flatten s r; have h2 := hcap2.right_.runs s r; rw [hY] at h1; omega
        have hUj : joinP X Y = U := by rw [← hX, ← hY, joinP_of, hsp, hU]
        have SW := fun A B c d w9 ha hb => Lib.hid (kw_sweep (fun g => S g ∨ w.heap.size ≤ g) 85 1 (.inl rfl) kw_union (enters_of Tryz.func85 (by kernel_rfl) rfl) A B c d NX NY X Y hNX hNY (by omega) (by omega) hXr hYr hXc hYc U (by rw [← hUj]; exact makeP_right ..) (fun s => by rw [← hUj]; exact joinP_cat hXr hYr s) N hN w9 ha hb)
        have K1 : ∀ W : World, (Instr.slice 39 (.slice A n c) none (some (.int .i64 (h : Int))) none).run Tryz.prog W = .ok (.slice A h c) W := fun W => kSlP.run_takeK pp_sizeOf W A n c h (by omega)
        have K2 : ∀ W : World, (Instr.slice 39 (.slice A n c) (some (.int .i64 (h : Int))) none none).run Tryz.prog W = .ok (.slice A5 n5 c5) W := fun W => by rw [← hA5, ← hc5, ← hn5]; exact kSlP.run_cutK pp_sizeOf W A n c h (by omega)
        have H1 := Lib.hid (show dSlP.Rd w S A c (ls.take h) from Deep.Rd.take hr h)
        have H2 := Lib.hid (show dSlP.Rd w S A5 c5 (ls.drop h) from by rw [← hA5, ← hc5]; exact Deep.Rd.drop hr)
        have hhi : IntKind.i64.wrap (h : Int) = (h : Int) := IntWalk.i64_in _ (by omega)
        clear hr hX hY hNX hNY hXr hYr hXl hYl hXc hYc hUj hcap hcap2 hri hsp hU hN ih hA5 hc5 hn5 hh hn
        go_enter Tryz.func57, Tryz.ntmps57
        have HW := Lib.hid (Below.refl w.heap.size w)
        go_upto_region 7 with fail
        go_region_held3 (fun w' => Below w.heap.size w w') (first | (exact (Below.refl _ _).drew) | assumption | go_keep)
          (first
            | (go_at_call 57; (with_reducible refine (J1 _ (by first | exact H1.out | exact Deep.Rd.call H1.out (Below.refl _ _).drew)).out.mono ?_); rintro e9 w9 ⟨A6, c6, rfl, hrd, hq⟩; (try replace hq := below_of_drew hq); have H6 := Lib.hid (show dPc.Rd w9 (fun g => S g ∨ w.heap.size ≤ g) A6 c6 X from hrd); replace H2 := Lib.hid (Deep.Rd.call H2.out hq); replace HW := Lib.hid (HW.out.trans (hq.mono HW.out.size)); have hb9 := HW.out; clear hrd hq)
            | (go_at_call 57; (with_reducible refine (J2 _ H2.out).out.mono ?_); rintro e9 w9 ⟨A7, c7, rfl, hrd, hq⟩; have H7 := Lib.hid (hrd.mono (T := fun g => S g ∨ w.heap.size ≤ g) fun g hg => by rcases hg with hg | hg; exact .inl hg; exact .inr (Nat.le_trans HW.out.size hg)); replace H6 := Lib.hid (Deep.Rd.call H6.out hq); replace HW := Lib.hid (HW.out.trans (hq.mono HW.out.size)); have hb9 := HW.out; clear hrd hq)
            | (go_at_call 39; (with_reducible refine (SW _ _ _ _ _ H6.out H7.out).out.mono ?_); rintro e9 w9 ⟨A8, c8, rfl, hrd, hq⟩; have H8 := Lib.hid (hrd.mono (T := fun g => S g ∨ w.heap.size ≤ g) fun g hg => by rcases hg with hg | hg; exact hg; exact .inr (Nat.le_trans HW.out.size hg)); replace HW := Lib.hid (HW.out.trans (hq.mono HW.out.size)); have hb9 := HW.out; clear hrd hq))
        all_goals
          go_wp2_with fail
          go_ret
          exact ⟨A8, c8, rfl, H8.out, HW.out⟩
theorem single_rd {w : World} {S T : ByteArray} {o : Bool} {A : Option Addr} {n c : Nat} {p : Pc} {R : Nat → Prop} (hp : PcIs p S T o n) (hr : dKn.Rd w R A c p.set) :
    dPc.Rd (w.alloc (.cells #[.string S, .string T, .bool o, .slice A n c] 48)) (fun g => R g ∨ w.heap.size ≤ g) (some ⟨w.heap.size, 0, none⟩) 1 [p] := by
  obtain ⟨⟨h1, h2, h3⟩, h4⟩ := hp
  have k := Kind.rd_new (k := kPs) (w := w) (cs := #[.string S, .string T, .bool o, .slice A n c]) (t := 48) (l := [⟨p.rng, A, n, c⟩]) (n := 1) (by rw [kPs.row_one]; show [Value.string S, .string T, .bool o, .slice A n c] = [.string (str p.rng.lo), .string (str p.rng.hi), .bool p.rng.op, .slice A n c]; rw [h1, h2, h3]) rfl (by simp)
  refine ⟨[⟨p.rng, A, n, c⟩], ?_, .one ⟨rfl, h4, (hr.call (below_new w _)).mono fun g h => .inl h⟩⟩
  refine ⟨?_, k.room, k.cap⟩
  rcases k.row with h | ⟨b, o', e1, e2, e3⟩
  · exact .inl h
  · injection e1 with e1
    injection e1 with e1 e4
    subst e1 e4
    exact .inr ⟨_, _, rfl, .inr (Nat.le_refl _), e3⟩
end Go.Proofs.YtopjhebhdopjpaaGreat

namespace Go.Proofs.YtopjhebhdopjpaaGreat
open Go.RowKit

def singleL (z : Bool) (p : Pc) : List (List Pc) := match z with
  | true => [[p]]
  | false => []
theorem tidy_singles {k : List Pc} {j : Nat} {x : Pc} (h : k[j]? = some x) {z : Bool} (hz : onePc (normPc x) = z) : (tidyP (k.take (j + 1))).map (fun p => [p]) = (tidyP (k.take j)).map (fun p => [p]) ++ singleL z (normPc x) := by
  rw [tidyP_take h, List.map_append]
  cases z <;> rw [hz] <;> rfl
set_option maxRecDepth 100000 in
set_option maxHeartbeats 16000000 in
theorem kw_tidy (S : Nat → Prop) (A : Option Addr) (c n : Nat) (k : List Pc) (hn : n = k.length) (hcap : CapN 8000 20000 k) (U : List Pc) (hU : ofP k = U) (N : Nat) (hN : N = U.length) (w : World) (hr0 : dPc.Rd w S A c k) :
    Calls Tryz.prog 40 #[.slice A n c] w (dPc.Ret w S N U) := by
  have hr : RdPc w A c k := Deep.Rd.all hr0
  obtain ⟨v, hv⟩ : ∃ v, rightP k = v := ⟨_, rfl⟩
  have C1 := Lib.hid (kw_right A c n k hn v hv w hr)
  have hcx : n ≤ c := by rw [hn]; exact hr.room
  have hmx := hr.max hn
  cases v with
  | true =>
    have hkU : k = U := by rw [← hU]; exact (ofP_self hv).symm
    subst hkU
    obtain rfl : N = n := hN.trans hn.symm
    have HR := Lib.hid hr0
    clear hn hcap hU hN hr hr0 hv
    go_enter Tryz.func40, Tryz.ntmps40
    go_wp2_with ((with_reducible refine C1.out.mono ?_); rintro e w1 ⟨rfl, hq⟩; have HQ := Lib.hid hq; clear hq)
    go_ret
    exact ⟨A, c, rfl, (Deep.Rd.call HR.out HQ.out).mono fun g h => .inl h, HQ.out⟩
  | false =>
    have HN := Lib.hid hn
    have HC := Lib.hid hcap
    have HU := Lib.hid hU
    have HNN := Lib.hid hN
    have HR := Lib.hid (Deep.Rd.lives hr)
    clear hn hcap hU hN hr hr0 hv
    go_enter Tryz.func40, Tryz.ntmps40
    go_wp2_with ((with_reducible refine C1.out.mono ?_); rintro e w1 ⟨rfl, hq⟩; have HW1 := Lib.hid hq; clear hq)
    clear C1
    go_loopw [3, 11] (fun vs i wr => ∃ j : Nat, j ≤ n ∧ Hid (dSlP.Own wr w.heap.size (fun g => w.heap.size ≤ g) vs ((tidyP (k.take j)).map fun p => [p])) ∧ i = .int .i64 j ∧ Hid (Below w.heap.size w wr)) (fun _ i _ => n - (intOf i).toNat)
    case atStart => exact ⟨0, by omega, Deep.Own.nil _ _ _, rfl, HW1.out⟩
    case round =>
      clear HW1
      obtain ⟨j, hj, HO, rfl, HW⟩ := hrel
      by_cases hlt : j < n
      · obtain ⟨x, hg, -, hxm⟩ := get_some (l := k) (k := j) (by have := HN.out; omega)
        obtain ⟨b, o, rfl, hb1, hcell⟩ := pieces_of (HR.out.keep (keptS_under HW.out fun g h => h.2)) (by have := HN.out; omega)
        obtain ⟨A', n', c', hn', hrd, p0, p1, p2, p3⟩ := hcell j x hg
        obtain ⟨P, hP⟩ : ∃ P, normPc x = P := ⟨_, rfl⟩
        have hPr : P.rng = x.rng := by rw [← hP]; exact normPc_rng x
        have hPs : ofS x.set = P.set := by rw [← hP]; exact (normPc_set x).symm
        obtain ⟨NY, hNY⟩ : ∃ N, P.set.length = N := ⟨_, rfl⟩
        obtain ⟨z, hz⟩ : ∃ z, onePc P = z := ⟨_, rfl⟩
        obtain ⟨S1, hS1⟩ : ∃ S, str x.rng.lo = S := ⟨_, rfl⟩
        obtain ⟨S2, hS2⟩ : ∃ S, str x.rng.hi = S := ⟨_, rfl⟩
        obtain ⟨q, hq⟩ : ∃ q, x.rng.op = q := ⟨_, rfl⟩
        have hIs : PcIs P S1 S2 q NY := ⟨by rw [hPr]; exact ⟨hS1, hS2, hq⟩, hNY.symm⟩
        rw [hS1] at p0
        rw [hS2] at p1
        rw [hq] at p2
        obtain ⟨wb, hwb⟩ : ∃ wb, wr.alloc (.cells #[.string S1, .string S2, .bool q, .slice A' n' c'] 48) = wb := ⟨_, rfl⟩
        have hbb : Below wr.heap.size wr wb := hwb ▸ below_new _ _
        have hnew := heap_new wr (.cells #[.string S1, .string S2, .bool q, .slice A' n' c'] 48) _ rfl
        have hfz : ∀ i, wb.frozen? ⟨wr.heap.size, i, none⟩ = false := fun i => by rw [← hwb]; unfold World.frozen?; rw [hnew]; simp
        have hlb : wr.heap.size < wb.heap.size := by rw [← hwb, size1]; omega
        obtain ⟨z0, z1, z2, z3⟩ := piece_cells hwb
        have C2 := Lib.hid (vs_of_new A' c' n' x.set hn' (fun r => by have := HC.out.own x hxm r; omega) P.set hPs NY hNY wb (rdk_of (hrd.call hbb)))
        have Z := Lib.hid (And.intro z0 (And.intro z1 (And.intro z2 (And.intro z3 (hfz 3)))))
        have HBB := Lib.hid hbb
        have CR := fun A3 c3 W h => Lib.hid (kw_right1 P S1 S2 q A3 c3 NY hIs z hz W h)
        have HT := Lib.hid (tidy_singles hg (z := z) (by rw [hP]; exact hz))
        rw [hP] at HT
        have HIS := Lib.hid hIs
        have HJL := Lib.hid (Nat.le_trans (Nat.le_trans (tidyP_len (k.take j)) (by rw [List.length_take]; exact Nat.min_le_left _ _)) hj)
        have hnc := HC.out.len
        have hn8 : n ≤ 8000 := by have := HN.out; omega
        have hj0 : (0 : Int) ≤ (j : Int) := by omega
        have hjn : (j : Int) < (n : Int) := by omega
        clear hcell hg hxm hn' hrd hP hPr hPs hNY hz hS1 hS2 hq hIs hbb hnew hfz z0 z1 z2 hnc
        go_upto_region 8 with ((with_reducible refine C2.out.mono ?_); rintro e w3 ⟨A3, c3, rfl, hrd3, hq⟩; obtain ⟨w4, hw4⟩ : ∃ w4, w3.setCell ⟨wr.heap.size, 3, none⟩ (.slice A3 NY c3) = w4 := ⟨_, rfl⟩; have k0 := ((bcell hq).1 _ _ hlb).trans Z.out.1; have k1 := ((bcell hq).1 _ _ hlb).trans Z.out.2.1; have k2 := ((bcell hq).1 _ _ hlb).trans Z.out.2.2.1; have k3 := ((bcell hq).1 _ _ hlb).trans Z.out.2.2.2.1; have kf := ((bcell hq).2 _ _ hlb).trans Z.out.2.2.2.2; have m0 : w4.cell? ⟨wr.heap.size, 0, none⟩ = some (.string S1) := hw4 ▸ set_other k0 (addr_off (by decide)) _; have m1 : w4.cell? ⟨wr.heap.size, 1, none⟩ = some (.string S2) := hw4 ▸ set_other k1 (addr_off (by decide)) _; have m2 : w4.cell? ⟨wr.heap.size, 2, none⟩ = some (.bool q) := hw4 ▸ set_other k2 (addr_off (by decide)) _; have m3 : w4.cell? ⟨wr.heap.size, 3, none⟩ = some (.slice A3 NY c3) := hw4 ▸ set_same k3 _; have HB4 := Lib.hid (show Below wr.heap.size wr w4 from hw4 ▸ (HBB.out.trans (hq.mono HBB.out.size)).setCell (p := ⟨wr.heap.size, 3, none⟩) (Nat.le_refl _) _); have HX4 := Lib.hid (show dKn.Rd w4 (fun g => wb.heap.size ≤ g) A3 c3 P.set from hw4 ▸ Deep.Rd.keep hrd3 (keptS_set _ fun b hb e => by omega)); clear hrd3 hq)
        have HWR := Lib.hid HW.out.size
        have HO4 := Lib.hid (HO.out.below HB4.out)
        have HW4 := Lib.hid (HW.out.trans (HB4.out.mono HW.out.size))
        have hlr : wr.heap.size < w4.heap.size := World.block_lt_of_cell? w4 _ m0
        have C3 := CR A3 c3 w4 (rdk_of HX4.out)
        obtain ⟨VS, hVS⟩ : ∃ VS, VS = u3 := ⟨_, rfl⟩
        subst hVS
        have HLT := Lib.hid (fun g (h : VS.ownBlock = some g) => (HO.out.lt g h).2)
        clear C2 CR Z HBB HO HW k0 k1 k2 k3 kf hw4
        cases z
        · go_wp2_with ((with_reducible refine C3.out.mono ?_); rintro e w5 ⟨rfl, hq⟩; have HO5 := Lib.hid (HO4.out.below hq); have HW5 := Lib.hid (HW4.out.trans (hq.mono HW4.out.size)); clear hq)
          go_roundw
          case measure => simp [intOf]; omega
          case rel => exact ⟨j + 1, by omega, by rw [HT.out]; show dSlP.Own _ _ _ _ (_ ++ []); rw [List.append_nil]; exact HO5.out, by go_num, HW5⟩
        · go_upto_region 9 with ((with_reducible refine C3.out.mono ?_); rintro e w5 ⟨rfl, hq⟩; have HO5 := Lib.hid (HO4.out.below hq); have HW5 := Lib.hid (HW4.out.trans (hq.mono HW4.out.size)); have HX5 := Lib.hid (Deep.Rd.call HX4.out hq); replace m0 := ((bcell hq).1 _ _ hlr).trans m0; replace m1 := ((bcell hq).1 _ _ hlr).trans m1; replace m2 := ((bcell hq).1 _ _ hlr).trans m2; replace m3 := ((bcell hq).1 _ _ hlr).trans m3; have hl5 := hq.size; clear hq)
          obtain ⟨w6, hw6⟩ : ∃ w6, w5.alloc (.cells #[.string S1, .string S2, .bool q, .slice A3 NY c3] 48) = w6 := ⟨_, rfl⟩
          have hb6 : Below w5.heap.size w5 w6 := hw6 ▸ below_new _ _
          have hs6 : w5.heap.size < w6.heap.size := by rw [← hw6, size1]; omega
          have HS6 := Lib.hid (show dPc.Rd w6 (fun g => wb.heap.size ≤ g ∨ w5.heap.size ≤ g) (some ⟨w5.heap.size, 0, none⟩) 1 [P] from hw6 ▸ single_rd HIS.out HX5.out)
          have HRW := Lib.hid (show RowAt (w6.alloc (.cells #[.slice (some ⟨w5.heap.size, 0, none⟩) 1 1] 22)) (w6.heap.size + 1) (some ⟨w6.heap.size, 0, none⟩) (kSlP.row [⟨some ⟨w5.heap.size, 0, none⟩, 1, 1⟩]) from (Kind.rd_new (k := kSlP) (l := [⟨some ⟨w5.heap.size, 0, none⟩, 1, 1⟩]) rfl rfl (by simp)).row)
          obtain ⟨bs, hown, hall⟩ := HO5.out.below hb6
          have HKO := Lib.hid (Kind.Own.alloc hown (.cells #[.slice (some ⟨w5.heap.size, 0, none⟩) 1 1] 22))
          have HKA := Lib.hid (hall.keep (keptS_below (below_new w6 (.cells #[.slice (some ⟨w5.heap.size, 0, none⟩) 1 1] 22)) _))
          have HLE := Lib.hid (show bs.length + [(⟨some ⟨w5.heap.size, 0, none⟩, 1, 1⟩ : SlP)].length ≤ 1000000 by rw [hall.1, List.length_map, List.length_singleton]; have := HJL.out; omega)
          have HW6 := Lib.hid ((HW5.out.trans (hb6.mono HW5.out.size)).alloc (Nat.le_trans HW5.out.size hb6.size) (.cells #[.slice (some ⟨w5.heap.size, 0, none⟩) 1 1] 22))
          have HSZ := Lib.hid HW6.out.size
          have HWZ := Lib.hid (show w.heap.size ≤ wb.heap.size ∧ w.heap.size ≤ w5.heap.size from ⟨by have := HWR.out; omega, HW5.out.size⟩)
          have HREL := Lib.hid (show dSlP.rel (w6.alloc (.cells #[.slice (some ⟨w5.heap.size, 0, none⟩) 1 1] 22)) (fun g => w.heap.size ≤ g ∧ VS.ownBlock ≠ some g) ⟨some ⟨w5.heap.size, 0, none⟩, 1, 1⟩ [P] from ⟨rfl, (Deep.Rd.call HS6.out (below_new _ _)).mono fun g hg => ⟨by have h1 := HWZ.out; rcases hg with hg | hg <;> omega, fun e => by have := HLT.out g e; rcases hg with hg | hg <;> omega⟩⟩)
          clear hown hall hb6 HO4 HO5 HW4 HW5 HX4 HX5 HB4 C3 HS6
          go_wp2_with (at_builtin; refine wpList_app_k kSlP rfl (.tmp 21) (.tmp 24) rfl w.heap.size _ bs rfl HKO.out _ (some ⟨w6.heap.size, 0, none⟩) 1 1 [⟨some ⟨w5.heap.size, 0, none⟩, 1, 1⟩] rfl rfl HRW.out HLE.out (by decide) HSZ.out ?_; intro v7 w7 hown7 hg7 hb7 hv7; have HO7 := Lib.hid (Deep.Own.app HKA.out (.one HREL.out) hown7 hg7 hv7); have HW7 := Lib.hid (HW6.out.trans hb7); clear hown7 hg7 hb7 hv7)
          go_roundw
          case measure => simp [intOf]; omega
          case rel => exact ⟨j + 1, by omega, by rw [HT.out]; exact HO7.out, by go_num, HW7⟩
      · have HTK := Lib.hid (show k.take j = k from List.take_of_length_le (by have := HN.out; omega))
        rw [HTK.out] at HO
        obtain ⟨NL, hNL⟩ : ∃ NL, NL = ((tidyP k).map fun p => [p]).length := ⟨_, rfl⟩
        obtain ⟨A7, c7, rfl, hrd⟩ := HO.out.rd hNL (fun _ h => h)
        have hl := tidyP_len k
        have hnc := HC.out.len
        have C := Lib.hid (kw_join NL (fun g => w.heap.size ≤ g) A7 c7 NL _ hNL (Nat.le_refl _) (by rw [hNL, List.length_map]; omega) (fun l hl => by
          obtain ⟨p, hp, rfl⟩ := List.mem_map.1 hl
          obtain ⟨_, _, _, h1⟩ := tidyP_mem hp
          exact h1) (by rw [singles_flat]; exact HC.out.tidy.mono (by omega) (Nat.le_refl _)) U (by rw [singles_flat, tidyP_of]; exact HU.out) N HNN.out wr hrd)
        clear hNL hrd hl hnc HO
        go_wp2_with ((with_reducible refine C.out.mono ?_); rintro e w2 ⟨A8, c8, rfl, hrd, hq⟩; have HD := Lib.hid hrd; have HQ := Lib.hid hq; clear hrd hq)
        go_ret
        exact ⟨A8, c8, rfl, HD.out.mono fun g hg => .inr (by have := HW.out.size; rcases hg with hg | hg <;> omega), HW.out.trans (HQ.out.mono HW.out.size)⟩
end Go.Proofs.YtopjhebhdopjpaaGreat

namespace Go.Proofs.YtopjhebhdopjpaaGreat
open Go.RowKit

end Go.Proofs.YtopjhebhdopjpaaGreat

namespace Go.Proofs.YtopjhebhdopjpaaGreat
open Go.RowKit

end Go.Proofs.YtopjhebhdopjpaaGreat

namespace Go.Proofs.YtopjhebhdopjpaaGreat
open Go.RowKit

end Go.Proofs.YtopjhebhdopjpaaGreat

namespace Go.Proofs.YtopjhebhdopjpaaGreat
open Go.RowKit

end Go.Proofs.YtopjhebhdopjpaaGreat

namespace Go.Proofs.YtopjhebhdopjpaaGreat
open Go.RowKit

end Go.Proofs.YtopjhebhdopjpaaGreat

namespace Go.Proofs.YtopjhebhdopjpaaGreat
open Go.RowKit

end Go.Proofs.YtopjhebhdopjpaaGreat
