/-
  Several texts in one: KnwL, KnwM, VstN, KnwN, ShelfSortStr, KnwJ, KnwO, CutK, KnwP.
-/
import Derived.Shelf.Slices.CompactS
import Derived.Shelf.Slices.Cells
import Derived.Ground.SlsfProg
import Derived.Shelf.SlSortCmp.Insertion
import Derived.Shelf.SlSortCmp.SiftDown1
import Derived.Shelf.SlSortCmp.HeapSort1
import Derived.Shelf.SlSortCmp.Insertion1
import Derived.Shelf.SlSortCmp.Median1
import Derived.Shelf.SlSortCmp.Pivot1
import Derived.Shelf.SlSortCmp.ReverseRange1
import Derived.Shelf.SlSortCmp.PartialInsertion1
import Derived.Shelf.SlSortCmp.PartitionEqual1
import Derived.Shelf.SlSortCmp.Partition1
import Derived.Shelf.SlSortCmp.Pdq1
import Derived.Shelf.SlSortCmp.Whole1
import Derived.Shelf.SlSortCmp.NoneTotal
import Derived.Test.YtaodifpnfejbbaaGreatProg
import Derived.Sort.OwnSorted
import Derived.Lib.OwnBridge
import Derived.Lib.SliceRun
import Derived.BigRegion
import Derived.Test.YtaodifpnfejbbaaGreatMg11
/-
  Layer 15 (know), the program: two sets held against each other; may a piece stand in right knowledge, and behind which one; is knowledge right?
-/
namespace Go.Proofs.YtaodifpnfejbbaaGreat
open Go.RowKit

/-- A Known of a set held against one of another. -/
theorem kw_alike1 (x y : Kn) (A B : Option Addr) (c d n m : Nat) (hn : n = x.runs.length) (hm : m = y.runs.length) (X Y : Int) (hX : x.rep = X) (hY : y.rep = Y) (v : Bool) (hv : ((x.rep == y.rep) && sameC x.runs y.runs) = v) (w : World) (ha : kRn.Rd w w.heap.size A c x.runs) (hb : kRn.Rd w w.heap.size B d y.runs) :
    Calls Tryz.prog 105 #[.agg #[.int .i64 X, .slice A n c], .agg #[.int .i64 Y, .slice B m d]] w fun e w' => e = .returned (.bool v) ∧ Below w.heap.size w w' := by
  obtain ⟨z, hz⟩ : ∃ z, sameC x.runs y.runs = z := ⟨_, rfl⟩
  obtain ⟨p, hp⟩ : ∃ p, (X == Y) = p := ⟨_, rfl⟩
  have hb2 : Below w.heap.size w ((w.alloc (.cells #[.int .i64 X, .slice A n c] 61)).alloc (.cells #[.int .i64 Y, .slice B m d] 61)) := (below_new w _).trans ((below_new _ _).mono (by simp))
  have C := Lib.hid (vs_equal A B c d n m x.runs y.runs hn hm z hz _ (ha.call hb2) (hb.call hb2))
  clear hb2
  rw [hX, hY, hz, hp] at hv
  clear ha hb hn hm hz hX hY
  subst hv
  cases p
  · go_enter Tryz.func105, Tryz.ntmps105
    go_wp2_with fail
    go_ret
    exact ⟨rfl, (below_new w _).trans ((below_new _ _).mono (by simp))⟩
  · go_enter Tryz.func105, Tryz.ntmps105
    go_wp2_with ((with_reducible refine C.out.mono ?_); rintro e w1 ⟨rfl, hq⟩; have HQ := Lib.hid hq; clear hq)
    go_ret
    exact ⟨rfl, (below_new w _).trans (((below_new _ _).mono (by simp)).trans (HQ.out.mono (by simp; omega)))⟩
set_option maxRecDepth 100000 in
set_option maxHeartbeats 2000000 in
theorem kw_equalF (A B : Option Addr) (c d n m : Nat) (a b : List Kn) (hn : n = a.length) (hm : m = b.length) (v : Bool) (hv : sameS a b = v) (w : World) (ha : RdK w w.heap.size A c a) (hb : RdK w w.heap.size B d b) :
    Calls Tryz.prog 104 #[.slice A n c, .slice B m d, .func (.func 105) #[] #[]] w fun e w' => e = .returned (.bool v) ∧ Below w.heap.size w w' := by
  have HN := Lib.hid hn
  have HM := Lib.hid hm
  have HA := Lib.hid ha
  have HB := Lib.hid hb
  have hmx := rdk_max ha hn
  have hmy := rdk_max hb hm
  have hcx : n ≤ c := by rw [hn]; exact ha.room
  have hcy : m ≤ d := by rw [hm]; exact hb.room
  subst hv
  by_cases hnm : n = m
  · subst hnm
    clear hn hm ha hb
    go_enter Tryz.func104, Tryz.ntmps104
    go_wp2_with fail
    go_loopw [17] (fun i wr => ∃ k : Nat, k ≤ n ∧ Hid (sameS a b = sameS (a.drop k) (b.drop k)) ∧ i = .int .i64 k ∧ Hid (Below w.heap.size w wr)) (fun i _ => n - (intOf i).toNat)
    case atStart => exact ⟨0, by omega, rfl, rfl, Below.refl _ _⟩
    case round =>
      obtain ⟨k, hk, HL, rfl, HW⟩ := hrel
      by_cases hlt : k < n
      · obtain ⟨x, hg, hd, -⟩ := cnt_get (l := a) (k := k) (by have := HN.out; omega)
        obtain ⟨y, hg', hd', -⟩ := cnt_get (l := b) (k := k) (by have := HM.out; omega)
        obtain ⟨b1, o1, rfl, hb1, hcell1⟩ := knowns_at (HA.out.call HW.out) (by have := HN.out; omega)
        obtain ⟨b2, o2, rfl, hb2, hcell2⟩ := knowns_at (HB.out.call HW.out) (by have := HM.out; omega)
        obtain ⟨A1, n1, c1, hn1, hr1, p0, p1⟩ := hcell1 k x hg
        obtain ⟨A2, n2, c2, hn2, hr2, q0, q1⟩ := hcell2 k y hg'
        obtain ⟨X, hX⟩ : ∃ X, x.rep = X := ⟨_, rfl⟩
        obtain ⟨Y, hY⟩ : ∃ Y, y.rep = Y := ⟨_, rfl⟩
        rw [hX] at p0
        rw [hY] at q0
        obtain ⟨z, hz⟩ : ∃ z, ((x.rep == y.rep) && sameC x.runs y.runs) = z := ⟨_, rfl⟩
        have hbb : Below wr.heap.size wr ((wr.alloc (.cells #[.int .i64 X, .slice A1 n1 c1] 61)).alloc (.cells #[.int .i64 Y, .slice A2 n2 c2] 61)) := (below_new _ _).trans ((below_new _ _).mono (by simp))
        have C := Lib.hid (kw_alike1 x y A1 A2 c1 c2 n1 n2 hn1 hn2 X Y hX hY z hz _ (hr1.call hbb) (hr2.call hbb))
        have HW1 := Lib.hid (HW.out.trans (hbb.mono HW.out.size))
        have HL2 := Lib.hid (HL.out.trans (show sameS (a.drop k) (b.drop k) = (z && sameS (a.drop (k + 1)) (b.drop (k + 1))) by rw [hd, hd', sameS_cons, hz]))
        have hk0 : (0 : Int) ≤ (k : Int) := by omega
        have hkn : (k : Int) < (n : Int) := by omega
        have p0b := ((bcell (below_new wr (.cells #[.int .i64 X, .slice A1 n1 c1] 61))).1 b2 (o2 + k * 2) (World.block_lt_of_cell? wr _ q0)).trans q0
        have p1b := ((bcell (below_new wr (.cells #[.int .i64 X, .slice A1 n1 c1] 61))).1 b2 (o2 + k * 2 + 1) (World.block_lt_of_cell? wr _ q0)).trans q1
        clear hcell1 hcell2 hg hg' hd hd' hz hX hY hr1 hr2 hn1 hn2 hbb
        cases z
        · go_wp2_with ((with_reducible refine C.out.mono ?_); rintro e w2 ⟨rfl, hq⟩; have HW2 := Lib.hid (HW1.out.trans (hq.mono HW1.out.size)); clear hq)
          go_ret
          exact ⟨ret_bool HL2.out.symm, HW2.out⟩
        · go_wp2_with ((with_reducible refine C.out.mono ?_); rintro e w2 ⟨rfl, hq⟩; have HW2 := Lib.hid (HW1.out.trans (hq.mono HW1.out.size)); clear hq)
          go_roundw
          case rel => exact ⟨k + 1, by omega, HL2, by go_num, HW2⟩
          case measure => simp [intOf]; omega
      · have HL2 := Lib.hid (HL.out.trans (show sameS (a.drop k) (b.drop k) = true by rw [List.drop_eq_nil_of_le (by have := HN.out; omega), List.drop_eq_nil_of_le (by have := HM.out; omega)]; rfl))
        go_wp2_with fail
        go_ret
        exact ⟨ret_bool HL2.out.symm, HW.out⟩
  · have HE := Lib.hid (sameS_len (a := a) (b := b) (by omega))
    have hne : ((n : Int) == (m : Int)) = false := beq_eq_false_iff_ne.2 (by omega)
    have hne2 : ((n : Int) != (m : Int)) = true := by rw [bne, hne]; rfl
    clear hn hm ha hb hnm
    go_enter Tryz.func104, Tryz.ntmps104
    go_wp2_with fail
    go_ret
    exact ⟨ret_bool HE.out.symm, Below.refl _ _⟩
theorem kw_alike (A B : Option Addr) (c d n m : Nat) (a b : List Kn) (hn : n = a.length) (hm : m = b.length) (v : Bool) (hv : decide (a = b) = v) (w : World) (ha : RdK w w.heap.size A c a) (hb : RdK w w.heap.size B d b) :
    Calls Tryz.prog 67 #[.slice A n c, .slice B m d] w fun e w' => e = .returned (.bool v) ∧ Below w.heap.size w w' := by
  have hs : sameS a b = v := by rw [Bool.eq_iff_iff, sameS_iff, ← hv, decide_eq_true_eq]
  have C := Lib.hid (kw_equalF A B c d n m a b hn hm v hs w ha hb)
  clear hn hm hv hs ha hb
  go_enter Tryz.func67, Tryz.ntmps67
  go_wp2_with ((with_reducible refine C.out.mono ?_); rintro e w1 ⟨rfl, hq⟩; have HQ := Lib.hid hq; clear hq)
  go_ret
  exact ⟨rfl, HQ.out⟩
/-- A piece as it is handed in. -/
structure PcIs (p : Pc) (S T : ByteArray) (o : Bool) (n : Nat) : Prop where
  rng : IsR p.rng S T o
  len : n = p.set.length
set_option maxRecDepth 100000 in
set_option maxHeartbeats 1000000 in
theorem kw_right1 (x : Pc) (S T : ByteArray) (o : Bool) (A : Option Addr) (c n : Nat) (hx : PcIs x S T o n) (v : Bool) (hv : onePc x = v) (w : World) (hr : RdK w w.heap.size A c x.set) :
    Calls Tryz.prog 37 #[.agg #[.string S, .string T, .bool o, .slice A n c]] w fun e w' => e = .returned (.bool v) ∧ Below w.heap.size w w' := by
  have hb := below_new w (.cells #[.string S, .string T, .bool o, .slice A n c] 44)
  obtain ⟨h1, hn⟩ := hx
  obtain ⟨z, hz⟩ : ∃ z, rightS x.set = z := ⟨_, rfl⟩
  obtain ⟨p, hp⟩ : ∃ p, rightR x.rng = p := ⟨_, rfl⟩
  obtain ⟨q, hq⟩ : ∃ q, (n == 0) = q := ⟨_, rfl⟩
  have C1 := fun w => Lib.hid (span_right x.rng S T o p h1 hp w)
  have C2 := fun w h => Lib.hid (vs_right A c n x.set hn z hz w h)
  have HB := Lib.hid hb
  have HR := Lib.hid (hr.call hb)
  have hlz : w.heap.size < (w.alloc (.cells #[.string S, .string T, .bool o, .slice A n c] 44)).heap.size := by simp
  have hnew := heap_new w (.cells #[.string S, .string T, .bool o, .slice A n c] 44) _ rfl
  have q3 : (w.alloc (.cells #[.string S, .string T, .bool o, .slice A n c] 44)).cell? ⟨w.heap.size, 3, none⟩ = some (.slice A n c) := by rw [cell_of_row _ _ _ _ _ _ hnew]; rfl
  have Q3 := Lib.hid q3
  have hmx := rdk_max hr hn
  have hvv : v = (p && (!q && z)) := by
    rw [← hv]
    unfold onePc fullK
    rw [hp, hz]
    congr 1
    cases hs : x.set with
    | nil => rw [hs] at hn; subst hn; subst hq; rfl
    | cons a b => rw [hs] at hn; subst hn; subst hq; rfl
  have h3 : decide ((n : Int) > 0) = !q := by
    rw [← hq]
    by_cases h : n = 0
    · subst h; rfl
    · rw [decide_eq_true (by omega), beq_eq_false_iff_ne.2 h]; rfl
  have h4 : decide ((0 : Int) < (n : Int)) = !q := h3
  have h5 : decide (0 < n) = !q := by
    rw [← h3]; exact decide_eq_decide.2 (by omega)
  subst hvv
  clear hn hr hz hp h1 hb hq hv hnew q3
  cases p <;> cases q
  all_goals
    go_enter Tryz.func37, Tryz.ntmps37
    go_wp2_with (first
      | ((with_reducible refine (C1 _).out.mono ?_); rintro e w1 ⟨rfl, hq⟩; have HQ := Lib.hid hq; have g3 := ((bcell hq).1 w.heap.size 3 hlz).trans Q3.out; replace HR := Lib.hid (HR.out.call hq); clear hq)
      | ((with_reducible refine (C2 _ HR.out).out.mono ?_); rintro e w2 ⟨rfl, hq⟩; have HQ2 := Lib.hid (HQ.out.trans (hq.mono HQ.out.size)); clear hq))
    go_ret
    first
      | exact ⟨rfl, HB.out.trans (HQ2.out.mono HB.out.size)⟩
      | exact ⟨rfl, HB.out.trans (HQ.out.mono HB.out.size)⟩
theorem gapP_open {p q : Pc} (h : p.rng.op = true) : gapP p q = false := by unfold gapP; rw [h]; rfl
theorem gapP_lt {p q : Pc} (h : p.rng.op = false) (h' : ltB p.rng.hi q.rng.lo = true) : gapP p q = true := by
  unfold gapP
  rw [h, ltB_asymm h', decide_eq_false (show ¬ p.rng.hi = q.rng.lo from fun e => by rw [e, ltB_irrefl] at h'; cases h')]; rfl
theorem gapP_gt {p q : Pc} (h' : ltB q.rng.lo p.rng.hi = true) : gapP p q = false := by unfold gapP; rw [h']; cases p.rng.op <;> rfl
theorem gapP_eq {p q : Pc} (h : p.rng.op = false) (h' : p.rng.hi = q.rng.lo) : gapP p q = !decide (p.set = q.set) := by
  unfold gapP
  rw [h, h', ltB_irrefl, decide_eq_true rfl]; rfl
theorem below_two (w : World) (x y : Obj) : Below w.heap.size w ((w.alloc x).alloc y) := (below_new w x).trans ((below_new _ y).mono (by simp))
set_option maxRecDepth 100000 in
set_option maxHeartbeats 1000000 in
theorem kw_follows (p q : Pc) (S T U V : ByteArray) (o z : Bool) (A B : Option Addr) (c d n m : Nat) (hp : PcIs p S T o n) (hq : PcIs q U V z m) (v : Bool) (hv : gapP p q = v) (w : World) (ha : RdK w w.heap.size A c p.set) (hb : RdK w w.heap.size B d q.set) :
    Calls Tryz.prog 38 #[.agg #[.string S, .string T, .bool o, .slice A n c], .agg #[.string U, .string V, .bool z, .slice B m d]] w fun e w' => e = .returned (.bool v) ∧ Below w.heap.size w w' := by
  have hb2 := below_two w (.cells #[.string S, .string T, .bool o, .slice A n c] 44) (.cells #[.string U, .string V, .bool z, .slice B m d] 44)
  obtain ⟨⟨-, h2, h3⟩, hn⟩ := hp
  obtain ⟨⟨h4, -, -⟩, hm⟩ := hq
  have HB := Lib.hid hb2
  cases o with
  | true =>
    obtain rfl : v = false := by rw [← hv]; exact gapP_open h3
    clear ha hb hn hm h2 h3 h4 hv hb2
    go_enter Tryz.func38, Tryz.ntmps38
    go_wp2_with fail
    go_ret
    exact ⟨rfl, HB.out⟩
  | false =>
    obtain ⟨y, hy⟩ : ∃ y, decide (p.set = q.set) = y := ⟨_, rfl⟩
    have C2 := Lib.hid (kw_alike A B c d n m p.set q.set hn hm y hy _ (ha.call hb2) (hb.call hb2))
    rcases ltB_three p.rng.hi q.rng.lo with ⟨k1, k2, -⟩ | ⟨k1, k2, -⟩ | ⟨k1, k2, k3⟩
    · obtain rfl : v = true := by rw [← hv]; exact gapP_lt h3 k1
      have C := fun w => Lib.hid (cmp_is p.rng.hi q.rng.lo T U h2 h4 (-1) (cmp_lt k1) w)
      clear ha hb hn hm h2 h3 h4 hv hb2 k1 k2 hy C2
      go_enter Tryz.func38, Tryz.ntmps38
      go_wp2_with ((with_reducible refine (C _).out.mono ?_); rintro e w1 ⟨rfl, rfl⟩)
      go_ret
      exact ⟨rfl, HB.out⟩
    · obtain rfl : v = false := by rw [← hv]; exact gapP_gt k2
      have C := fun w => Lib.hid (cmp_is p.rng.hi q.rng.lo T U h2 h4 1 (cmp_gt k2) w)
      clear ha hb hn hm h2 h3 h4 hv hb2 k1 k2 hy C2
      go_enter Tryz.func38, Tryz.ntmps38
      go_wp2_with ((with_reducible refine (C _).out.mono ?_); rintro e w1 ⟨rfl, rfl⟩)
      go_ret
      exact ⟨rfl, HB.out⟩
    · have hvy : v = !y := by rw [← hv, ← hy]; exact gapP_eq h3 k3
      have C := fun w => Lib.hid (cmp_is p.rng.hi q.rng.lo T U h2 h4 0 (by rw [k3]; exact cmp_self _) w)
      subst hvy
      clear ha hb hn hm h2 h3 h4 hv hb2 k1 k2 k3 hy
      go_enter Tryz.func38, Tryz.ntmps38
      go_wp2_with (first
        | ((with_reducible refine (C _).out.mono ?_); rintro e w1 ⟨rfl, rfl⟩)
        | ((with_reducible refine C2.out.mono ?_); rintro e w1 ⟨rfl, hq⟩; have HQ := Lib.hid hq; clear hq))
      go_ret
      exact ⟨rfl, HB.out.trans (HQ.out.mono HB.out.size)⟩
end Go.Proofs.YtaodifpnfejbbaaGreat

/-
  Layer 15 (know), the program: is knowledge right?
-/
namespace Go.Proofs.YtaodifpnfejbbaaGreat
open Go.RowKit

def chainR : Pc → List Pc → Bool
  | _, [] => true
  | p, q :: l => onePc q && (gapP p q && chainR q l)
theorem rightP_chain : ∀ (l : List Pc) (p : Pc), rightP (p :: l) = (onePc p && chainR p l)
  | [], p => (Bool.and_true _).symm
  | q :: l, p => by
    have h := rightP_chain l q
    show (onePc p && gapP p q && rightP (q :: l)) = (onePc p && (onePc q && (gapP p q && chainR q l)))
    rw [h]
    cases onePc p <;> cases gapP p q <;> cases onePc q <;> cases chainR q l <;> rfl
set_option maxRecDepth 100000 in
set_option maxHeartbeats 8000000 in
theorem kw_right (A : Option Addr) (c n : Nat) (k : List Pc) (hn : n = k.length) (v : Bool) (hv : rightP k = v) (w : World) (hr : RdPc w A c k) :
    Calls Tryz.prog 11 #[.slice A n c] w fun e w' => e = .returned (.bool v) ∧ Below w.heap.size w w' := by
  have HN := Lib.hid hn
  have HR := Lib.hid hr
  have HV := Lib.hid hv
  have hmx := hr.max hn
  have hcx : n ≤ c := by rw [hn]; exact hr.room
  clear hn hr hv
  go_enter Tryz.func11, Tryz.ntmps11
  go_wp2_with fail
  go_loopw [7] (fun i wr => ∃ j : Nat, j ≤ n ∧ i = .int .i64 j ∧ Hid ((j = 0 ∧ rightP k = v) ∨ ∃ i' p, j = i' + 1 ∧ k[i']? = some p ∧ chainR p (k.drop j) = v) ∧ Hid (Below w.heap.size w wr)) (fun i _ => n - (intOf i).toNat)
  case atStart => exact ⟨0, by omega, rfl, .inl ⟨rfl, HV.out⟩, Below.refl _ _⟩
  case round =>
    obtain ⟨j, hj, rfl, HL, HW⟩ := hrel
    by_cases hlt : j < n
    · obtain ⟨r, hg, hd, -⟩ := get_some (l := k) (k := j) (by have := HN.out; omega)
      obtain ⟨b, o, A1, n1, c1, S1, T1, q1, rfl, hb1, hIs1, hn1, hr1, p0, p1, p2, p3⟩ := (HR.out.call HW.out).at_ hg
      obtain ⟨z, hz⟩ : ∃ z, onePc r = z := ⟨_, rfl⟩
      obtain ⟨wb, hwb⟩ : ∃ wb, wr.alloc (.cells #[.string S1, .string T1, .bool q1, .slice A1 n1 c1] 44) = wb := ⟨_, rfl⟩
      have hbb : Below wr.heap.size wr wb := by rw [← hwb]; exact below_new _ _
      have CS := Lib.hid (fun (L : List (Addr × Value)) => fun (W : World) (hC : CellL wb L W) => (kw_right1 r S1 T1 q1 A1 c1 n1 ⟨hIs1, hn1⟩ z hz W ((hr1.call hbb).call (cellL_size hC))).mono fun (e' : Ending) (W' : World) ⟨h1, h2⟩ => (⟨h1, cellL_call h2 hC⟩ : e' = Ending.returned (.bool z) ∧ CellL wb L W'))
      have hnew := heap_new wr (.cells #[.string S1, .string T1, .bool q1, .slice A1 n1 c1] 44) _ rfl
      have t0 : wb.cell? ⟨wr.heap.size, 0, none⟩ = some (.string S1) := by rw [← hwb, cell_of_row _ _ _ _ _ _ hnew]; rfl
      have t1 : wb.cell? ⟨wr.heap.size, 1, none⟩ = some (.string T1) := by rw [← hwb, cell_of_row _ _ _ _ _ _ hnew]; rfl
      have t2 : wb.cell? ⟨wr.heap.size, 2, none⟩ = some (.bool q1) := by rw [← hwb, cell_of_row _ _ _ _ _ _ hnew]; rfl
      have t3 : wb.cell? ⟨wr.heap.size, 3, none⟩ = some (.slice A1 n1 c1) := by rw [← hwb, cell_of_row _ _ _ _ _ _ hnew]; rfl
      have HWB := Lib.hid (HW.out.trans (hbb.mono HW.out.size))
      have hj0 : (0 : Int) ≤ (j : Int) := by omega
      have hjn : (j : Int) < (n : Int) := by omega
      rcases HL.out with ⟨h0, hL⟩ | ⟨i, p, hi, hgi, hL⟩
      · subst h0
        rw [List.drop_zero] at hd
        have HF := Lib.hid (show (z && chainR r (k.drop (0 + 1))) = v by rw [hd, rightP_chain, hz] at hL; exact hL)
        have HNX := Lib.hid (fun (h : chainR r (k.drop (0 + 1)) = v) => show (0 + 1 = 0 ∧ rightP k = v) ∨ ∃ i' p, 0 + 1 = i' + 1 ∧ k[i']? = some p ∧ chainR p (k.drop (0 + 1)) = v from .inr ⟨0, r, rfl, hg, h⟩)
        rw [Nat.zero_mul, Nat.add_zero] at p0 p1 p2 p3
        have HC := Lib.hid (show CellL wb [(⟨wr.heap.size, 0, none⟩, .string S1), (⟨wr.heap.size, 1, none⟩, .string T1), (⟨wr.heap.size, 2, none⟩, .bool q1), (⟨wr.heap.size, 3, none⟩, .slice A1 n1 c1)] wb from ⟨t0, t1, t2, t3, Below.refl _ _⟩)
        clear hg hd hz hL HL hr1 hn1 hIs1 t0 t1 t2 t3 hnew hbb
        cases z
        all_goals
          go_upto_region 4 with fail
          refine q_region (CellL wb [(⟨wr.heap.size, 0, none⟩, .string S1), (⟨wr.heap.size, 1, none⟩, .string T1), (⟨wr.heap.size, 2, none⟩, .bool q1), (⟨wr.heap.size, 3, none⟩, .slice A1 n1 c1)]) (by kernel_rfl) (by kernel_rfl) (cellL_drew HC.out) ?_
          repeat (first
            | go_big_quiet_skip
            | (go_big_quiet_want; (first
              | (refine q_take (v := ?_) ?_ ?_; rotate_left; (focus (intro w hSw; (try simp only [CellL] at hSw); go_split_ands; go_simp; (try (rw [if_neg (by omega)])); (try with_reducible rfl); done)))
              | (refine q_call (CS.out _) ?_ ?_; (focus (intro w hSw; (try simp only [CellL] at hSw); go_split_ands; go_simp; (try (rw [if_neg (by omega)])); done)))); (try simp only [Act.put, List.setIfInBounds_toArray, List.set_cons_zero, List.set_cons_succ]); go_big_quiet_on))
          refine wpQuiet_nil ?_
          intro w2 hw2
          have HB2 := Lib.hid (HWB.out.trans ((cellL_size hw2).mono HWB.out.size))
          clear hw2
          go_wp2_with fail
          first
            | (go_ret; exact ⟨ret_bool (show false = v from HF.out), HB2.out⟩)
            | (go_roundw
               case rel => exact ⟨0 + 1, by omega, by go_num, HNX.out HF.out, HB2⟩
               case measure => simp [intOf]; omega)
      · subst hi
        obtain ⟨b', o', A2, n2, c2, S2, T2, q2, hA, hb2, hIs2, hn2, hr2, u0, u1, u2, u3⟩ := (HR.out.call HW.out).at_ hgi
        injection hA with hA
        injection hA with e1 e2
        subst e1 e2
        obtain ⟨y, hy⟩ : ∃ y, gapP p r = y := ⟨_, rfl⟩
        have CF := Lib.hid (fun (L : List (Addr × Value)) => fun (W : World) (hC : CellL wb L W) => (kw_follows p r S2 T2 S1 T1 q2 q1 A2 A1 c2 c1 n2 n1 ⟨hIs2, hn2⟩ ⟨hIs1, hn1⟩ y hy W ((hr2.call hbb).call (cellL_size hC)) ((hr1.call hbb).call (cellL_size hC))).mono fun (e' : Ending) (W' : World) ⟨h1, h2⟩ => (⟨h1, cellL_call h2 hC⟩ : e' = Ending.returned (.bool y) ∧ CellL wb L W'))
        have HF := Lib.hid (show (z && (y && chainR r (k.drop (i + 1 + 1)))) = v by rw [hd] at hL; rw [← hL, chainR, hz, hy])
        have HNX := Lib.hid (fun (h : chainR r (k.drop (i + 1 + 1)) = v) => show (i + 1 + 1 = 0 ∧ rightP k = v) ∨ ∃ i' p, i + 1 + 1 = i' + 1 ∧ k[i']? = some p ∧ chainR p (k.drop (i + 1 + 1)) = v from .inr ⟨i + 1, r, rfl, hg, h⟩)
        have hk1 : (0 : Int) ≤ (i : Int) + 1 := by omega
        have hkn1 : (i : Int) + 1 < (n : Int) := by omega
        have hi0 : (0 : Int) ≤ (i : Int) := by omega
        have hin : (i : Int) < (n : Int) := by omega
        have hid' : decide ((i : Int) < 0) = false := decide_eq_false (by omega)
        have hjg : decide ((0 : Int) < (i : Int) + 1) = true := decide_eq_true (by omega)
        have hjg2 : decide ((i : Int) + 1 > 0) = true := hjg
        have hjw : IntKind.i64.wrap ((i : Int) + 1 - 1) = (i : Int) := by rw [Int.add_sub_cancel]; exact IntWalk.i64_in _ (by omega)
        have hjw2 : IntKind.i64.wrap (i : Int) = (i : Int) := IntWalk.i64_in _ (by omega)
        have tr : ∀ x u, wr.cell? ⟨b, x, none⟩ = some u → wb.cell? ⟨b, x, none⟩ = some u := fun x u h => ((bcell hbb).1 _ _ (World.block_lt_of_cell? wr _ h)).trans h
        have u0 := tr _ _ u0
        have u1 := tr _ _ u1
        have u2 := tr _ _ u2
        have u3 := tr _ _ u3
        have HC := Lib.hid (show CellL wb [(⟨wr.heap.size, 0, none⟩, .string S1), (⟨wr.heap.size, 1, none⟩, .string T1), (⟨wr.heap.size, 2, none⟩, .bool q1), (⟨wr.heap.size, 3, none⟩, .slice A1 n1 c1), (⟨b, o + i * 4, none⟩, .string S2), (⟨b, o + i * 4 + 1, none⟩, .string T2), (⟨b, o + i * 4 + 2, none⟩, .bool q2), (⟨b, o + i * 4 + 3, none⟩, .slice A2 n2 c2)] wb from ⟨t0, t1, t2, t3, u0, u1, u2, u3, Below.refl _ _⟩)
        clear hg hgi hd hz hy hL HL hr1 hn1 hIs1 hr2 hn2 hIs2 t0 t1 t2 t3 u0 u1 u2 u3 tr hnew hbb
        cases z <;> cases y
        all_goals
          go_upto_region 4 with fail
          refine q_region (CellL wb [(⟨wr.heap.size, 0, none⟩, .string S1), (⟨wr.heap.size, 1, none⟩, .string T1), (⟨wr.heap.size, 2, none⟩, .bool q1), (⟨wr.heap.size, 3, none⟩, .slice A1 n1 c1), (⟨b, o + i * 4, none⟩, .string S2), (⟨b, o + i * 4 + 1, none⟩, .string T2), (⟨b, o + i * 4 + 2, none⟩, .bool q2), (⟨b, o + i * 4 + 3, none⟩, .slice A2 n2 c2)]) (by kernel_rfl) (by kernel_rfl) (cellL_drew HC.out) ?_
          repeat (first
            | go_big_quiet_skip
            | (go_big_quiet_want; (first
              | (refine q_take (v := ?_) ?_ ?_; rotate_left; (focus (intro w hSw; (try simp only [CellL] at hSw); go_split_ands; go_simp; (try (rw [if_neg (by omega)])); (try with_reducible rfl); done)))
              | (refine q_call (CS.out _) ?_ ?_; (focus (intro w hSw; (try simp only [CellL] at hSw); go_split_ands; go_simp; (try (rw [if_neg (by omega)])); done)))
              | (refine q_call (CF.out _) ?_ ?_; (focus (intro w hSw; (try simp only [CellL] at hSw); go_split_ands; go_simp; (try (rw [if_neg (by omega)])); done)))); (try simp only [Act.put, List.setIfInBounds_toArray, List.set_cons_zero, List.set_cons_succ]); go_big_quiet_on))
          refine wpQuiet_nil ?_
          intro w2 hw2
          have HB2 := Lib.hid (HWB.out.trans ((cellL_size hw2).mono HWB.out.size))
          clear hw2
          go_wp2_with fail
          first
            | (go_ret; exact ⟨ret_bool (show false = v from HF.out), HB2.out⟩)
            | (go_roundw
               case rel => exact ⟨i + 1 + 1, by omega, by go_num, HNX.out HF.out, HB2⟩
               case measure => simp [intOf]; omega)
    · have HF := Lib.hid (show true = v by
        rcases HL.out with ⟨h0, hL⟩ | ⟨i, p, hi, hgi, hL⟩
        · have : k = [] := List.eq_nil_of_length_eq_zero (by have := HN.out; omega)
          rw [← hL, this]; rfl
        · rw [← hL, List.drop_eq_nil_of_le (by have := HN.out; omega)]; rfl)
      go_wp2_with fail
      go_ret
      exact ⟨ret_bool HF.out, HW.out⟩
end Go.Proofs.YtaodifpnfejbbaaGreat

/-
  Layer 14 (vset), the program: has a set a version?
-/
namespace Go.Proofs.YtaodifpnfejbbaaGreat
open Go.RowKit

theorem hasC_part (k : Kn) (X Y : Int) : hasC (partV k X) Y = ((k.rep == X) && hasC k.runs Y) := by
  by_cases h : k.rep = X
  · rw [partV_yes h, h, beq_self_eq_true, Bool.true_and]
  · rw [partV_no h, beq_eq_false_iff_ne.2 h, Bool.false_and, hasC_nil]
theorem runsV_cons (k : Kn) (s : List Kn) (r : Int) : runsV (k :: s) r = partV k r ++ runsV s r := rfl
set_option maxRecDepth 100000 in
theorem vs_hasf (x : Kn) (A : Option Addr) (c n : Nat) (hn : n = x.runs.length) (U X Y : Int) (f : Bool) (hf : ((U == X) && hasC x.runs Y) = f) (g : Nat) (w : World) (h0 : w.cell? ⟨g, 0, none⟩ = some (.int .i64 X)) (h1 : w.cell? ⟨g, 1, none⟩ = some (.int .i64 Y)) (hr : kRn.Rd w w.heap.size A c x.runs) :
    Calls Tryz.prog 81 #[.agg #[.int .i64 U, .slice A n c], .pointer (some ⟨g, 0, none⟩)] w fun e w' => e = .returned (.bool f) ∧ Below w.heap.size w w' := by
  have hlt := World.block_lt_of_cell? w _ h0
  obtain ⟨z, hz⟩ : ∃ z, hasC x.runs Y = z := ⟨_, rfl⟩
  obtain ⟨p, hp⟩ : ∃ p, (U == X) = p := ⟨_, rfl⟩
  have hb := below_new w (.cells #[.int .i64 U, .slice A n c] 61)
  have C := Lib.hid (cn_has A c n x.runs Y hn z hz _ (hr.call hb))
  have HB := Lib.hid hb
  rw [hz, hp] at hf
  subst hf
  clear hn hr hz hb
  cases p
  · go_enter Tryz.func81, Tryz.ntmps81
    go_wp2_with fail
    go_ret
    exact ⟨rfl, HB.out⟩
  · go_enter Tryz.func81, Tryz.ntmps81
    go_wp2_with ((with_reducible refine C.out.mono ?_); rintro e w1 ⟨rfl, hq⟩; have HQ := Lib.hid hq; clear hq)
    go_ret
    exact ⟨rfl, HB.out.trans (HQ.out.mono HB.out.size)⟩
set_option maxRecDepth 100000 in
set_option maxHeartbeats 2000000 in
theorem vs_index (A : Option Addr) (c n : Nat) (s : List Kn) (hn : n = s.length) (g : Nat) (X Y : Int) (f : Bool) (hf : hasC (runsV s X) Y = f) (w : World) (h0 : w.cell? ⟨g, 0, none⟩ = some (.int .i64 X)) (h1 : w.cell? ⟨g, 1, none⟩ = some (.int .i64 Y)) (hr : RdK w w.heap.size A c s) :
    Calls Tryz.prog 114 #[.slice A n c, .func (.func 81) #[] #[.pointer (some ⟨g, 0, none⟩)]] w fun e w' => ∃ z : Int, e = .returned (.int .i64 z) ∧ decide (z ≥ 0) = f ∧ Below w.heap.size w w' := by
  have HN := Lib.hid hn
  have HR := Lib.hid hr
  have HF := Lib.hid hf
  have H0 := Lib.hid h0
  have H1 := Lib.hid h1
  have HG := Lib.hid (World.block_lt_of_cell? w _ h0)
  have hmx := rdk_max hr hn
  have hcx : n ≤ c := by rw [hn]; exact hr.room
  clear hn hr hf h0 h1
  go_enter Tryz.func114, Tryz.ntmps114
  go_wp2_with fail
  go_loopw [8] (fun i wr => ∃ k : Nat, k ≤ n ∧ Hid (hasC (runsV (s.drop k) X) Y = f) ∧ i = .int .i64 k ∧ Hid (Below w.heap.size w wr)) (fun i _ => n - (intOf i).toNat)
  case atStart => exact ⟨0, by omega, HF, rfl, Below.refl _ _⟩
  case round =>
    obtain ⟨k, hk, HL, rfl, HW⟩ := hrel
    by_cases hlt : k < n
    · obtain ⟨x, hg, hd, -⟩ := cnt_get (l := s) (k := k) (by have := HN.out; omega)
      obtain ⟨b, o, rfl, hb1, hcell⟩ := knowns_at (HR.out.call HW.out) (by have := HN.out; omega)
      obtain ⟨A1, n1, c1, hn1, hr1, q0, q1⟩ := hcell k x hg
      obtain ⟨U, hU⟩ : ∃ U, x.rep = U := ⟨_, rfl⟩
      rw [hU] at q0
      obtain ⟨z, hz⟩ : ∃ z, ((U == X) && hasC x.runs Y) = z := ⟨_, rfl⟩
      have hb := (bcell HW.out).1
      have C := Lib.hid (vs_hasf x A1 c1 n1 hn1 U X Y z hz g wr ((hb g 0 HG.out).trans H0.out) ((hb g 1 HG.out).trans H1.out) hr1)
      have HL2 := Lib.hid (show (z || hasC (runsV (s.drop (k + 1)) X) Y) = f by rw [← HL.out, hd, runsV_cons, hasC_append, hasC_part, hU, hz])
      clear hcell hg hd hr1 hn1 hU hz hb
      cases z
      · go_wp2_with ((with_reducible refine C.out.mono ?_); rintro e w1 ⟨rfl, hq⟩; have HW2 := Lib.hid (HW.out.trans (hq.mono HW.out.size)); clear hq)
        go_roundw
        case rel => exact ⟨k + 1, by omega, HL2, by go_num, HW2⟩
        case measure => simp [intOf]; omega
      · go_wp2_with ((with_reducible refine C.out.mono ?_); rintro e w1 ⟨rfl, hq⟩; have HW2 := Lib.hid (HW.out.trans (hq.mono HW.out.size)); clear hq)
        go_ret
        exact ⟨(k : Int), rfl, (decide_eq_true (by omega)).trans HL2.out, HW2.out⟩
    · have HL2 := Lib.hid (show false = f by rw [← HL.out, List.drop_eq_nil_of_le (by have := HN.out; omega)]; rfl)
      go_wp2_with fail
      go_ret
      exact ⟨-1, rfl, HL2.out, HW.out⟩
theorem vs_contains (A : Option Addr) (c n : Nat) (s : List Kn) (hn : n = s.length) (g : Nat) (X Y : Int) (f : Bool) (hf : hasC (runsV s X) Y = f) (w : World) (h0 : w.cell? ⟨g, 0, none⟩ = some (.int .i64 X)) (h1 : w.cell? ⟨g, 1, none⟩ = some (.int .i64 Y)) (hr : RdK w w.heap.size A c s) :
    Calls Tryz.prog 80 #[.slice A n c, .func (.func 81) #[] #[.pointer (some ⟨g, 0, none⟩)]] w fun e w' => e = .returned (.bool f) ∧ Below w.heap.size w w' := by
  have C := Lib.hid (vs_index A c n s hn g X Y f hf w h0 h1 hr)
  clear hn hf h0 h1 hr
  go_enter Tryz.func80, Tryz.ntmps80
  go_wp2_with ((with_reducible refine C.out.mono ?_); rintro e w1 ⟨z, rfl, hz, hq⟩; have HQ := Lib.hid hq; clear hq)
  go_ret
  exact ⟨rfl, HQ.out⟩
set_option maxRecDepth 100000 in
theorem vs_has (A : Option Addr) (c n : Nat) (s : List Kn) (v : Vr) (x y : Int) (hx : v.rep = x) (hy : v.cnt = y) (hn : n = s.length) (f : Bool) (hf : hasS s v = f) (w : World) (hr : RdK w w.heap.size A c s) :
    Calls Tryz.prog 45 #[.slice A n c, .agg #[.int .i64 x, .int .i64 y]] w fun e w' => e = .returned (.bool f) ∧ Below w.heap.size w w' := by
  have hmf : ∀ (fn : Fn) (first cap : Array Value) (w : World), (Instr.makeFunc fn first cap).run Tryz.prog w = .ok (.func fn first cap) w := fun _ _ _ _ => rfl
  obtain ⟨p, hp⟩ : ∃ p, rightVr v = p := ⟨_, rfl⟩
  have C1 := fun w => Lib.hid (k_vright v x y hx hy p hp w)
  have hbx := vbox_new w x y
  have HB := Lib.hid (below_new w (.cells #[.int .i64 x, .int .i64 y] 24))
  have hlz : w.heap.size < (w.alloc (.cells #[.int .i64 x, .int .i64 y] 24)).heap.size := by simp
  unfold hasS at hf
  rw [hp, hx, hy] at hf
  cases p
  · subst hf
    clear hp hx hy hn hr hbx hlz
    go_enter Tryz.func45, Tryz.ntmps45
    go_wp2_with ((with_reducible refine (C1 _).out.mono ?_); rintro e w1 ⟨rfl, hq⟩; have HQ := Lib.hid hq; clear hq)
    go_ret
    exact ⟨rfl, HB.out.trans (HQ.out.mono HB.out.size)⟩
  · have C2 := fun g w h0 h1 h => Lib.hid (vs_contains A c n s hn g x y f hf w h0 h1 h)
    have HR := Lib.hid (hr.call HB.out)
    clear hp hx hy hn hr hf
    go_enter Tryz.func45, Tryz.ntmps45
    go_wp2_with (first
      | ((with_reducible refine (C1 _).out.mono ?_); rintro e w1 ⟨rfl, hq⟩; have HQ := Lib.hid hq; have s0 := ((bcell hq).1 w.heap.size 0 hlz).trans hbx.1; have s1 := ((bcell hq).1 w.heap.size 1 hlz).trans hbx.2; clear hq)
      | ((with_reducible refine (C2 _ _ s0 s1 (HR.out.call HQ.out)).out.mono ?_); rintro e w2 ⟨rfl, hq⟩; have HQ2 := Lib.hid hq; clear hq))
    go_ret
    exact ⟨rfl, HB.out.trans ((HQ.out.mono HB.out.size).trans (HQ2.out.mono (Nat.le_trans HB.out.size HQ.out.size)))⟩
end Go.Proofs.YtaodifpnfejbbaaGreat

/-
  Layer 15 (know), the program: is a version of a text known; all that is known of a text.
-/
namespace Go.Proofs.YtaodifpnfejbbaaGreat
open Go.RowKit

set_option maxRecDepth 100000 in
set_option maxHeartbeats 1000000 in
theorem kw_hasf (p : Pc) (S T : ByteArray) (o : Bool) (A : Option Addr) (c n : Nat) (hp : PcIs p S T o n) (s : List UInt8) (U : ByteArray) (hU : str s = U) (v : Vr) (x y : Int) (hx : v.rep = x) (hy : v.cnt = y) (f : Bool) (hf : (hasR p.rng s && hasS p.set v) = f) (g1 g2 : Nat) (w : World)
    (h0 : w.cell? ⟨g1, 0, none⟩ = some (.string U)) (h1 : w.cell? ⟨g2, 0, none⟩ = some (.int .i64 x)) (h2 : w.cell? ⟨g2, 1, none⟩ = some (.int .i64 y)) (hr : RdK w w.heap.size A c p.set) :
    Calls Tryz.prog 43 #[.agg #[.string S, .string T, .bool o, .slice A n c], .pointer (some ⟨g1, 0, none⟩), .pointer (some ⟨g2, 0, none⟩)] w fun e w' => e = .returned (.bool f) ∧ Below w.heap.size w w' := by
  have hlt1 := World.block_lt_of_cell? w _ h0
  have hlt2 := World.block_lt_of_cell? w _ h1
  obtain ⟨hIs, hn⟩ := hp
  obtain ⟨d1, hd1⟩ : ∃ d, hasR p.rng s = d := ⟨_, rfl⟩
  obtain ⟨d2, hd2⟩ : ∃ d, hasS p.set v = d := ⟨_, rfl⟩
  have hb := below_new w (.cells #[.string S, .string T, .bool o, .slice A n c] 44)
  have C1 := fun w => Lib.hid (span_has p.rng s S T U o d1 hIs hU hd1 w)
  have C2 := fun w h => Lib.hid (vs_has A c n p.set v x y hx hy hn d2 hd2 w h)
  have HB := Lib.hid hb
  have HR := Lib.hid (hr.call hb)
  have hlz : w.heap.size < (w.alloc (.cells #[.string S, .string T, .bool o, .slice A n c] 44)).heap.size := by simp
  have hnew := heap_new w (.cells #[.string S, .string T, .bool o, .slice A n c] 44) _ rfl
  have Q3 := Lib.hid (show (w.alloc (.cells #[.string S, .string T, .bool o, .slice A n c] 44)).cell? ⟨w.heap.size, 3, none⟩ = some (.slice A n c) by rw [cell_of_row _ _ _ _ _ _ hnew]; rfl)
  have H1 := Lib.hid (((bcell hb).1 g2 0 hlt2).trans h1)
  have H2 := Lib.hid (((bcell hb).1 g2 1 hlt2).trans h2)
  have hl2 : g2 < (w.alloc (.cells #[.string S, .string T, .bool o, .slice A n c] 44)).heap.size := Nat.lt_of_lt_of_le hlt2 hb.size
  rw [hd1, hd2] at hf
  subst hf
  clear hn hr hb hIs hd1 hd2 hU hx hy hnew h1 h2
  cases d1
  · go_enter Tryz.func43, Tryz.ntmps43
    go_wp2_with ((with_reducible refine (C1 _).out.mono ?_); rintro e w1 ⟨rfl, hq⟩; have HQ := Lib.hid hq; clear hq)
    go_ret
    exact ⟨rfl, HB.out.trans (HQ.out.mono HB.out.size)⟩
  · go_enter Tryz.func43, Tryz.ntmps43
    go_wp2_with (first
      | ((with_reducible refine (C1 _).out.mono ?_); rintro e w1 ⟨rfl, hq⟩; have HQ := Lib.hid hq; have g3 := ((bcell hq).1 w.heap.size 3 hlz).trans Q3.out; have k1 := ((bcell hq).1 g2 0 hl2).trans H1.out; have k2 := ((bcell hq).1 g2 1 hl2).trans H2.out; replace HR := Lib.hid (HR.out.call hq); clear hq)
      | ((with_reducible refine (C2 _ HR.out).out.mono ?_); rintro e w2 ⟨rfl, hq⟩; have HQ2 := Lib.hid (HQ.out.trans (hq.mono HQ.out.size)); clear hq))
    go_ret
    exact ⟨rfl, HB.out.trans (HQ2.out.mono HB.out.size)⟩
set_option maxRecDepth 100000 in
set_option maxHeartbeats 2000000 in
theorem kw_index (A : Option Addr) (c n : Nat) (k : List Pc) (hn : n = k.length) (s : List UInt8) (U : ByteArray) (hU : str s = U) (v : Vr) (x y : Int) (hx : v.rep = x) (hy : v.cnt = y) (f : Bool) (hf : hasP k s v = f) (g1 g2 : Nat) (w : World)
    (h0 : w.cell? ⟨g1, 0, none⟩ = some (.string U)) (h1 : w.cell? ⟨g2, 0, none⟩ = some (.int .i64 x)) (h2 : w.cell? ⟨g2, 1, none⟩ = some (.int .i64 y)) (hr : RdPc w A c k) :
    Calls Tryz.prog 78 #[.slice A n c, .func (.func 43) #[] #[.pointer (some ⟨g1, 0, none⟩), .pointer (some ⟨g2, 0, none⟩)]] w fun e w' => ∃ z : Int, e = .returned (.int .i64 z) ∧ decide (z ≥ 0) = f ∧ Below w.heap.size w w' := by
  have HN := Lib.hid hn
  have HR := Lib.hid hr
  have HF := Lib.hid hf
  have H0 := Lib.hid h0
  have H1 := Lib.hid h1
  have H2 := Lib.hid h2
  have HG1 := Lib.hid (World.block_lt_of_cell? w _ h0)
  have HG2 := Lib.hid (World.block_lt_of_cell? w _ h1)
  have hmx := hr.max hn
  have hcx : n ≤ c := by rw [hn]; exact hr.room
  have CF := Lib.hid (fun (p : Pc) (S T : ByteArray) (o : Bool) (A : Option Addr) (c n : Nat) (hp : PcIs p S T o n) (z : Bool) (hz : (hasR p.rng s && hasS p.set v) = z) (W : World) k0 k1 k2 h => kw_hasf p S T o A c n hp s U hU v x y hx hy z hz g1 g2 W k0 k1 k2 h)
  clear hn hr hf h0 h1 h2 hU hx hy
  go_enter Tryz.func78, Tryz.ntmps78
  go_wp2_with fail
  go_loopw [8] (fun i wr => ∃ j : Nat, j ≤ n ∧ Hid (hasP (k.drop j) s v = f) ∧ i = .int .i64 j ∧ Hid (Below w.heap.size w wr)) (fun i _ => n - (intOf i).toNat)
  case atStart => exact ⟨0, by omega, HF, rfl, Below.refl _ _⟩
  case round =>
    obtain ⟨j, hj, HL, rfl, HW⟩ := hrel
    by_cases hlt : j < n
    · obtain ⟨r, hg, hd, -⟩ := get_some (l := k) (k := j) (by have := HN.out; omega)
      obtain ⟨b, o, A1, n1, c1, S1, T1, q1, rfl, hb1, hIs1, hn1, hr1, p0, p1, p2, p3⟩ := (HR.out.call HW.out).at_ hg
      obtain ⟨z, hz⟩ : ∃ z, (hasR r.rng s && hasS r.set v) = z := ⟨_, rfl⟩
      have hb := (bcell HW.out).1
      have C := Lib.hid (CF.out r S1 T1 q1 A1 c1 n1 ⟨hIs1, hn1⟩ z hz wr ((hb g1 0 HG1.out).trans H0.out) ((hb g2 0 HG2.out).trans H1.out) ((hb g2 1 HG2.out).trans H2.out) hr1)
      have HL2 := Lib.hid (show (z || hasP (k.drop (j + 1)) s v) = f by rw [← HL.out, hd, hasP_cons, hz])
      have hj0 : (0 : Int) ≤ (j : Int) := by omega
      have hjn : (j : Int) < (n : Int) := by omega
      clear hg hd hr1 hn1 hIs1 hz hb CF
      cases z
      · go_wp2_with ((with_reducible refine C.out.mono ?_); rintro e w1 ⟨rfl, hq⟩; have HW2 := Lib.hid (HW.out.trans (hq.mono HW.out.size)); clear hq)
        go_roundw
        case rel => exact ⟨j + 1, by omega, HL2, by go_num, HW2⟩
        case measure => simp [intOf]; omega
      · go_wp2_with ((with_reducible refine C.out.mono ?_); rintro e w1 ⟨rfl, hq⟩; have HW2 := Lib.hid (HW.out.trans (hq.mono HW.out.size)); clear hq)
        go_ret
        exact ⟨(j : Int), rfl, (decide_eq_true (by omega)).trans HL2.out, HW2.out⟩
    · have HL2 := Lib.hid (show false = f by rw [← HL.out, List.drop_eq_nil_of_le (by have := HN.out; omega)]; rfl)
      go_wp2_with fail
      go_ret
      exact ⟨-1, rfl, HL2.out, HW.out⟩
theorem kw_contains (A : Option Addr) (c n : Nat) (k : List Pc) (hn : n = k.length) (s : List UInt8) (U : ByteArray) (hU : str s = U) (v : Vr) (x y : Int) (hx : v.rep = x) (hy : v.cnt = y) (f : Bool) (hf : hasP k s v = f) (g1 g2 : Nat) (w : World)
    (h0 : w.cell? ⟨g1, 0, none⟩ = some (.string U)) (h1 : w.cell? ⟨g2, 0, none⟩ = some (.int .i64 x)) (h2 : w.cell? ⟨g2, 1, none⟩ = some (.int .i64 y)) (hr : RdPc w A c k) :
    Calls Tryz.prog 42 #[.slice A n c, .func (.func 43) #[] #[.pointer (some ⟨g1, 0, none⟩), .pointer (some ⟨g2, 0, none⟩)]] w fun e w' => e = .returned (.bool f) ∧ Below w.heap.size w w' := by
  have C := Lib.hid (kw_index A c n k hn s U hU v x y hx hy f hf g1 g2 w h0 h1 h2 hr)
  clear hn hf h0 h1 h2 hr hU hx hy
  go_enter Tryz.func42, Tryz.ntmps42
  go_wp2_with ((with_reducible refine C.out.mono ?_); rintro e w1 ⟨z, rfl, hz, hq⟩; have HQ := Lib.hid hq; clear hq)
  go_ret
  exact ⟨rfl, HQ.out⟩
set_option maxRecDepth 100000 in
theorem kw_has (A : Option Addr) (c n : Nat) (k : List Pc) (s : List UInt8) (U : ByteArray) (v : Vr) (x y : Int) (hn : n = k.length) (hU : str s = U) (hx : v.rep = x) (hy : v.cnt = y) (z : Bool) (hz : hasP k s v = z) (w : World) (hr : RdPc w A c k) :
    Calls Tryz.prog 13 #[.slice A n c, .string U, .agg #[.int .i64 x, .int .i64 y]] w fun e w' => e = .returned (.bool z) ∧ Below w.heap.size w w' := by
  have hmf : ∀ (fn : Fn) (first cap : Array Value) (w : World), (Instr.makeFunc fn first cap).run Tryz.prog w = .ok (.func fn first cap) w := fun _ _ _ _ => rfl
  obtain ⟨W, hW⟩ : ∃ W, (w.alloc (.cells #[.string U] 9)).alloc (.cells #[.int .i64 x, .int .i64 y] 24) = W := ⟨_, rfl⟩
  have hb : Below w.heap.size w W := hW ▸ below_two w _ _
  have hv := vbox_new (w.alloc (.cells #[.string U] 9)) x y
  rw [size1, hW] at hv
  have hn0 := heap_new w (.cells #[.string U] 9) _ rfl
  have h0 : W.cell? ⟨w.heap.size, 0, none⟩ = some (.string U) := by
    rw [← hW, (bcell (below_new _ _)).1 _ _ (by simp), cell_of_row _ _ _ _ _ _ hn0]; rfl
  have C := Lib.hid (kw_contains A c n k hn s U hU v x y hx hy z hz w.heap.size (w.heap.size + 1) W h0 hv.1 hv.2 (hr.call hb))
  have HB := Lib.hid hb
  clear hn hU hx hy hz hr hb hv hn0 h0
  go_enter Tryz.func13, Tryz.ntmps13
  go_wp2_with ((with_reducible refine C.out.mono ?_); rintro e w1 ⟨rfl, hq⟩; have HQ := Lib.hid hq; clear hq)
  go_ret
  exact ⟨rfl, HB.out.trans (HQ.out.mono HB.out.size)⟩
set_option maxRecDepth 100000 in
set_option maxHeartbeats 4000000 in
theorem kw_at (A : Option Addr) (c n : Nat) (k : List Pc) (s : List UInt8) (U : ByteArray) (hn : n = k.length) (hU : str s = U) (hcl : (catK k s).length ≤ 900000) (hrl : ∀ r, (runsV (catK k s) r).length ≤ 200000)
    (K : List Kn) (hK : atK k s = K) (N : Nat) (hN : K.length = N) (w : World) (hr : RdPc w A c k) : Calls Tryz.prog 16 #[.slice A n c, .string U] w (RetKF w N K) := by
  have HN := Lib.hid hn
  have HR := Lib.hid (Deep.Rd.lives hr)
  have hmx := hr.max hn
  have hcx : n ≤ c := by rw [hn]; exact hr.room
  have HCL := Lib.hid hcl
  obtain ⟨T, hT⟩ : ∃ T, catK k s = T := ⟨_, rfl⟩
  have HT := Lib.hid hT
  obtain ⟨NT, hNT⟩ : ∃ NT, NT = T.length := ⟨_, rfl⟩
  have HNT := Lib.hid hNT
  have CO := fun A9 c9 w h => Lib.hid (vs_of_new A9 c9 NT T hNT (hT ▸ hrl) K (by rw [← hT]; exact hK) N hN w h)
  have C0 := fun r S T o h d hd w => Lib.hid (span_has r s S T U o d h hU hd w)
  have HRR := Lib.hid hr
  clear hn hr hU hrl hK hN hT hNT hcl
  go_enter Tryz.func16, Tryz.ntmps16
  go_wp2_with fail
  go_loopw [5, 10] (fun v i wr => ∃ j : Nat, j ≤ n ∧ Hid (dKn.Own wr w.heap.size (fun _ => True) v (catK (k.take j) s)) ∧ i = .int .i64 j ∧ Hid (Below w.heap.size w wr)) (fun _ i _ => n - (intOf i).toNat)
  case atStart => exact ⟨0, by omega, Deep.Own.nil _ _ _, rfl, Below.refl _ _⟩
  case round =>
    obtain ⟨j, hj, HO, rfl, HW⟩ := hrel
    by_cases hlt : j < n
    · obtain ⟨x, hg, -, -⟩ := get_some (l := k) (k := j) (by have := HN.out; omega)
      obtain ⟨b, o, rfl, hb1, hcell⟩ := pieces_of (HR.out.keep (keptS_under HW.out fun g h => h.2)) (by have := HN.out; omega)
      obtain ⟨A', n', c', hn', hrd, c0, c1, c2, c3⟩ := hcell j x hg
      have hmx' := hrd.max hn'
      have hcx' : n' ≤ c' := by rw [hn']; exact hrd.room
      have HS := Lib.hid (catK_take s hg)
      obtain ⟨d, hd⟩ : ∃ d, hasR x.rng s = d := ⟨_, rfl⟩
      have C1 := fun w => C0 x.rng _ _ _ (IsR.mk' x.rng) d hd w
      obtain ⟨bs, ho, hall⟩ := HO.out
      obtain ⟨ys, hys, hyall⟩ := hrd
      have hpl := catK_part k (j + 1) s
      obtain ⟨S1, hS1⟩ : ∃ S, str x.rng.lo = S := ⟨_, rfl⟩
      obtain ⟨S2, hS2⟩ : ∃ S, str x.rng.hi = S := ⟨_, rfl⟩
      obtain ⟨q, hq⟩ : ∃ q, x.rng.op = q := ⟨_, rfl⟩
      rw [hS1, hS2, hq] at C1
      rw [hS1] at c0
      rw [hS2] at c1
      rw [hq] at c2
      have hbb := below_new wr (.cells #[.string S1, .string S2, .bool q, .slice A' n' c'] 44)
      have hlz : wr.heap.size < (wr.alloc (.cells #[.string S1, .string S2, .bool q, .slice A' n' c'] 44)).heap.size := by simp
      have hnew := heap_new wr (.cells #[.string S1, .string S2, .bool q, .slice A' n' c'] 44) _ rfl
      have Q3 := Lib.hid (show (wr.alloc (.cells #[.string S1, .string S2, .bool q, .slice A' n' c'] 44)).cell? ⟨wr.heap.size, 3, none⟩ = some (.slice A' n' c') by rw [cell_of_row _ _ _ _ _ _ hnew]; rfl)
      have HKO := Lib.hid (Kind.Own.below ho hbb)
      have HKA := Lib.hid (hall.keep (keptS_below hbb _))
      have HYA := Lib.hid (hyall.keep (keptS_below hbb _))
      have HYR := Lib.hid (hys.keep (keptS_below hbb _))
      have HYN := Lib.hid (hn'.trans hyall.1.symm)
      have HWB := Lib.hid (HW.out.trans (hbb.mono HW.out.size))
      have hj0 : (0 : Int) ≤ (j : Int) := by omega
      have hjn : (j : Int) < (n : Int) := by omega
      replace HO := Lib.hid (HO.out.below hbb)
      cases d
      · have HE := Lib.hid (setP_no hd)
        clear hcell hg hd hn' hS1 hS2 hq ho hall hys hyall hpl HKO HKA HYA HYR HYN C0 CO hbb hnew
        go_wp2_with ((with_reducible refine (C1 _).out.mono ?_); rintro e w2 ⟨rfl, hq⟩; replace HO := Lib.hid (HO.out.below hq); have HW2 := Lib.hid (HWB.out.trans (hq.mono HWB.out.size)); clear hq)
        go_roundw
        case rel => exact ⟨j + 1, by omega, show dKn.Own _ _ _ _ _ from by rw [HS.out, HE.out, List.append_nil]; exact HO.out, by go_num, HW2⟩
        case measure => simp [intOf]; omega
      · have HE := Lib.hid (setP_yes hd)
        have HLE := Lib.hid (show bs.length + ys.length ≤ 1000000 by
          have h1 := HS.out
          rw [HE.out] at h1
          have h2 := congrArg List.length h1
          rw [List.length_append] at h2
          have h3 := hall.1
          have h4 := hyall.1
          have h5 := HCL.out
          omega)
        clear hcell hg hd hn' hS1 hS2 hq ho hall hys hyall hpl HO C0 CO hbb hnew
        go_wp2_with (first
          | ((with_reducible refine (C1 _).out.mono ?_); rintro e w2 ⟨rfl, hq⟩; have g3 := ((bcell hq).1 wr.heap.size 3 hlz).trans Q3.out; replace HKO := Lib.hid (Kind.Own.below HKO.out hq); replace HKA := Lib.hid (HKA.out.keep (keptS_below hq _)); replace HYA := Lib.hid (HYA.out.keep (keptS_below hq _)); replace HYR := Lib.hid (HYR.out.keep (keptS_below hq _)); have HW2 := Lib.hid (HWB.out.trans (hq.mono HWB.out.size)); clear hq)
          | (at_builtin; refine wpList_app_k kKs rfl (.tmp 18) (.tmp 20) rfl w.heap.size _ bs rfl HKO.out _ A' c' n' ys HYN.out rfl HYR.out.row.at_ HLE.out (by decide) HW2.out.size ?_; intro v5 w5 hown5 hg5 hb5 hv5; have HO5 := Lib.hid (Deep.Own.app HKA.out (HYA.out.mono fun g h => ⟨trivial, fun e => by have := (HKO.out.lt g e).1; have := h.2; omega⟩) hown5 hg5 hv5); have HW5 := Lib.hid (HW2.out.trans hb5); clear hown5 hg5 hb5 hv5))
        go_roundw
        case rel => exact ⟨j + 1, by omega, show dKn.Own _ _ _ _ _ from by rw [HS.out, HE.out]; exact HO5.out, by go_num, HW5⟩
        case measure => simp [intOf]; omega
    · have HTK := Lib.hid (show catK (k.take j) s = T by rw [List.take_of_length_le (by have := HN.out; omega)]; exact HT.out)
      obtain ⟨A9, c9, rfl, hrd⟩ := HO.out.rd (n := NT) (by rw [HTK.out]; exact HNT.out) fun _ _ => trivial
      rw [HTK.out] at hrd
      have HD := Lib.hid (rdk_of hrd)
      clear hrd HO C0
      go_wp2_with ((with_reducible refine (CO _ _ _ HD.out).out.mono ?_); rintro e w2 ⟨A8, c8, rfl, hr8, hq⟩; have HF := Lib.hid (show RetKF w N K (.returned (.slice A8 N c8)) w2 from ⟨A8, c8, rfl, hr8.mono fun g hg => Nat.le_trans HW.out.size hg, HW.out.trans (hq.mono HW.out.size)⟩); clear hr8 hq)
      go_ret
      exact HF.out
end Go.Proofs.YtaodifpnfejbbaaGreat

/-
  The shelf's contracts at this program, in plain words (made by wip/tools/shelf.py).
-/
namespace Go.Proofs
open Go.Shelf
def Tryz.lays194_ren : Go.Shelf.Ren := ⟨fun | 194 => 128 | n => n, fun | 31 => 101 | 9 => 9 | 3 => 3 | 4 => 4 | 0 => 0 | n => n, fun | n => n⟩
theorem Tryz.lays194 : Go.Proofs.Lays.n194 Tryz.prog Tryz.lays194_ren := {
  mixed := by kernel_rfl
  f194 := Tryz.func128.trans (congrArg some (by kernel_rfl))
  t0 := Tryz.underlying0
  a0 := Tryz.isAgg0
  z0 := Tryz.sizeOf0
  v0 := Tryz.zeroValue0
  t3 := Tryz.underlying3
  a3 := Tryz.isAgg3
  z3 := Tryz.sizeOf3
  v3 := Tryz.zeroValue3
  t4 := Tryz.underlying4
  a4 := Tryz.isAgg4
  z4 := Tryz.sizeOf4
  v4 := Tryz.zeroValue4
  t9 := Tryz.underlying9
  a9 := Tryz.isAgg9
  z9 := Tryz.sizeOf9
  v9 := Tryz.zeroValue9
  t31 := Tryz.underlying101
  a31 := Tryz.isAgg101
  z31 := Tryz.sizeOf101
  v31 := Tryz.zeroValue101 }
open Go.RowKit Go.Lib Go.Sort in
theorem Tryz.slices_Compact_string (blk off cap : Nat) (zs : List (List UInt8)) (w : World) (hH : Holds encStr w blk off zs.toArray) (hsz : zs.length ≤ 9223372036854775807) (hcap : zs.length ≤ cap) :
    Calls Tryz.prog 128 #[.slice (some ⟨blk, off, none⟩) zs.length cap] w fun e w' => e = .returned (.slice (some ⟨blk, off, none⟩) (Lib.compact zs).length cap) ∧ ∃ q, w' = putRow encStr (Sort.ahead w q) blk off (Lib.compact zs ++ List.replicate (zs.length - (Lib.compact zs).length) []).toArray := Any.slices_Compact_string Tryz.lays194 blk off cap zs w hH hsz hcap
open Go.RowKit Go.Lib Go.Sort in
theorem Tryz.slices_Compact_string_empty (a : Option Addr) (cap : Nat) (w : World) :
    Calls Tryz.prog 128 #[.slice a 0 cap] w fun e w' => e = .returned (.slice a 0 cap) ∧ w' = w := Any.slices_Compact_string_empty Tryz.lays194 a cap w
def Tryz.laysSlF6_f127_ren : Go.Shelf.Ren := ⟨fun | 6 => 127 | 15 => 138 | 14 => 141 | 28 => 156 | 29 => 157 | 20 => 159 | 21 => 160 | 22 => 161 | 23 => 162 | 24 => 163 | 25 => 164 | 26 => 165 | 27 => 166 | 46 => 183 | 47 => 179 | 48 => 180 | 49 => 184 | 50 => 185 | 57 => 190 | n => n, fun | 22 => 101 | 24 => 9 | 25 => 91 | 3 => 3 | 39 => 146 | 0 => 0 | 53 => 161 | 55 => 163 | 4 => 4 | 46 => 154 | 45 => 153 | 50 => 158 | 5 => 5 | 9 => 9 | 66 => 179 | 70 => 183 | 76 => 189 | 77 => 190 | n => n, fun | n => n⟩
theorem Tryz.laysSlF6_f127 : Go.Proofs.SlLaysF.n6 Tryz.prog Tryz.laysSlF6_f127_ren := {
  mixed := by kernel_rfl
  f6 := ⟨Tryz.f127.name, by decide, Tryz.func127.trans (congrArg some (by kernel_rfl))⟩
  f14 := ⟨Tryz.f141.name, by decide, Tryz.func141.trans (congrArg some (by kernel_rfl))⟩
  f15 := Tryz.func138.trans (congrArg some (by kernel_rfl))
  f20 := ⟨Tryz.f159.name, by decide, Tryz.func159.trans (congrArg some (by kernel_rfl))⟩
  f21 := ⟨Tryz.f160.name, by decide, Tryz.func160.trans (congrArg some (by kernel_rfl))⟩
  f22 := ⟨Tryz.f161.name, by decide, Tryz.func161.trans (congrArg some (by kernel_rfl))⟩
  f23 := ⟨Tryz.f162.name, by decide, Tryz.func162.trans (congrArg some (by kernel_rfl))⟩
  f24 := ⟨Tryz.f163.name, by decide, Tryz.func163.trans (congrArg some (by kernel_rfl))⟩
  f25 := ⟨Tryz.f164.name, by decide, Tryz.func164.trans (congrArg some (by kernel_rfl))⟩
  f26 := ⟨Tryz.f165.name, by decide, Tryz.func165.trans (congrArg some (by kernel_rfl))⟩
  f27 := ⟨Tryz.f166.name, by decide, Tryz.func166.trans (congrArg some (by kernel_rfl))⟩
  f28 := Tryz.func156.trans (congrArg some (by kernel_rfl))
  f29 := Tryz.func157.trans (congrArg some (by kernel_rfl))
  f46 := ⟨Tryz.f183.name, by decide, Tryz.func183.trans (congrArg some (by kernel_rfl))⟩
  f47 := Tryz.func179.trans (congrArg some (by kernel_rfl))
  f48 := Tryz.func180.trans (congrArg some (by kernel_rfl))
  f49 := ⟨Tryz.f184.name, by decide, Tryz.func184.trans (congrArg some (by kernel_rfl))⟩
  f50 := ⟨Tryz.f185.name, by decide, Tryz.func185.trans (congrArg some (by kernel_rfl))⟩
  f57 := ⟨Tryz.f190.name, by decide, Tryz.func190.trans (congrArg some (by kernel_rfl))⟩
  t0 := Tryz.underlying0
  a0 := Tryz.isAgg0
  z0 := Tryz.sizeOf0
  v0 := Tryz.zeroValue0
  t3 := Tryz.underlying3
  a3 := Tryz.isAgg3
  z3 := Tryz.sizeOf3
  v3 := Tryz.zeroValue3
  t4 := Tryz.underlying4
  a4 := Tryz.isAgg4
  z4 := Tryz.sizeOf4
  v4 := Tryz.zeroValue4
  t5 := Tryz.underlying5
  a5 := Tryz.isAgg5
  z5 := Tryz.sizeOf5
  v5 := Tryz.zeroValue5
  t9 := Tryz.underlying9
  a9 := Tryz.isAgg9
  z9 := Tryz.sizeOf9
  v9 := Tryz.zeroValue9
  t22 := Tryz.underlying101
  a22 := Tryz.isAgg101
  z22 := Tryz.sizeOf101
  v22 := Tryz.zeroValue101
  a24 := Tryz.isAgg9
  z24 := Tryz.sizeOf9
  t25 := Tryz.underlying91
  a25 := Tryz.isAgg91
  z25 := Tryz.sizeOf91
  v25 := Tryz.zeroValue91
  t39 := Tryz.underlying146
  a39 := Tryz.isAgg146
  z39 := Tryz.sizeOf146
  v39 := Tryz.zeroValue146
  t45 := Tryz.underlying153
  a45 := Tryz.isAgg153
  z45 := Tryz.sizeOf153
  v45 := Tryz.zeroValue153
  t46 := Tryz.underlying154
  a46 := Tryz.isAgg154
  z46 := Tryz.sizeOf154
  v46 := Tryz.zeroValue154
  t50 := Tryz.underlying158
  a50 := Tryz.isAgg158
  z50 := Tryz.sizeOf158
  v50 := Tryz.zeroValue158
  t53 := Tryz.underlying161
  a53 := Tryz.isAgg161
  z53 := Tryz.sizeOf161
  v53 := Tryz.zeroValue161
  t55 := Tryz.underlying163
  a55 := Tryz.isAgg163
  z55 := Tryz.sizeOf163
  v55 := Tryz.zeroValue163
  t66 := Tryz.underlying179
  a66 := Tryz.isAgg179
  z66 := Tryz.sizeOf179
  v66 := Tryz.zeroValue179
  t70 := Tryz.underlying183
  a70 := Tryz.isAgg183
  z70 := Tryz.sizeOf183
  v70 := Tryz.zeroValue183
  t76 := Tryz.underlying189
  a76 := Tryz.isAgg189
  z76 := Tryz.sizeOf189
  v76 := Tryz.zeroValue189
  t77 := Tryz.underlying190
  a77 := Tryz.isAgg190
  z77 := Tryz.sizeOf190
  v77 := Tryz.zeroValue190 }
open Go.RowKit Go.Lib Go.Sort in
theorem Tryz.slices_SortFunc {α : Type} [Inhabited α] (enc : α → Value) (h1 : OneCell enc) (cf : α → α → Int) (hO : SWO (ltOf cf)) (g : Nat) (cb : Array Value) (blk off cap : Nat) (d : Array α) (w : World) (eg : ∀ args w, (callFunc g args).run Tryz.prog w = .ok (.enter g args) w) (hcmp : CmpLays1 Tryz.prog g cb enc cf blk off d.size w) (hH : Holds enc w blk off d) (hblk : blk < w.heap.size) (hsz : d.size < 4611686018427387904) :
    Calls Tryz.prog 127 #[.slice (some ⟨blk, off, none⟩) d.size cap, .func (.func g) #[] cb] w fun e w' =>
      e = .returned (.tuple #[]) ∧ ∃ d' n os, PermIn 0 d.size d d' ∧ SortedIn (ltOf cf) 0 d.size d' ∧ w' = sortWorld enc w blk off n d' os := Any.slices_SortFunc Tryz.laysSlF6_f127 enc h1 cf hO g cb blk off cap d w eg hcmp hH hblk hsz
def Tryz.laysSlF06_f127_ren : Go.Shelf.Ren := ⟨fun | 6 => 127 | 15 => 138 | 14 => 141 | 28 => 156 | 29 => 157 | 20 => 159 | 21 => 160 | 22 => 161 | 23 => 162 | 24 => 163 | 25 => 164 | 26 => 165 | 27 => 166 | 46 => 183 | 47 => 179 | 48 => 180 | 49 => 184 | 50 => 185 | 57 => 190 | n => n, fun | 22 => 101 | 24 => 9 | 25 => 91 | 3 => 3 | 39 => 146 | 0 => 0 | 53 => 161 | 55 => 163 | 4 => 4 | 46 => 154 | 45 => 153 | 50 => 158 | 5 => 5 | 9 => 9 | 66 => 179 | 70 => 183 | 76 => 189 | 77 => 190 | n => n, fun | n => n⟩
theorem Tryz.laysSlF06_f127 : Go.Proofs.SlLaysF0.n6 Tryz.prog Tryz.laysSlF06_f127_ren := {
  mixed := by kernel_rfl
  f6 := ⟨Tryz.f127.name, by decide, Tryz.func127.trans (congrArg some (by kernel_rfl))⟩
  f14 := ⟨Tryz.f141.name, by decide, Tryz.func141.trans (congrArg some (by kernel_rfl))⟩
  f15 := Tryz.func138.trans (congrArg some (by kernel_rfl))
  f20 := ⟨Tryz.f159.name, by decide, Tryz.func159.trans (congrArg some (by kernel_rfl))⟩
  f21 := ⟨Tryz.f160.name, by decide, Tryz.func160.trans (congrArg some (by kernel_rfl))⟩
  f22 := ⟨Tryz.f161.name, by decide, Tryz.func161.trans (congrArg some (by kernel_rfl))⟩
  f23 := ⟨Tryz.f162.name, by decide, Tryz.func162.trans (congrArg some (by kernel_rfl))⟩
  f24 := ⟨Tryz.f163.name, by decide, Tryz.func163.trans (congrArg some (by kernel_rfl))⟩
  f25 := ⟨Tryz.f164.name, by decide, Tryz.func164.trans (congrArg some (by kernel_rfl))⟩
  f26 := ⟨Tryz.f165.name, by decide, Tryz.func165.trans (congrArg some (by kernel_rfl))⟩
  f27 := ⟨Tryz.f166.name, by decide, Tryz.func166.trans (congrArg some (by kernel_rfl))⟩
  f28 := Tryz.func156.trans (congrArg some (by kernel_rfl))
  f29 := Tryz.func157.trans (congrArg some (by kernel_rfl))
  f46 := ⟨Tryz.f183.name, by decide, Tryz.func183.trans (congrArg some (by kernel_rfl))⟩
  f47 := Tryz.func179.trans (congrArg some (by kernel_rfl))
  f48 := Tryz.func180.trans (congrArg some (by kernel_rfl))
  f49 := ⟨Tryz.f184.name, by decide, Tryz.func184.trans (congrArg some (by kernel_rfl))⟩
  f50 := ⟨Tryz.f185.name, by decide, Tryz.func185.trans (congrArg some (by kernel_rfl))⟩
  f57 := ⟨Tryz.f190.name, by decide, Tryz.func190.trans (congrArg some (by kernel_rfl))⟩
  t0 := Tryz.underlying0
  a0 := Tryz.isAgg0
  z0 := Tryz.sizeOf0
  v0 := Tryz.zeroValue0
  t3 := Tryz.underlying3
  a3 := Tryz.isAgg3
  z3 := Tryz.sizeOf3
  v3 := Tryz.zeroValue3
  t4 := Tryz.underlying4
  a4 := Tryz.isAgg4
  z4 := Tryz.sizeOf4
  v4 := Tryz.zeroValue4
  t5 := Tryz.underlying5
  a5 := Tryz.isAgg5
  z5 := Tryz.sizeOf5
  v5 := Tryz.zeroValue5
  t9 := Tryz.underlying9
  a9 := Tryz.isAgg9
  z9 := Tryz.sizeOf9
  v9 := Tryz.zeroValue9
  t22 := Tryz.underlying101
  a22 := Tryz.isAgg101
  z22 := Tryz.sizeOf101
  v22 := Tryz.zeroValue101
  t25 := Tryz.underlying91
  a25 := Tryz.isAgg91
  z25 := Tryz.sizeOf91
  v25 := Tryz.zeroValue91
  t39 := Tryz.underlying146
  a39 := Tryz.isAgg146
  z39 := Tryz.sizeOf146
  v39 := Tryz.zeroValue146
  t45 := Tryz.underlying153
  a45 := Tryz.isAgg153
  z45 := Tryz.sizeOf153
  v45 := Tryz.zeroValue153
  t46 := Tryz.underlying154
  a46 := Tryz.isAgg154
  z46 := Tryz.sizeOf154
  v46 := Tryz.zeroValue154
  t50 := Tryz.underlying158
  a50 := Tryz.isAgg158
  z50 := Tryz.sizeOf158
  v50 := Tryz.zeroValue158
  t53 := Tryz.underlying161
  a53 := Tryz.isAgg161
  z53 := Tryz.sizeOf161
  v53 := Tryz.zeroValue161
  t55 := Tryz.underlying163
  a55 := Tryz.isAgg163
  z55 := Tryz.sizeOf163
  v55 := Tryz.zeroValue163
  t66 := Tryz.underlying179
  a66 := Tryz.isAgg179
  z66 := Tryz.sizeOf179
  v66 := Tryz.zeroValue179
  t70 := Tryz.underlying183
  a70 := Tryz.isAgg183
  z70 := Tryz.sizeOf183
  v70 := Tryz.zeroValue183
  t76 := Tryz.underlying189
  a76 := Tryz.isAgg189
  z76 := Tryz.sizeOf189
  v76 := Tryz.zeroValue189
  t77 := Tryz.underlying190
  a77 := Tryz.isAgg190
  z77 := Tryz.sizeOf190
  v77 := Tryz.zeroValue190 }
open Go.RowKit Go.Lib Go.Sort in
theorem Tryz.slices_SortFunc_none {α : Type} [Inhabited α] (p : Option Addr) (cap : Nat) (fv : Value) (w : World) :
    Calls Tryz.prog 127 #[.slice p 0 cap, fv] w fun e w' => e = .returned (.tuple #[]) ∧ w' = w := AnyF.slices_SortFunc_none Tryz.laysSlF06_f127 p cap fv w
end Go.Proofs

/-
  Layer 15 (know), the program: texts in order, each once, by the library's calls.
-/
namespace Go.Proofs.YtaodifpnfejbbaaGreat
open Go.RowKit Go.Sort Go.Lib

/-! Texts in order, those that are the same next to each other left out. -/
theorem ltB_ne {a b : List UInt8} (h : ltB b a = false) (hne : a ≠ b) : ltB a b = true := by
  cases hab : ltB a b with
  | true => rfl
  | false => exact absurd (ltB_total hab h) hne
theorem compactE_inv (d : Array (List UInt8)) (hs : ∀ i j, i < j → j < d.size → ltB d[j]! d[i]! = false) : ∀ m, m ≤ d.size → UpE (compactUpTo d m) ∧ ∀ v, v ∈ compactUpTo d m ↔ ∃ j, j < m ∧ d[j]! = v
  | 0, _ => ⟨List.Pairwise.nil, fun v => ⟨fun h => by simp [compactUpTo] at h, fun ⟨j, hj, _⟩ => by omega⟩⟩
  | m + 1, hm => by
    obtain ⟨h1, h2⟩ := compactE_inv d hs m (by omega)
    rw [compactUpTo_succ]
    cases hk : keeps d m with
    | true =>
      rw [if_pos rfl]
      refine ⟨List.pairwise_append.2 ⟨h1, List.pairwise_singleton .., fun a ha b hb => ?_⟩, fun v => ?_⟩
      · rw [List.mem_singleton] at hb
        subst hb
        obtain ⟨j, hj, rfl⟩ := (h2 a).1 ha
        have hne : d[m - 1]! ≠ d[m]! := by
          simp only [keeps, decide_eq_true_eq] at hk
          rcases hk with hk | hk
          · omega
          · exact fun e => hk e.symm
        have hl := ltB_ne (hs (m - 1) m (by omega) (by omega)) hne
        by_cases e : j = m - 1
        · subst e; exact hl
        · exact ltB_of_le_of_lt (hs j (m - 1) (by omega) (by omega)) hl
      · rw [List.mem_append, List.mem_singleton, h2]
        constructor
        · rintro (⟨j, hj, rfl⟩ | rfl)
          · exact ⟨j, by omega, rfl⟩
          · exact ⟨m, by omega, rfl⟩
        · rintro ⟨j, hj, rfl⟩
          by_cases e : j = m
          · subst e; exact .inr rfl
          · exact .inl ⟨j, by omega, rfl⟩
    | false =>
      rw [if_neg (by simp), List.append_nil]
      refine ⟨h1, fun v => ?_⟩
      rw [h2]
      simp only [keeps, decide_eq_false_iff_not, not_or, Decidable.not_not] at hk
      constructor
      · rintro ⟨j, hj, rfl⟩
        exact ⟨j, by omega, rfl⟩
      · rintro ⟨j, hj, rfl⟩
        by_cases e : j = m
        · subst e; exact ⟨j - 1, by omega, hk.2.symm⟩
        · exact ⟨j, by omega, rfl⟩
def SortedE (m : List (List UInt8)) : Prop := m.Pairwise fun a b => ltB b a = false
theorem compactE_sort {l m : List (List UInt8)} (hp : m.Perm l) (hs : SortedE m) : UpE (compact m) ∧ ∀ x, x ∈ compact m ↔ x ∈ l := by
  have hg : ∀ j (h : j < m.length), m.toArray[j]! = m[j] := fun j h => by rw [getElem!_pos m.toArray j (by simpa using h)]; simp
  obtain ⟨h1, h2⟩ := compactE_inv m.toArray (fun i j hij hj => by
    have hj' : j < m.length := by simpa using hj
    rw [hg j hj', hg i (by omega)]
    exact List.pairwise_iff_getElem.1 hs i j (by omega) hj' hij) m.length (by simp)
  refine ⟨h1, fun v => ?_⟩
  show v ∈ compactUpTo m.toArray m.length ↔ _
  rw [h2, ← hp.mem_iff]
  constructor
  · rintro ⟨j, hj, rfl⟩
    rw [hg j hj]
    exact List.getElem_mem hj
  · intro hv
    obtain ⟨j, hj, rfl⟩ := List.getElem_of_mem hv
    exact ⟨j, hj, hg j hj⟩
theorem compactE_len (m : List (List UInt8)) : (compact m).length ≤ m.length := by
  unfold compact compactUpTo
  rw [List.length_map]
  exact Nat.le_trans (List.length_filter_le _ _) (by rw [List.length_range]; exact Nat.le_refl _)

/-! The library's calls. -/
theorem str_row : ∀ l : List (List UInt8), kStr.row l = l.map encStr
  | [] => rfl
  | x :: l => by rw [kStr.row_cons, str_row l]; rfl
theorem strs_rowS {w : World} {base : Nat} {v : Value} {l : List (List UInt8)} (h : kStr.Own w base v l) : w.ownsRow base 9 1 v l.length (l.map encStr) := by
  rw [← str_row]; exact h
theorem strs_ownS {w : World} {base n : Nat} {v : Value} {l : List (List UInt8)} (h : w.ownsRow base 9 1 v n (l.map encStr)) : kStr.Own w base v l := Kind.Own.of_row (n := n) (by rw [str_row]; exact h)
theorem lt_cmpE (x y : List UInt8) : ltOf Lib.compareBytes x y = ltB x y := by
  obtain ⟨v, hv, h1, _⟩ := cmp_test x y
  unfold ltOf
  rw [hv]; exact h1
theorem swo_cmpE : SWO (ltOf Lib.compareBytes) where
  irrefl x := by rw [lt_cmpE]; exact ltB_irrefl _
  trans x y z h1 h2 := by rw [lt_cmpE] at *; exact ltB_trans h1 h2
  ntrans x y z h1 h2 := by rw [lt_cmpE] at *; exact leB_trans h2 h1
theorem kw_sort (v : Value) (f : List (List UInt8)) (base : Nat) (w : World) (h : kStr.Own w base v f) (hf : f.length ≤ 1000000) (hb : base ≤ w.heap.size) :
    Calls Tryz.prog 127 #[v, .func (.func 76) #[] #[]] w fun e w' => e = .returned (.tuple #[]) ∧ ∃ m, m.Perm f ∧ SortedE m ∧ kStr.Own w' base v m ∧ Below base w w' := by
  by_cases h0 : f = []
  · subst h0
    obtain ⟨A, c, rfl, _⟩ := h.form
    have K := Tryz.slices_SortFunc_none (α := List UInt8) A c (.func (.func 76) #[] #[]) w
    refine Calls.mono K ?_
    rintro e w' ⟨rfl, rfl⟩
    exact ⟨rfl, [], List.Perm.refl _, List.Pairwise.nil, h, Below.refl _ _⟩
  · have hp : 0 < f.length := List.length_pos_iff.2 h0
    have ho := strs_rowS h
    rcases ho.2 with ⟨_, h1⟩ | ⟨g, cap, cur, rfl, hbase, hbk, h1, h2, h3, h4⟩
    · omega
    have hH := holds_of_block hbk (by simpa using h4)
    have hgl : g < w.heap.size := (Array.getElem?_eq_some_iff.1 hbk).1
    have eg : ∀ args w, (callFunc 76 args).run Tryz.prog w = .ok (.enter 76 args) w := enters_of Tryz.func76 (by kernel_rfl) rfl
    have K := Tryz.slices_SortFunc encStr (fun _ => rfl) Lib.compareBytes swo_cmpE 76 #[] g 0 cap f.toArray w eg (fun m os dk _ x y => (key_cmp x y _).mono fun e w' ⟨h1, h2⟩ => ⟨h1, 0, #[], h2.symm⟩) hH hgl (by rw [List.size_toArray]; omega)
    rw [List.size_toArray] at K
    refine Calls.mono K ?_
    rintro e w' ⟨rfl, d, n, os, hpm, hst, rfl⟩
    have hd : d.size = f.length := by have := hpm.1; rwa [List.size_toArray] at this
    have hst2 := pairs_of_sortedIn (lt := ltOf Lib.compareBytes) (d := d) (by rw [hd]; exact hst)
    have hs := ownsRow_sorted (n := n) (os := os) (ts := d.toList) (by rw [Array.length_toList]; exact hd) hbase hbk h1 h2 h3
    rw [Array.toArray_toList] at hs
    refine ⟨rfl, d.toList, perm_of_permIn (by rw [List.size_toArray]; exact hpm), ?_, strs_ownS hs, (Below.refl _ _).grown (grownBy_sorted d) hb (fun j hj => by injection hj with hj; subst hj; exact hbase)⟩
    unfold SortedE
    exact hst2.imp fun {a b} hab => by rw [← lt_cmpE]; exact hab
theorem kw_compact (v : Value) (f : List (List UInt8)) (base : Nat) (w : World) (h : kStr.Own w base v f) (hf : f.length ≤ 1000000) (hb : base ≤ w.heap.size) :
    Calls Tryz.prog 128 #[v] w fun e w' => ∃ v', e = .returned v' ∧ kStr.Own w' base v' (compact f) ∧ Below base w w' := by
  by_cases h0 : f = []
  · subst h0
    obtain ⟨A, c, rfl, _⟩ := h.form
    have K := Tryz.slices_Compact_string_empty A c w
    refine Calls.mono K ?_
    rintro e w' ⟨rfl, rfl⟩
    exact ⟨_, rfl, h, Below.refl _ _⟩
  · have hp : 0 < f.length := List.length_pos_iff.2 h0
    have ho := strs_rowS h
    rcases ho.2 with ⟨_, h1⟩ | ⟨g, cap, cur, rfl, hbase, hbk, h1, h2, h3, h4⟩
    · omega
    have hH := holds_of_block hbk (by simpa using h4)
    have K := Tryz.slices_Compact_string g 0 cap f w hH (by omega) h1
    refine Calls.mono K ?_
    rintro e w' ⟨rfl, q, rfl⟩
    have hle := compactE_len f
    have hs := Lib.ownsRow_putRow (q := q) (k := (compact f).length) (ys := compact f ++ List.replicate (f.length - (compact f).length) []) ho (by simp; omega) hle
    rw [List.take_left] at hs
    exact ⟨_, rfl, strs_ownS hs, Lib.below_putRow (Below.refl _ _) hbase⟩
end Go.Proofs.YtaodifpnfejbbaaGreat

/-
  Layer 15 (know), the program: the texts at which what two lists have may turn.
-/
namespace Go.Proofs.YtaodifpnfejbbaaGreat
open Go.RowKit

theorem str_row0 (w : World) (s : List UInt8) (S : ByteArray) (hS : str s = S) : RowAt (w.alloc (.cells #[.string S] 9)) (w.heap.size + 1) (some ⟨w.heap.size, 0, none⟩) (kStr.row [s]) := by
  subst hS
  exact (Kind.rd_new (k := kStr) (l := [s]) rfl rfl (by simp)).row
theorem le_alloc' {B : Nat} {w : World} (h : B ≤ w.heap.size) (o : Obj) : B ≤ (w.alloc o).heap.size := by rw [size1]; omega
/-- Two rows of the call's own that lie apart. -/
def ApartV (v u : Value) : Prop := v.ownBlock = none ∨ v.ownBlock ≠ u.ownBlock
/-- The piece's row stays while texts are appended. -/
theorem apart_next {w w' : World} {base : Nat} {v u u' : Value} {bs : List Ps} (h : kPs.Own w base v bs) (ha : ApartV v u) (hg : w.grownBy w' u.ownBlock) (hu : u'.ownBlock = u.ownBlock ∨ u'.ownBlock = some w.heap.size) : kPs.Own w' base v bs ∧ ApartV v u' := by
  refine ⟨h.kept hg ha, ?_⟩
  rcases hu with e | e
  · unfold ApartV; rw [e]; exact ha
  · cases hv : v.ownBlock with
    | none => exact .inl hv
    | some g => exact .inr fun e2 => by rw [e, hv] at e2; injection e2 with e2; have := (h.lt g hv).2; omega
/-- Where a piece's cells lie in a row of the call's own. -/
theorem own_piece {w w0 : World} {base n c : Nat} {S : Nat → Prop} {A : Option Addr} {bs : List Ps} {k : List Pc} (h : kPs.Own w base (.slice A n c) bs) (hall : dPc.All w0 S bs k) {j : Nat} {x : Pc} (hx : k[j]? = some x) :
    ∃ (b o : Nat) (A' : Option Addr) (n' c' : Nat), A = some ⟨b, o, none⟩ ∧ b < w.heap.size ∧ w.cell? ⟨b, o + j * 4, none⟩ = some (.string (str x.rng.lo)) ∧ w.cell? ⟨b, o + j * 4 + 1, none⟩ = some (.string (str x.rng.hi)) ∧ w.cell? ⟨b, o + j * 4 + 2, none⟩ = some (.bool x.rng.op) ∧ w.cell? ⟨b, o + j * 4 + 3, none⟩ = some (.slice A' n' c') := by
  have hj : j < bs.length := by rw [hall.1]; exact (List.getElem?_eq_some_iff.1 hx).1
  obtain ⟨y, hy⟩ : ∃ y, bs[j]? = some y := ⟨_, List.getElem?_eq_getElem hj⟩
  obtain ⟨b, o, e1, e2, e3⟩ := h.rd.at_ (by omega)
  have hr := (hall.2 j y x hy hx).1
  refine ⟨b, o, y.A, y.n, y.c, e1, e2, ?_, ?_, ?_, e3 j y hy 3 _ rfl⟩
  · rw [← hr]; exact e3 j y hy 0 _ rfl
  · rw [← hr]; exact e3 j y hy 1 _ rfl
  · rw [← hr]; exact e3 j y hy 2 _ rfl
/-- Behind a range's first text: its end, if it has one. -/
def tailE (q : Bool) (h : List UInt8) : List (List UInt8) := match q with
  | true => []
  | false => [h]
theorem edgesP_two (p : Pc) : edgesP [p] = [p.rng.lo] ++ tailE p.rng.op p.rng.hi := by
  rw [edgesP_one]
  cases p.rng.op <;> rfl
set_option maxRecDepth 100000 in
set_option maxHeartbeats 8000000 in
theorem kw_edges (A B : Option Addr) (c d n m : Nat) (a b : List Pc) (hn : n = a.length) (hm : m = b.length) (hnl : n ≤ 40000) (hml : m ≤ 40000) (w : World) (ha : RdPc w A c a) (hb : RdPc w B d b) :
    Calls Tryz.prog 98 #[.slice A n c, .slice B m d] w fun e w' => ∃ v es, e = .returned v ∧ EdgesOf a b es ∧ es.length ≤ 2 * (n + m) ∧ kStr.Own w' w.heap.size v es ∧ Below w.heap.size w w' := by
  obtain ⟨w1, hm1, ho1, hb1⟩ := run_make_k kStr w w.heap.size (2 * n + 2 * m) (by omega) (by decide) (Nat.le_refl _)
  have hmk : (Instr.makeSlice 101 (.int .i64 0) (.int .i64 (2 * (n : Int) + 2 * (m : Int)))).run Tryz.prog w = .ok (.slice (some ⟨w.heap.size, 0, none⟩) 0 (2 * n + 2 * m)) w1 := by
    have h := hm1
    rw [show (((2 * n + 2 * m : Nat)) : Int) = 2 * (n : Int) + 2 * (m : Int) by omega] at h
    exact h
  have hcx : n ≤ c := by rw [hn]; exact ha.room
  have hdx : m ≤ d := by rw [hm]; exact hb.room
  obtain ⟨w2, hw2⟩ : ∃ w2, w1.alloc (.cells #[.slice A n c, .slice B m d] 22) = w2 := ⟨_, rfl⟩
  have hb2 : Below w1.heap.size w1 w2 := hw2 ▸ below_new w1 _
  have C := Lib.hid (kw_concat (some ⟨w1.heap.size, 0, none⟩) 2 2 [a, b] rfl (by omega) (fun l hl => by simp at hl; rcases hl with rfl | rfl <;> omega) w2 (hw2 ▸ rdPP_two hn hm (ha.call hb1) (hb.call hb1)))
  obtain ⟨ab, hab⟩ : ∃ ab, a ++ b = ab := ⟨_, rfl⟩
  rw [show [a, b].flatten = a ++ b by simp, hab] at C
  obtain ⟨N, hN⟩ : ∃ N, N = ab.length := ⟨_, rfl⟩
  have hNl : N = n + m := by rw [hN, ← hab, List.length_append, hn, hm]
  have HN := Lib.hid hN
  have HO1 := Lib.hid (ho1.below hb2)
  have HB2 := Lib.hid (hb1.trans (hb2.mono hb1.size))
  have hlt0 : w.heap.size < w2.heap.size := Nat.lt_of_lt_of_le (ho1.lt _ rfl).2 hb2.size
  have HAB := Lib.hid hab
  clear hn hm ha hb ho1 hm1 hb1 hb2 hab hN
  go_enter Tryz.func98, Tryz.ntmps98
  go_wp2_with ((with_reducible refine C.out.mono ?_); rintro e w3 ⟨vv, rfl, ⟨bs, hown, hall⟩, hq⟩; obtain ⟨A9, c9, rfl, -⟩ := hown.read_n (HN.out.trans hall.1.symm); have HV := Lib.hid (hown.mono HB2.out.size); have HVB := Lib.hid (fun g (h : (Value.slice A9 N c9).ownBlock = some g) => (hown.lt g h).1); have HALL := Lib.hid hall; have HO3 := Lib.hid (HO1.out.below hq); have HB3 := Lib.hid (HB2.out.trans (hq.mono HB2.out.size)); clear hown hall hq)
  have HAP := Lib.hid (show ApartV (.slice A9 N c9) (.slice (some ⟨w.heap.size, 0, none⟩) 0 (2 * n + 2 * m)) from by
    cases hv : (Value.slice A9 N c9).ownBlock with
    | none => exact .inl hv
    | some g => exact .inr fun e2 => by rw [hv] at e2; have e3 : some g = some w.heap.size := e2; injection e3 with e3; have := HVB.out g hv; omega)
  have hNc : N ≤ c9 := by rw [HN.out, ← HALL.out.1]; exact HV.out.rd.room
  clear C HVB hw2 hmk
  go_loopw [5, 21] (fun v i wr => ∃ j : Nat, j ≤ N ∧ Hid (kStr.Own wr w.heap.size v (edgesP (ab.take j))) ∧ Hid (kPs.Own wr w.heap.size (.slice A9 N c9) bs ∧ ApartV (.slice A9 N c9) v) ∧ i = .int .i64 j ∧ Hid (Below w.heap.size w wr)) (fun _ i _ => N - (intOf i).toNat)
  case atStart => exact ⟨0, by omega, HO3.out, ⟨HV.out, HAP.out⟩, rfl, HB3.out⟩
  case round =>
    clear HO3 HV HAP HB3
    obtain ⟨j, hj, HO, HP, rfl, HW⟩ := hrel
    by_cases hlt : j < N
    · obtain ⟨x, hg, -, -⟩ := get_some (l := ab) (k := j) (by have := HN.out; omega)
      obtain ⟨b, o, A', n', c', rfl, hb1, p0, p1, p2, p3⟩ := own_piece HP.out.1 HALL.out hg
      obtain ⟨S1, hS1⟩ : ∃ S, str x.rng.lo = S := ⟨_, rfl⟩
      obtain ⟨S2, hS2⟩ : ∃ S, str x.rng.hi = S := ⟨_, rfl⟩
      obtain ⟨q, hq⟩ : ∃ q, x.rng.op = q := ⟨_, rfl⟩
      rw [hS1] at p0
      rw [hS2] at p1
      rw [hq] at p2
      have HE := Lib.hid (show edgesP (ab.take (j + 1)) = edgesP (ab.take j) ++ [x.rng.lo] ++ tailE q x.rng.hi by rw [edgesP_take hg, edgesP_two, hq, List.append_assoc])
      have hel := edgesP_len (ab.take j)
      rw [List.length_take] at hel
      have HLE := Lib.hid (show (edgesP (ab.take j)).length + [x.rng.lo].length ≤ 1000000 by rw [List.length_singleton]; omega)
      have HLE2 := Lib.hid (show (edgesP (ab.take j) ++ [x.rng.lo]).length + [x.rng.hi].length ≤ 1000000 by rw [List.length_append, List.length_singleton, List.length_singleton]; omega)
      obtain ⟨wb, hwb⟩ : ∃ wb, wr.alloc (.cells #[.string S1, .string S2, .bool q, .slice A' n' c'] 44) = wb := ⟨_, rfl⟩
      have hbb : Below wr.heap.size wr wb := by rw [← hwb]; exact below_new _ _
      have hnew := heap_new wr (.cells #[.string S1, .string S2, .bool q, .slice A' n' c'] 44) _ rfl
      have t0 : wb.cell? ⟨wr.heap.size, 0, none⟩ = some (.string S1) := by rw [← hwb, cell_of_row _ _ _ _ _ _ hnew]; rfl
      have t1 : wb.cell? ⟨wr.heap.size, 1, none⟩ = some (.string S2) := by rw [← hwb, cell_of_row _ _ _ _ _ _ hnew]; rfl
      have t2 : wb.cell? ⟨wr.heap.size, 2, none⟩ = some (.bool q) := by rw [← hwb, cell_of_row _ _ _ _ _ _ hnew]; rfl
      have T1 := Lib.hid (((bcell (below_new wb (.cells #[.string S1] 9))).1 _ _ (World.block_lt_of_cell? wb _ t1)).trans t1)
      have T2 := Lib.hid (((bcell (below_new wb (.cells #[.string S1] 9))).1 _ _ (World.block_lt_of_cell? wb _ t2)).trans t2)
      have HNE := Lib.hid (show some wr.heap.size ≠ u5.ownBlock from fun e => by have := (HO.out.lt _ e.symm).2; omega)
      have HOB := Lib.hid ((HO.out.below hbb).alloc (.cells #[.string S1] 9))
      have HPB := Lib.hid ((HP.out.1.below hbb).alloc (.cells #[.string S1] 9))
      have HAB2 := Lib.hid HP.out.2
      have HWB := Lib.hid ((HW.out.trans (hbb.mono HW.out.size)).alloc (Nat.le_trans HW.out.size hbb.size) (.cells #[.string S1] 9))
      have HR1 := Lib.hid (str_row0 wb x.rng.lo S1 hS1)
      have HR2 := fun w => Lib.hid (str_row0 w x.rng.hi S2 hS2)
      have HS5 := Lib.hid (Nat.le_trans (Nat.le_trans HW.out.size hbb.size) (show wb.heap.size ≤ (wb.alloc (.cells #[.string S1] 9)).heap.size by simp))
      clear hg hS1 hS2 hq hel hnew hbb HO HP HW
      cases q
      · have HE2 := Lib.hid (show edgesP (ab.take (j + 1)) = edgesP (ab.take j) ++ [x.rng.lo] ++ [x.rng.hi] from HE.out)
        go_wp2_with (first
          | (at_builtin; refine wpList_app_k kStr rfl (.tmp 25) (.tmp 29) rfl w.heap.size _ _ rfl HOB.out _ (some ⟨wb.heap.size, 0, none⟩) 1 1 [x.rng.lo] rfl rfl HR1.out HLE.out (by decide) HS5.out ?_; intro v5 w5 hown5 hg5 hb5 hv5; have HO5 := Lib.hid hown5; have HP5 := Lib.hid (apart_next HPB.out HAB2.out hg5 hv5); have HW5 := Lib.hid (HWB.out.trans hb5); have g1 := hg5.cell T1.out HNE.out; have g2 := hg5.cell T2.out HNE.out; clear hown5 hg5 hb5 hv5)
          | (at_builtin; refine wpList_app_k kStr rfl (.tmp 35) (.tmp 39) rfl w.heap.size _ _ rfl (HO5.out.alloc _) _ (some ⟨w5.heap.size, 0, none⟩) 1 1 [x.rng.hi] rfl rfl (HR2 w5).out HLE2.out (by decide) (le_alloc' HW5.out.size _) ?_; intro v6 w6 hown6 hg6 hb6 hv6; have HO6 := Lib.hid hown6; have HP6 := Lib.hid (apart_next (HP5.out.1.alloc _) HP5.out.2 hg6 hv6); have HW6 := Lib.hid ((HW5.out.alloc HW5.out.size _).trans hb6); clear hown6 hg6 hb6 hv6))
        go_roundw
        case rel => exact ⟨j + 1, by omega, by rw [HE2.out]; exact HO6, HP6, by go_num, HW6⟩
        case measure => simp [intOf]; omega
      · have HE2 := Lib.hid (show edgesP (ab.take (j + 1)) = edgesP (ab.take j) ++ [x.rng.lo] from HE.out.trans (List.append_nil _))
        go_wp2_with (at_builtin; refine wpList_app_k kStr rfl (.tmp 25) (.tmp 29) rfl w.heap.size _ _ rfl HOB.out _ (some ⟨wb.heap.size, 0, none⟩) 1 1 [x.rng.lo] rfl rfl HR1.out HLE.out (by decide) HS5.out ?_; intro v5 w5 hown5 hg5 hb5 hv5; have HO5 := Lib.hid hown5; have HP5 := Lib.hid (apart_next HPB.out HAB2.out hg5 hv5); have HW5 := Lib.hid (HWB.out.trans hb5); have g1 := hg5.cell T1.out HNE.out; have g2 := hg5.cell T2.out HNE.out; clear hown5 hg5 hb5 hv5)
        go_roundw
        case rel => exact ⟨j + 1, by omega, by rw [HE2.out]; exact HO5, HP5, by go_num, HW5⟩
        case measure => simp [intOf]; omega
    · have HTK := Lib.hid (show ab.take j = ab from List.take_of_length_le (by have := HN.out; omega))
      rw [HTK.out] at HO
      have hel := edgesP_len ab
      have HEL := Lib.hid (show (edgesP ab).length ≤ 2 * (n + m) by have := HN.out; omega)
      have K1 := Lib.hid (kw_sort u5 (edgesP ab) w.heap.size wr HO.out (by have := HN.out; omega) HW.out.size)
      have K2 := Lib.hid (fun (mm : List (List UInt8)) (h9 : mm.length ≤ 1000000) w' h hb => kw_compact u5 mm w.heap.size w' h h9 hb)
      clear HO hel
      go_wp2_with (first
        | ((with_reducible refine K1.out.mono ?_); rintro e w6 ⟨rfl, mm, hm1, hm2, hm3, hm4⟩; have H1 := Lib.hid hm1; have H2 := Lib.hid hm2; have H3 := Lib.hid hm3; have H4 := Lib.hid (HW.out.trans hm4); have H5 := Lib.hid (show mm.length ≤ 1000000 by rw [hm1.length_eq]; have := HEL.out; omega); clear hm1 hm2 hm3 hm4)
        | ((with_reducible refine (K2.out _ H5.out _ H3.out H4.out.size).mono ?_); rintro e w7 ⟨v7, rfl, ho7, hq⟩; have H6 := Lib.hid ho7; have H7 := Lib.hid (H4.out.trans hq); clear ho7 hq))
      go_ret
      have hc := compactE_sort H1.out H2.out
      refine ⟨v7, _, rfl, ⟨hc.1, fun x => by rw [HAB.out]; exact hc.2 x⟩, ?_, H6.out, H7.out⟩
      have := compactE_len mm
      rw [H1.out.length_eq] at this
      exact Nat.le_trans this HEL.out
end Go.Proofs.YtaodifpnfejbbaaGreat

/-
  Slices of things of any size, cut at a place: what is behind it, what is ahead of it.
-/
namespace Go.Proofs.YtaodifpnfejbbaaGreat
open Go.RowKit

/-- Where 's[j:]' begins. -/
def cutK (A : Option Addr) (j size c : Nat) : Option Addr := if c = j then A else A.map (·.add (j * size))
theorem Kind.run_cutK {P : Program} {α : Type} (k : Kind P α) (hs : ∀ w, (sizeOf k.el).run P w = .ok k.size w) (w : World) (A : Option Addr) (n c j : Nat) (hj : j ≤ n) :
    (Instr.slice k.ty (.slice A n c) (some (.int .i64 (j : Int))) none none).run P w = .ok (.slice (cutK A j k.size c) (n - j) (c - j)) w := by
  have he : P.elem k.ty = k.el := by simp [Program.elem, k.under]
  have ht' : P.underlying k.ty = some (.slice (P.elem k.ty)) := by rw [he]; exact k.under
  rw [run_slice_l w k.ty _ _ _ ht' .i64 _ (by omega) (by omega), he, hs]
  simp [Result.andThen, sliced, cutK]
theorem Kind.run_takeK {P : Program} {α : Type} (k : Kind P α) (hs : ∀ w, (sizeOf k.el).run P w = .ok k.size w) (w : World) (A : Option Addr) (n c j : Nat) (hj : j ≤ c) :
    (Instr.slice k.ty (.slice A n c) none (some (.int .i64 (j : Int))) none).run P w = .ok (.slice A j c) w := by
  have he : P.elem k.ty = k.el := by simp [Program.elem, k.under]
  have ht' : P.underlying k.ty = some (.slice (P.elem k.ty)) := by rw [he]; exact k.under
  rw [run_slice_h w k.ty _ _ _ ht' .i64 _ (by omega) (by omega), he, hs]
  cases A <;> simp [Result.andThen, sliced, Addr.add]
theorem Kind.RdS.drop {P : Program} {α : Type} {k : Kind P α} {w : World} {S : Nat → Prop} {A : Option Addr} {c : Nat} {l : List α} (h : k.RdS w S A c l) {j : Nat} : k.RdS w S (cutK A j k.size c) (c - j) (l.drop j) := by
  have h1 := h.room
  have h2 := h.cap
  refine ⟨?_, by rw [List.length_drop]; omega, by omega⟩
  unfold cutK
  split
  · left
    rw [List.drop_eq_nil_of_le (by omega)]; rfl
  · rcases h.row with h | ⟨b, o, rfl, h3, h4⟩
    · left; rw [k.row_drop, h]; simp
    · refine .inr ⟨b, o + j * k.size, by simp [Go.WideShapes.add_plain], h3, fun i u hu => ?_⟩
      rw [Nat.add_assoc]
      exact h4 _ u (by rw [← hu, k.row_drop, List.getElem?_drop])
theorem Kind.RdS.take {P : Program} {α : Type} {k : Kind P α} {w : World} {S : Nat → Prop} {A : Option Addr} {c : Nat} {l : List α} (h : k.RdS w S A c l) (j : Nat) : k.RdS w S A c (l.take j) := by
  have h1 := h.room
  refine ⟨?_, by rw [List.length_take]; omega, h.cap⟩
  rcases h.row with h | ⟨b, o, rfl, h3, h4⟩
  · left; rw [k.row_take, h]; simp
  · refine .inr ⟨b, o, rfl, h3, fun i u hu => h4 i u ?_⟩
    rw [k.row_take, List.getElem?_take] at hu
    split at hu
    · exact hu
    · cases hu
theorem Kind.Rd.drop {P : Program} {α : Type} {k : Kind P α} {w : World} {B : Nat} {A : Option Addr} {c : Nat} {l : List α} (h : k.Rd w B A c l) {j : Nat} : k.Rd w B (cutK A j k.size c) (c - j) (l.drop j) := by
  have h1 := h.inS.drop (j := j)
  exact ⟨h1.row, h1.room, h1.cap⟩
namespace Deep
variable {P : Program} {β α : Type} {d : Deep P β α}
theorem All.drop {w : World} {S : Nat → Prop} {bs : List β} {s : List α} (h : d.All w S bs s) (j : Nat) : d.All w S (bs.drop j) (s.drop j) :=
  ⟨by rw [List.length_drop, List.length_drop, h.1], fun i b a h1 h2 => h.2 (j + i) b a (by rwa [List.getElem?_drop] at h1) (by rwa [List.getElem?_drop] at h2)⟩
theorem All.take {w : World} {S : Nat → Prop} {bs : List β} {s : List α} (h : d.All w S bs s) (j : Nat) : d.All w S (bs.take j) (s.take j) := by
  refine ⟨by rw [List.length_take, List.length_take, h.1], fun i b a h1 h2 => ?_⟩
  rw [List.getElem?_take] at h1 h2
  split at h1
  · rw [if_pos (by assumption)] at h2
    exact h.2 i b a h1 h2
  · cases h1
theorem Rd.drop {w : World} {S : Nat → Prop} {A : Option Addr} {c : Nat} {s : List α} (h : d.Rd w S A c s) {j : Nat} : d.Rd w S (cutK A j d.k.size c) (c - j) (s.drop j) := by
  obtain ⟨bs, h1, h2⟩ := h
  exact ⟨_, h1.drop, h2.drop j⟩
theorem Rd.take {w : World} {S : Nat → Prop} {A : Option Addr} {c : Nat} {s : List α} (h : d.Rd w S A c s) (j : Nat) : d.Rd w S A c (s.take j) := by
  obtain ⟨bs, h1, h2⟩ := h
  exact ⟨_, h1.take j, h2.take j⟩
end Deep
end Go.Proofs.YtaodifpnfejbbaaGreat

/-
  Layer 15 (know), the program: a right list with the set of a range more; what is left of a list from an edge on; the set that its first piece has of a text.
-/
namespace Go.Proofs.YtaodifpnfejbbaaGreat
open Go.RowKit

theorem pc_sizeOf : ∀ w, (sizeOf kPs.el).run Tryz.prog w = .ok kPs.size w := fun w => by kernel_rfl
/-- The last piece ends elsewhere. -/
theorem own_lastS {w : World} {base g n c D : Nat} {S : Nat → Prop} {dn : List Pc} {p : Pc} (h : dPc.Own w base S (.slice (some ⟨g, 0, none⟩) n c) (dn ++ [p])) (hn : n = (dn ++ [p]).length) (hD : dn.length = D) (x : List UInt8) (T : ByteArray) (hT : str x = T) (q : Bool) :
    dPc.Own ((w.setCell ⟨g, D * 4 + 1, none⟩ (.string T)).setCell ⟨g, D * 4 + 2, none⟩ (.bool q)) base S (.slice (some ⟨g, 0, none⟩) n c) (dn ++ [⟨⟨p.rng.lo, x, q⟩, p.set⟩]) := by
  subst hD hT
  obtain ⟨bs, h1, h2⟩ := h
  have hnb : n = bs.length := hn.trans h2.1.symm
  have hDl : dn.length < bs.length := by rw [h2.1, List.length_append, List.length_singleton]; omega
  obtain ⟨b, hb⟩ : ∃ b, bs[dn.length]? = some b := ⟨_, List.getElem?_eq_getElem hDl⟩
  have g1 : (dn ++ [p])[dn.length]? = some p := by rw [List.getElem?_append_right (Nat.le_refl _), Nat.sub_self]; rfl
  have hrel := h2.2 _ _ _ hb g1
  obtain ⟨e1, e2, e3⟩ := hrel
  have k1 := Kind.Own.stored (k := kPs) h1 (j := 1) (y := ⟨⟨b.rng.lo, x, b.rng.op⟩, b.A, b.n, b.c⟩) (v := .string (str x)) hnb hb (by decide) rfl
  have k2 := Kind.Own.stored (k := kPs) k1 (i := dn.length) (j := 2) (x := ⟨⟨b.rng.lo, x, b.rng.op⟩, b.A, b.n, b.c⟩) (y := ⟨⟨b.rng.lo, x, q⟩, b.A, b.n, b.c⟩) (v := .bool q) (by rw [hnb, List.length_set]) (by rw [List.getElem?_set_self hDl]) (by decide) rfl
  rw [List.set_set] at k2
  have hkeep : KeptS (fun g' => (S g' ∧ (Value.slice (some ⟨g, 0, none⟩) n c).ownBlock ≠ some g')) w ((w.setCell ⟨g, dn.length * 4 + 1, none⟩ (.string (str x))).setCell ⟨g, dn.length * 4 + 2, none⟩ (.bool q)) := fun a ha _ => by
    have hne : g ≠ a.block := fun e => ha.2 (by rw [← e]; rfl)
    rw [World.cell?_setCell_other _ _ _ _ (fun e => hne (by rw [← e])), World.cell?_setCell_other _ _ _ _ (fun e => hne (by rw [← e]))]
  have h3 := Deep.All.keep h2 hkeep
  refine ⟨_, k2, ?_, fun i b' a' hb' ha' => ?_⟩
  · rw [List.length_set, h2.1, List.length_append, List.length_append]; rfl
  · by_cases hi : i = dn.length
    · subst hi
      rw [List.getElem?_set_self hDl] at hb'
      rw [List.getElem?_append_right (Nat.le_refl _), Nat.sub_self] at ha'
      injection hb' with hb'
      injection ha' with ha'
      subst hb' ha'
      obtain ⟨f1, f2, f3⟩ := h3.2 _ _ _ hb g1
      exact ⟨by rw [f1], f2, f3⟩
    · rw [List.getElem?_set_ne (fun e => hi e.symm)] at hb'
      refine h3.2 i b' a' hb' ?_
      by_cases hl : i < dn.length
      · rw [List.getElem?_append_left hl] at ha' ⊢; exact ha'
      · rw [List.getElem?_append_right (by omega)] at ha'
        exfalso
        obtain ⟨m, hm⟩ : ∃ m, i - dn.length = m + 1 := ⟨i - dn.length - 1, by omega⟩
        rw [hm] at ha'
        cases ha'
/-- Where the last piece lies. -/
theorem own_atS {w : World} {base n c D : Nat} {S : Nat → Prop} {A : Option Addr} {dq : List Pc} {p : Pc} (h : dPc.Own w base S (.slice A n c) (dq ++ [p])) (hn : n = (dq ++ [p]).length) (hD : dq.length = D) :
    ∃ (g : Nat) (A' : Option Addr) (n' c' : Nat) (T0 T : ByteArray) (q : Bool), A = some ⟨g, 0, none⟩ ∧ base ≤ g ∧ g < w.heap.size ∧ IsR p.rng T0 T q ∧ n' = p.set.length ∧ RdK w w.heap.size A' c' p.set ∧ w.cell? ⟨g, D * 4, none⟩ = some (.string T0) ∧ w.cell? ⟨g, D * 4 + 1, none⟩ = some (.string T) ∧ w.cell? ⟨g, D * 4 + 2, none⟩ = some (.bool q) ∧ w.cell? ⟨g, D * 4 + 3, none⟩ = some (.slice A' n' c') ∧ ∀ j, w.frozen? ⟨g, j, none⟩ = false := by
  subst hD
  obtain ⟨bs, h1, h2⟩ := h
  have hnb : n = bs.length := hn.trans h2.1.symm
  have hDl : dq.length < bs.length := by rw [h2.1, List.length_append, List.length_singleton]; omega
  obtain ⟨g, c', hv, -, hg1, hg2, hf, hc⟩ := h1.some_ hnb (by omega)
  injection hv with hA
  obtain ⟨b, hb⟩ : ∃ b, bs[dq.length]? = some b := ⟨_, List.getElem?_eq_getElem hDl⟩
  have g1 : (dq ++ [p])[dq.length]? = some p := by rw [List.getElem?_append_right (Nat.le_refl _), Nat.sub_self]; rfl
  obtain ⟨e1, e2, e3⟩ := h2.2 _ _ _ hb g1
  refine ⟨g, b.A, b.n, b.c, _, _, _, hA, hg1, hg2, IsR.mk' p.rng, e2, rdk_of e3, ?_, ?_, ?_, hc _ b hb 3 _ rfl, hf⟩
  · rw [← e1]; exact hc _ b hb 0 _ rfl
  · rw [← e1]; exact hc _ b hb 1 _ rfl
  · rw [← e1]; exact hc _ b hb 2 _ rfl
def RetPut (w : World) (v : Value) (base : Nat) (R : Nat → Prop) (U : List Pc) (e : Ending) (w' : World) : Prop := ∃ v', e = .returned v' ∧ dPc.Own w' base R v' U ∧ Below base w w' ∧ KeptS (fun g => v.ownBlock ≠ some g) w w'
theorem KeptS.trans {S : Nat → Prop} {w w' w'' : World} (h : KeptS S w w') (h' : KeptS S w' w'') (hs : w.heap.size ≤ w'.heap.size) : KeptS S w w'' := fun p hp hl => (h' p hp (Nat.lt_of_lt_of_le hl hs)).trans (h p hp hl)
theorem keptS_set {S : Nat → Prop} {w : World} {g o : Nat} (u : Value) (hg : ∀ b, S b → b ≠ g) : KeptS S w (w.setCell ⟨g, o, none⟩ u) := fun p hp _ => World.cell?_setCell_other _ _ _ _ fun e => hg _ hp (by rw [← e])
/-- A piece that lies anew. -/
theorem piece_cells {w wb : World} {S T : ByteArray} {o : Bool} {A : Option Addr} {n c : Nat} (h : w.alloc (.cells #[.string S, .string T, .bool o, .slice A n c] 44) = wb) :
    wb.cell? ⟨w.heap.size, 0, none⟩ = some (.string S) ∧ wb.cell? ⟨w.heap.size, 1, none⟩ = some (.string T) ∧ wb.cell? ⟨w.heap.size, 2, none⟩ = some (.bool o) ∧ wb.cell? ⟨w.heap.size, 3, none⟩ = some (.slice A n c) := by
  have hnew := heap_new w (.cells #[.string S, .string T, .bool o, .slice A n c] 44) _ rfl
  subst h
  refine ⟨?_, ?_, ?_, ?_⟩ <;> rw [cell_of_row _ _ _ _ _ _ hnew] <;> rfl
theorem rng_cells {w wb : World} {S T : ByteArray} {o : Bool} (h : w.alloc (.cells #[.string S, .string T, .bool o] 42) = wb) :
    wb.cell? ⟨w.heap.size, 0, none⟩ = some (.string S) ∧ wb.cell? ⟨w.heap.size, 1, none⟩ = some (.string T) ∧ wb.cell? ⟨w.heap.size, 2, none⟩ = some (.bool o) := by
  have hnew := heap_new w (.cells #[.string S, .string T, .bool o] 42) _ rfl
  subst h
  refine ⟨?_, ?_, ?_⟩ <;> rw [cell_of_row _ _ _ _ _ _ hnew] <;> rfl
set_option maxRecDepth 100000 in
set_option maxHeartbeats 8000000 in
theorem kw_put (R : Nat → Prop) (A9 : Option Addr) (n9 c9 : Nat) (dn : List Pc) (base : Nat) (hn9 : n9 = dn.length) (r : Rng) (S T : ByteArray) (o : Bool) (hIs : IsR r S T o) (A : Option Addr) (c n : Nat) (X : List Kn) (hn : n = X.length) (hl : n9 ≤ 200000) (U : List Pc) (hU : putP dn r X = U) (w : World) (hb : base ≤ w.heap.size)
    (ho : dPc.Own w base R (.slice A9 n9 c9) dn) (hX : dKn.Rd w (fun g => R g ∧ (Value.slice A9 n9 c9).ownBlock ≠ some g) A c X) :
    Calls Tryz.prog 59 #[.slice A9 n9 c9, .agg #[.string S, .string T, .bool o], .slice A n c] w (RetPut w (.slice A9 n9 c9) base R U) := by
  obtain ⟨w1, hw1⟩ : ∃ w1, w.alloc (.cells #[.string S, .string T, .bool o] 42) = w1 := ⟨_, rfl⟩
  obtain ⟨w2, hw2⟩ : ∃ w2, w1.alloc (.cells #[.string S, .string T, .bool o, .slice A n c] 44) = w2 := ⟨_, rfl⟩
  have h1 : Below w.heap.size w w1 := hw1 ▸ below_new _ _
  have h2 : Below w1.heap.size w1 w2 := hw2 ▸ below_new _ _
  have h12 := h1.trans (h2.mono h1.size)
  have hs1 : w1.heap.size = w.heap.size + 1 := by rw [← hw1, size1]
  have hmx := hX.max hn
  have hcx : n ≤ c := by rw [hn]; exact hX.room
  have HO := Lib.hid (ho.below h12)
  have HX := Lib.hid (Deep.Rd.keep hX (keptS_below h12 _))
  have HB := Lib.hid h12
  have hl0 : w.heap.size < w2.heap.size := by have := h2.size; omega
  have hl1 : w1.heap.size < w2.heap.size := by rw [← hw2, size1]; omega
  obtain ⟨x0, x1, x2⟩ := rng_cells hw1
  obtain ⟨z0, z1, z2, z3⟩ := piece_cells hw2
  have hlt1 : w.heap.size < w1.heap.size := by omega
  have y0 := ((bcell h2).1 _ _ hlt1).trans x0
  have y1 := ((bcell h2).1 _ _ hlt1).trans x1
  have y2 := ((bcell h2).1 _ _ hlt1).trans x2
  by_cases hX0 : X = []
  · subst hX0
    obtain rfl : n = 0 := hn
    obtain rfl : dn = U := by rw [← hU]; rfl
    have hw9 : IntKind.i64.wrap ((n9 : Int) - 1) = (n9 : Int) - 1 := IntWalk.i64_in _ (by omega)
    clear hIs ho hX hU h1 h2 h12
    go_enter Tryz.func59, Tryz.ntmps59
    go_wp2_with fail
    go_ret
    exact ⟨_, rfl, HO.out, HB.out.mono hb, keptS_below HB.out _⟩
  · have hnp : 0 < n := by rw [hn]; exact List.length_pos_iff.2 hX0
    have hn0 : ((n : Int) == 0) = false := beq_eq_false_iff_ne.2 (by omega)
    cases r with
    | mk lo hi op =>
    obtain ⟨e1, e2, e3⟩ := hIs
    change str lo = S at e1
    change str hi = T at e2
    change op = o at e3
    subst e3
    have hHn := Lib.hid hn
    have PR := fun w => Lib.hid (piece_row_n w lo hi S T e1 e2 op A n c)
    rcases last_cases dn with rfl | ⟨dq, p, rfl⟩
    · obtain rfl : n9 = 0 := hn9
      obtain rfl : U = [⟨⟨lo, hi, op⟩, X⟩] := by rw [← hU]; exact putP_first hX0
      have HC := Lib.hid (show CellL w2 [(⟨w1.heap.size, 0, none⟩, .string S), (⟨w1.heap.size, 1, none⟩, .string T), (⟨w1.heap.size, 2, none⟩, .bool op), (⟨w1.heap.size, 3, none⟩, .slice A n c)] w2 from ⟨z0, z1, z2, z3, Below.refl _ _⟩)
      clear ho hX hU h1 h2 h12 hs1 hn e1 e2 hX0 hlt1 hl0 y0 y1 y2
      go_enter Tryz.func59, Tryz.ntmps59
      go_upto_region 5 with fail
      refine q_region (CellL w2 [(⟨w1.heap.size, 0, none⟩, .string S), (⟨w1.heap.size, 1, none⟩, .string T), (⟨w1.heap.size, 2, none⟩, .bool op), (⟨w1.heap.size, 3, none⟩, .slice A n c)]) (by kernel_rfl) (by kernel_rfl) (cellL_drew HC.out) ?_
      repeat (first
        | go_big_quiet_skip
        | (go_big_quiet_want; (first
          | (refine q_take (v := ?_) ?_ ?_; rotate_left; (focus (intro w hSw; (try simp only [CellL] at hSw); go_split_ands; go_simp; (try (rw [if_neg (by omega)])); (try with_reducible rfl); done)))); (try simp only [Act.put, List.setIfInBounds_toArray, List.set_cons_zero, List.set_cons_succ]); go_big_quiet_on))
      refine wpQuiet_nil ?_
      intro w3 hw3
      obtain ⟨k0, k1, k2, k3, hb3⟩ := hw3
      have HO3 := Lib.hid (HO.out.below hb3)
      have HX3 := Lib.hid (Deep.Rd.keep HX.out (keptS_below hb3 _))
      have HKP := Lib.hid (keptS_below (S := fun g => (Value.slice A9 0 c9).ownBlock ≠ some g) (HB.out.trans (hb3.mono HB.out.size)))
      have HZ3 := Lib.hid (Nat.le_trans HB.out.size hb3.size)
      have HB3 := Lib.hid ((HB.out.trans (hb3.mono HB.out.size)).mono hb)
      have HSZ := Lib.hid (Nat.le_trans hb HB3.out.size)
      obtain ⟨bs, hown, hall⟩ := HO3.out
      have HKO := Lib.hid hown
      have HKA := Lib.hid hall
      have HLE := Lib.hid (show bs.length + [(⟨⟨lo, hi, op⟩, A, n, c⟩ : Ps)].length ≤ 1000000 by rw [hall.1]; simp)
      clear hown hall hb3 HO HX HB HC HO3
      go_wp2_with (at_builtin; refine wpList_app_k kPs rfl (.tmp 31) (.tmp 33) rfl base _ bs rfl (Kind.Own.alloc HKO.out _) _ (some ⟨w3.heap.size, 0, none⟩) 1 1 [⟨⟨lo, hi, op⟩, A, n, c⟩] rfl rfl (PR w3).out HLE.out (by decide) (cle_alloc HSZ.out _) ?_; intro v5 w5 hown5 hg5 hb5 hv5; have HO5 := Lib.hid (Deep.Own.app (HKA.out.keep (keptS_below (below_new w3 _) _)) (.one (dPc.keep (show dPc.rel w3 (fun g => R g ∧ (Value.slice A9 0 c9).ownBlock ≠ some g) ⟨⟨lo, hi, op⟩, A, n, c⟩ ⟨⟨lo, hi, op⟩, X⟩ from ⟨rfl, hHn.out, HX3.out⟩) (keptS_below (below_new w3 _) _))) hown5 hg5 hv5); have HB5 := Lib.hid ((HB3.out.alloc HSZ.out _).trans hb5); have HKP5 := Lib.hid ((HKP.out.trans (keptS_below (below_new w3 _) _) HZ3.out).trans (keptS_grown hg5 fun g h => h) (Nat.le_trans HZ3.out (by rw [size1]; omega))); clear hown5 hg5 hb5 hv5)
      go_ret
      exact ⟨v5, rfl, HO5.out, HB5.out, HKP5.out⟩
    · obtain ⟨D, hD⟩ : ∃ D, dq.length = D := ⟨_, rfl⟩
      have hnD : n9 = D + 1 := by rw [hn9, List.length_append, hD]; rfl
      obtain ⟨g, A2, n2, c2, T0, T2, q2, rfl, hg1, hg2, hIs2, hn2, hr2, u0, u1, u2, u3, -⟩ := own_atS HO.out hn9 hD
      have hD0 : (0 : Int) ≤ (D : Int) := by omega
      have hD1 : (D : Int) < (n9 : Int) := by omega
      have hDw : IntKind.i64.wrap ((n9 : Int) - 1) = (D : Int) := by rw [show (n9 : Int) - 1 = (D : Int) by omega]; exact IntWalk.i64_in _ (by omega)
      have hDw3 : IntKind.i64.wrap (D : Int) = (D : Int) := IntWalk.i64_in _ (by omega)
      have hDd : decide ((D : Int) < 0) = false := decide_eq_false (by omega)
      have hDc : n9 ≤ c9 := by
        obtain ⟨bs, h3, h4⟩ := HO.out
        have := h3.rd.room
        rw [h4.1, ← hn9] at this
        exact this
      obtain ⟨y, hy⟩ : ∃ y, gapP p ⟨⟨lo, hi, op⟩, X⟩ = y := ⟨_, rfl⟩
      have hX2 : RdK w2 w2.heap.size A c X := rdk_of HX.out
      have CF := Lib.hid (fun (L : List (Addr × Value)) => fun (W : World) (hC : CellL w2 L W) => (kw_follows p ⟨⟨lo, hi, op⟩, X⟩ T0 T2 S T q2 op A2 A c2 c n2 n ⟨hIs2, hn2⟩ ⟨⟨e1, e2, rfl⟩, hn⟩ y hy W (hr2.call (cellL_size hC)) (hX2.call (cellL_size hC))).mono fun (e' : Ending) (W' : World) ⟨h1, h2⟩ => (⟨h1, cellL_call h2 hC⟩ : e' = Ending.returned (.bool y) ∧ CellL w2 L W'))
      have HC := Lib.hid (show CellL w2 [(⟨w1.heap.size, 0, none⟩, .string S), (⟨w1.heap.size, 1, none⟩, .string T), (⟨w1.heap.size, 2, none⟩, .bool op), (⟨w1.heap.size, 3, none⟩, .slice A n c), (⟨w.heap.size, 1, none⟩, .string T), (⟨w.heap.size, 2, none⟩, .bool op), (⟨g, D * 4, none⟩, .string T0), (⟨g, D * 4 + 1, none⟩, .string T2), (⟨g, D * 4 + 2, none⟩, .bool q2), (⟨g, D * 4 + 3, none⟩, .slice A2 n2 c2)] w2 from ⟨z0, z1, z2, z3, y1, y2, u0, u1, u2, u3, Below.refl _ _⟩)
      have HU := Lib.hid hU
      have HX0 := Lib.hid hX0
      have HY := Lib.hid hy
      have HN9 := Lib.hid hn9
      have HDD := Lib.hid hD
      have HT := Lib.hid e2
      have hll : (dq ++ [p]).length ≤ 200000 := by rw [← hn9]; exact hl
      clear ho hX hU h1 h2 h12 hs1 hn e1 e2 hX0 hlt1 hl0 y0 hr2 hX2 hIs2 hn2 hy hn9 hD hnD
      cases y
      all_goals
        go_enter Tryz.func59, Tryz.ntmps59
        go_upto_region 5 with fail
        refine q_region (CellL w2 [(⟨w1.heap.size, 0, none⟩, .string S), (⟨w1.heap.size, 1, none⟩, .string T), (⟨w1.heap.size, 2, none⟩, .bool op), (⟨w1.heap.size, 3, none⟩, .slice A n c), (⟨w.heap.size, 1, none⟩, .string T), (⟨w.heap.size, 2, none⟩, .bool op), (⟨g, D * 4, none⟩, .string T0), (⟨g, D * 4 + 1, none⟩, .string T2), (⟨g, D * 4 + 2, none⟩, .bool q2), (⟨g, D * 4 + 3, none⟩, .slice A2 n2 c2)]) (by kernel_rfl) (by kernel_rfl) (cellL_drew HC.out) ?_
        repeat (first
          | go_big_quiet_skip
          | (go_big_quiet_want; (first
            | (refine q_take (v := ?_) ?_ ?_; rotate_left; (focus (intro w hSw; (try simp only [CellL] at hSw); go_split_ands; go_simp; (try (rw [if_neg (by omega)])); (try with_reducible rfl); done)))
            | (refine q_call (CF.out _) ?_ ?_; (focus (intro w hSw; (try simp only [CellL] at hSw); go_split_ands; go_simp; (try (rw [if_neg (by omega)])); done)))); (try simp only [Act.put, List.setIfInBounds_toArray, List.set_cons_zero, List.set_cons_succ]); go_big_quiet_on))
        refine wpQuiet_nil ?_
        intro w3 hw3
        clear x0 x1 x2 y1 y2 z0 z1 z2 z3 u0 u1 u2 u3
        obtain ⟨k0, k1, k2, k3, y1, y2, u0, u1, u2, u3, hb3⟩ := hw3
        have HO3 := Lib.hid (HO.out.below hb3)
        have HX3 := Lib.hid (Deep.Rd.keep HX.out (keptS_below hb3 _))
        have HKP := Lib.hid (keptS_below (S := fun g' => (Value.slice (some ⟨g, 0, none⟩) n9 c9).ownBlock ≠ some g') (HB.out.trans (hb3.mono HB.out.size)))
        have HZ3 := Lib.hid (Nat.le_trans HB.out.size hb3.size)
        have HB3 := Lib.hid ((HB.out.trans (hb3.mono HB.out.size)).mono hb)
        have HSZ := Lib.hid (Nat.le_trans hb HB3.out.size)
        clear hb3 HO HX HB HC CF
      · obtain ⟨g', _, _, _, _, _, _, hA, -, -, -, -, -, -, -, -, -, hfz⟩ := own_atS HO3.out HN9.out HDD.out
        injection hA with hA
        injection hA with hA
        subst hA
        go_wp2_with fail
        go_region
        go_wp2_with fail
        go_ret
        have ho := own_lastS HO3.out HN9.out HDD.out hi T HT.out op
        have hs := (HB3.out.setCell (p := ⟨g, D * 4 + 1, none⟩) hg1 (.string T)).setCell (p := ⟨g, D * 4 + 2, none⟩) hg1 (.bool op)
        exact ⟨_, rfl, by rw [← HU.out, putP_more HX0.out HY.out]; exact ho.below (Below.refl _ _).drew, hs.drew, ((HKP.out.trans (keptS_set (o := D * 4 + 1) (.string T) fun b h e => h (by rw [e]; rfl)) HZ3.out).trans (keptS_set (o := D * 4 + 2) (.bool op) fun b h e => h (by rw [e]; rfl)) (by simpa using HZ3.out)).trans (keptS_below (Below.refl _ _).drew _) (by simpa using HZ3.out)⟩
      · obtain ⟨bs, hown, hall⟩ := HO3.out
        have HKO := Lib.hid hown
        have HKA := Lib.hid hall
        have HLE := Lib.hid (show bs.length + [(⟨⟨lo, hi, op⟩, A, n, c⟩ : Ps)].length ≤ 1000000 by rw [hall.1, List.length_singleton]; omega)
        clear hown hall
        go_wp2_with (at_builtin; refine wpList_app_k kPs rfl (.tmp 31) (.tmp 33) rfl base _ bs rfl (Kind.Own.alloc HKO.out _) _ (some ⟨w3.heap.size, 0, none⟩) 1 1 [⟨⟨lo, hi, op⟩, A, n, c⟩] rfl rfl (PR w3).out HLE.out (by decide) (cle_alloc HSZ.out _) ?_; intro v5 w5 hown5 hg5 hb5 hv5; have HO5 := Lib.hid (Deep.Own.app (HKA.out.keep (keptS_below (below_new w3 _) _)) (.one (dPc.keep (show dPc.rel w3 (fun g' => R g' ∧ (Value.slice (some ⟨g, 0, none⟩) n9 c9).ownBlock ≠ some g') ⟨⟨lo, hi, op⟩, A, n, c⟩ ⟨⟨lo, hi, op⟩, X⟩ from ⟨rfl, hHn.out, HX3.out⟩) (keptS_below (below_new w3 _) _))) hown5 hg5 hv5); have HB5 := Lib.hid ((HB3.out.alloc HSZ.out _).trans hb5); have HKP5 := Lib.hid ((HKP.out.trans (keptS_below (below_new w3 _) _) HZ3.out).trans (keptS_grown hg5 fun g h => h) (Nat.le_trans HZ3.out (by rw [size1]; omega))); clear hown5 hg5 hb5 hv5)
        go_ret
        exact ⟨v5, rfl, by rw [← HU.out, putP_gap HX0.out HY.out]; exact HO5.out, HB5.out, HKP5.out⟩
/-! What is left of a list from an edge on; what its first piece has of a text. -/
theorem cmp_le_test (a b : List UInt8) : ∃ x : Int, Lib.compareBytes a b = x ∧ decide (x ≤ 0) = !ltB b a := by
  rcases ltB_three a b with ⟨h1, h2, -⟩ | ⟨h1, h2, -⟩ | ⟨-, h2, h3⟩
  · exact ⟨-1, cmp_lt h1, by rw [h2]; rfl⟩
  · exact ⟨1, cmp_gt h2, by rw [h2]; rfl⟩
  · exact ⟨0, by rw [h3]; exact cmp_self b, by rw [h2]; rfl⟩
def RetRd (w : World) (S : Nat → Prop) (N : Nat) (k : List Pc) (e : Ending) (w' : World) : Prop := ∃ A c, e = .returned (.slice A N c) ∧ dPc.Rd w' S A c k ∧ Below w.heap.size w w'
set_option maxRecDepth 100000 in
set_option maxHeartbeats 4000000 in
theorem kw_pass (A : Option Addr) (c n : Nat) (k : List Pc) (x : List UInt8) (X : ByteArray) (S : Nat → Prop) (hn : n = k.length) (hX : str x = X) (U : List Pc) (hU : passP x k = U) (N : Nat) (hN : N = U.length) (w : World) (hr : dPc.Rd w S A c k) :
    Calls Tryz.prog 99 #[.slice A n c, .string X] w (RetRd w S N U) := by
  have hmx := hr.max hn
  have hcx : n ≤ c := by rw [hn]; exact hr.room
  cases k with
  | nil =>
    obtain rfl : n = 0 := hn
    obtain rfl : U = [] := hU.symm
    obtain rfl : N = 0 := hN
    have HR := Lib.hid hr
    clear hr hX hU
    go_enter Tryz.func99, Tryz.ntmps99
    go_wp2_with fail
    go_ret
    exact ⟨A, c, rfl, HR.out, Below.refl _ _⟩
  | cons p k =>
    have hnp : 0 < n := by rw [hn]; simp
    have hnd : decide ((n : Int) > 0) = true := decide_eq_true (by omega)
    have hnd2 : decide ((0 : Int) < (n : Int)) = true := hnd
    have hnd3 : decide (0 < n) = true := decide_eq_true hnp
    obtain ⟨b, o, A', n', c', S1, T1, q1, rfl, hb1, ⟨-, hT1, hq1⟩, -, -, p0, p1, p2, p3⟩ := RdPc.at_ (w := w) (Deep.Rd.all hr) (i := 0) (x := p) rfl
    rw [Nat.zero_mul, Nat.add_zero] at p0 p1 p2 p3
    obtain ⟨z, hz, hz2⟩ := cmp_le_test p.rng.hi x
    have C := fun w => Lib.hid (cmp_is p.rng.hi x T1 X hT1 hX z hz w)
    obtain ⟨y, hy⟩ : ∃ y, ltB x p.rng.hi = y := ⟨_, rfl⟩
    rw [hy] at hz2
    have HU := Lib.hid hU
    have HN := Lib.hid hN
    have HNN := Lib.hid hn
    have HR := Lib.hid hr
    cases q1 with
    | true =>
      have HP := Lib.hid (passP_no (x := x) (p := p) (k := k) (by rw [hq1]; rfl))
      clear hn hX hU hN hr hT1 hq1 hz hy
      go_enter Tryz.func99, Tryz.ntmps99
      go_wp2_with fail
      go_ret
      obtain rfl : N = n := by rw [HN.out, ← HU.out, HP.out]; exact HNN.out.symm
      exact ⟨_, c, rfl, by rw [← HU.out, HP.out]; exact HR.out, Below.refl _ _⟩
    | false =>
      cases y with
      | true =>
        have HP := Lib.hid (passP_no (x := x) (p := p) (k := k) (by rw [hq1, hy]; rfl))
        clear hn hX hU hN hr hT1 hq1 hz hy
        go_enter Tryz.func99, Tryz.ntmps99
        go_wp2_with ((with_reducible refine (C _).out.mono ?_); rintro e w1 ⟨rfl, rfl⟩)
        go_ret
        obtain rfl : N = n := by rw [HN.out, ← HU.out, HP.out]; exact HNN.out.symm
        exact ⟨_, c, rfl, by rw [← HU.out, HP.out]; exact HR.out, Below.refl _ _⟩
      | false =>
        have HP := Lib.hid (passP_yes (x := x) (p := p) (k := k) (by rw [hq1, hy]; rfl))
        have hN1 : n - 1 = N := by rw [hN, ← hU, HP.out, hn]; rfl
        have K : ∀ W : World, (Instr.slice 22 (.slice (some ⟨b, o, none⟩) n c) (some (.int .i64 1)) none none).run Tryz.prog W = .ok (.slice (cutK (some ⟨b, o, none⟩) 1 4 c) N (c - 1)) W := fun W => by rw [← hN1]; exact kPs.run_cutK pc_sizeOf W (some ⟨b, o, none⟩) n c 1 (by omega)
        obtain ⟨A5, hA5⟩ : ∃ A5, cutK (some ⟨b, o, none⟩) 1 4 c = A5 := ⟨_, rfl⟩
        obtain ⟨c5, hc5⟩ : ∃ c5, c - 1 = c5 := ⟨_, rfl⟩
        rw [hA5, hc5] at K
        have HD := Lib.hid (show dPc.Rd w S A5 c5 k by rw [← hA5, ← hc5]; exact hr.drop (j := 1))
        clear hn hX hU hN hr hT1 hq1 hz hy hN1 hA5 hc5
        go_enter Tryz.func99, Tryz.ntmps99
        go_wp2_with ((with_reducible refine (C _).out.mono ?_); rintro e w1 ⟨rfl, rfl⟩)
        go_ret
        exact ⟨_, _, rfl, by rw [← HU.out, HP.out]; exact HD.out, Below.refl _ _⟩
def RetKS (w : World) (S : Nat → Prop) (N : Nat) (k : List Kn) (e : Ending) (w' : World) : Prop := ∃ A c, e = .returned (.slice A N c) ∧ dKn.Rd w' S A c k ∧ Below w.heap.size w w'
set_option maxRecDepth 100000 in
set_option maxHeartbeats 4000000 in
theorem kw_first (A : Option Addr) (c n : Nat) (k : List Pc) (x : List UInt8) (X : ByteArray) (S : Nat → Prop) (hn : n = k.length) (hX : str x = X) (U : List Kn) (hU : firstP x k = U) (N : Nat) (hN : N = U.length) (w : World) (hr : dPc.Rd w S A c k) :
    Calls Tryz.prog 100 #[.slice A n c, .string X] w (RetKS w S N U) := by
  have hmx := hr.max hn
  have hcx : n ≤ c := by rw [hn]; exact hr.room
  cases k with
  | nil =>
    obtain rfl : n = 0 := hn
    obtain rfl : U = [] := hU.symm
    obtain rfl : N = 0 := hN
    clear hr hX hU
    go_enter Tryz.func100, Tryz.ntmps100
    go_wp2_with fail
    go_ret
    exact ⟨none, 0, rfl, Deep.Rd.nil _ _ _ _ (Nat.zero_le _), Below.refl _ _⟩
  | cons p k =>
    have hnp : 0 < n := by rw [hn]; simp
    have hnd : decide ((n : Int) > 0) = true := decide_eq_true (by omega)
    have hnd2 : decide ((0 : Int) < (n : Int)) = true := hnd
    have hnd3 : decide (0 < n) = true := decide_eq_true hnp
    obtain ⟨b, o, rfl, hb1, hcell⟩ := pieces_of hr (by simp)
    obtain ⟨A', n', c', hn', hrd, p0, p1, p2, p3⟩ := hcell 0 p rfl
    rw [Nat.zero_mul, Nat.add_zero] at p0 p1 p2 p3
    obtain ⟨d, hd⟩ : ∃ d, hasR p.rng x = d := ⟨_, rfl⟩
    have C := fun w => span_has p.rng x _ _ X _ d (IsR.mk' p.rng) hX hd w
    obtain ⟨S1, hS1⟩ : ∃ S, str p.rng.lo = S := ⟨_, rfl⟩
    obtain ⟨S2, hS2⟩ : ∃ S, str p.rng.hi = S := ⟨_, rfl⟩
    obtain ⟨q, hq⟩ : ∃ q, p.rng.op = q := ⟨_, rfl⟩
    rw [hS1, hS2, hq] at C
    rw [hS1] at p0
    rw [hS2] at p1
    rw [hq] at p2
    replace C := fun w => Lib.hid (C w)
    cases d with
    | false =>
      obtain rfl : U = [] := by rw [← hU]; exact setP_no hd
      obtain rfl : N = 0 := hN
      clear hn hr hX hU hcell hrd hn' hd hS1 hS2 hq
      go_enter Tryz.func100, Tryz.ntmps100
      go_wp2_with ((with_reducible refine (C _).out.mono ?_); rintro e w1 ⟨rfl, hq⟩; have HQ := Lib.hid hq; clear hq)
      go_ret
      exact ⟨none, 0, rfl, Deep.Rd.nil _ _ _ _ (Nat.zero_le _), HQ.out⟩
    | true =>
      obtain rfl : U = p.set := by rw [← hU]; exact setP_yes hd
      obtain rfl : N = n' := by rw [hN, hn']
      have HRD := Lib.hid hrd
      clear hn hr hX hU hN hcell hrd hd hS1 hS2 hq
      try clear hn'
      go_enter Tryz.func100, Tryz.ntmps100
      go_wp2_with ((with_reducible refine (C _).out.mono ?_); rintro e w1 ⟨rfl, hq⟩; have HQ := Lib.hid hq; have g3 := ((bcell hq).1 _ _ hb1).trans p3; replace hb1 := Nat.lt_of_lt_of_le hb1 hq.size; clear hq)
      go_ret
      exact ⟨A', c', rfl, HRD.out.call HQ.out, HQ.out⟩
end Go.Proofs.YtaodifpnfejbbaaGreat
