/-
  Several texts in one: StbD, StbE, StbF, Deep, CutK, Step, ItpF.
-/
import Derived.Lib.SliceRun
import Derived.Deep.RegionLaw
import Derived.Test.YtfjaklpddcafdaaMg6
namespace Go.Proofs.Ytfjaklpddcafdaa
open Go.RowKit

theorem part_lo {α : Type} {lt : α → α → Bool} (ho : StO lt) {V : List α} (hV : SortS lt V) {h : Nat} {v x : α} (hv : V[h]? = some v) (hx : lt v x = true) : ∀ y ∈ V.take (h + 1), lt y x = true := fun y hy => by
  obtain ⟨i, hi, rfl⟩ := List.getElem_of_mem hy
  rw [List.length_take] at hi
  have h1 : V[i]? = some ((V.take (h + 1))[i]'(by rw [List.length_take]; exact hi)) := by rw [List.getElem_take]; exact List.getElem?_eq_getElem (by omega)
  have h2 := hV.at_ ho (i := i) (j := h) (by omega) h1 hv
  cases hc : lt ((V.take (h + 1))[i]'(by rw [List.length_take]; exact hi)) x
  · rw [ho.ntrans _ _ _ h2 hc] at hx; cases hx
  · rfl
theorem part_hi {α : Type} {lt : α → α → Bool} (ho : StO lt) {V : List α} (hV : SortS lt V) {h : Nat} {v x : α} (hv : V[h]? = some v) (hx : lt v x = false) : ∀ y ∈ V.drop h, lt y x = false := fun y hy => by
  obtain ⟨i, hi, rfl⟩ := List.getElem_of_mem hy
  rw [List.length_drop] at hi
  have h1 : V[h + i]? = some ((V.drop h)[i]'(by rw [List.length_drop]; exact hi)) := by rw [List.getElem_drop]; exact List.getElem?_eq_getElem (by omega)
  have h2 := hV.at_ ho (i := h) (j := h + i) (by omega) hv h1
  exact ho.ntrans _ _ _ h2 hx
theorem part_lo' {α : Type} {lt : α → α → Bool} (ho : StO lt) {V : List α} (hV : SortS lt V) {h : Nat} {v x : α} (hv : V[h]? = some v) (hx : lt x v = false) : ∀ y ∈ V.take (h + 1), lt x y = false := fun y hy => by
  obtain ⟨i, hi, rfl⟩ := List.getElem_of_mem hy
  rw [List.length_take] at hi
  have h1 : V[i]? = some ((V.take (h + 1))[i]'(by rw [List.length_take]; exact hi)) := by rw [List.getElem_take]; exact List.getElem?_eq_getElem (by omega)
  exact ho.ntrans _ _ _ hx (hV.at_ ho (i := i) (j := h) (by omega) h1 hv)
theorem part_hi' {α : Type} {lt : α → α → Bool} (ho : StO lt) {V : List α} (hV : SortS lt V) {h : Nat} {v x : α} (hv : V[h]? = some v) (hx : lt x v = true) : ∀ y ∈ V.drop h, lt x y = true := fun y hy => by
  obtain ⟨i, hi, rfl⟩ := List.getElem_of_mem hy
  rw [List.length_drop] at hi
  have h1 : V[h + i]? = some ((V.drop h)[i]'(by rw [List.length_drop]; exact hi)) := by rw [List.getElem_drop]; exact List.getElem?_eq_getElem (by omega)
  have h2 := hV.at_ ho (i := h) (j := h + i) (by omega) hv h1
  cases hc : lt x ((V.drop h)[i]'(by rw [List.length_drop]; exact hi))
  · rw [ho.ntrans _ _ _ hc h2] at hx; cases hx
  · rfl
theorem take_drop_get {α : Type} {V : List α} {t : Nat} {y : α} (hy : V[t]? = some y) : V.drop t = y :: V.drop (t + 1) ∧ V.take (t + 1) = V.take t ++ [y] := by
  obtain ⟨h, rfl⟩ := List.getElem?_eq_some_iff.1 hy
  exact ⟨List.drop_eq_getElem_cons h, by rw [List.take_add_one, hy]; rfl⟩
def inL {α : Type} (P V S : List α) (x : α) (t : Nat) : List α := P ++ (V.take t ++ (x :: (V.drop t ++ S)))
theorem inL_len {α : Type} (P V S : List α) (x : α) (t : Nat) : (inL P V S x t).length = P.length + (1 + (V.length + S.length)) := by
  unfold inL
  simp only [List.length_append, List.length_cons, List.length_take, List.length_drop]
  omega
theorem inL_step {α : Type} (P V S : List α) (x y : α) {t a k k1 : Nat} (hy : V[t]? = some y) (ha : P.length = a) (hk : k = a + t) (hk1 : k1 = k + 1) :
    (inL P V S x t)[k]? = some x ∧ (inL P V S x t)[k1]? = some y ∧ ((inL P V S x t).set k y).set k1 x = inL P V S x (t + 1) ∧ (inL P V S x (t + 1))[k]? = some y ∧ (inL P V S x (t + 1))[k1]? = some x ∧ ((inL P V S x (t + 1)).set k1 y).set k x = inL P V S x t := by
  obtain ⟨h1, h2⟩ := take_drop_get hy
  have ht : t < V.length := (List.getElem?_eq_some_iff.1 hy).1
  have e1 : inL P V S x t = (P ++ V.take t) ++ x :: ([] ++ y :: (V.drop (t + 1) ++ S)) := by unfold inL; rw [h1]; simp
  have e2 : inL P V S x (t + 1) = (P ++ V.take t) ++ y :: ([] ++ x :: (V.drop (t + 1) ++ S)) := by unfold inL; rw [h2]; simp
  have hl : (P ++ V.take t).length = k := by rw [List.length_append, List.length_take]; omega
  have g1 := sw2 (P ++ V.take t) [] (V.drop (t + 1) ++ S) x y (i := k) (j := k1) hl (by rw [hl]; simp; omega)
  have g2 := sw2 (P ++ V.take t) [] (V.drop (t + 1) ++ S) y x (i := k) (j := k1) hl (by rw [hl]; simp; omega)
  rw [← e1, ← e2] at g1
  rw [← e1, ← e2] at g2
  exact ⟨g1.1, g1.2.1, g1.2.2, g2.1, g2.2.1, by rw [List.set_comm _ _ (by omega)]; exact g2.2.2⟩
theorem inL_get {α : Type} (P V S : List α) (x : α) {t a h : Nat} {y : α} (hy : V[h]? = some y) (ha : P.length = a) : (h < t → (inL P V S x t)[a + h]? = some y) ∧ (t ≤ h → (inL P V S x t)[a + h + 1]? = some y) := by
  have hh : h < V.length := (List.getElem?_eq_some_iff.1 hy).1
  subst ha
  unfold inL
  constructor
  · intro ht
    rw [get_right (i := h)]
    rw [List.getElem?_append_left (by rw [List.length_take]; omega), List.getElem?_take_of_lt ht]; exact hy
  · intro ht
    rw [Nat.add_assoc, get_right (i := h + 1)]
    rw [List.getElem?_append_right (by rw [List.length_take]; omega), List.length_take, show h + 1 - min t V.length = (h - t) + 1 by omega, List.getElem?_cons_succ, List.getElem?_append_left (by rw [List.length_drop]; omega), List.getElem?_drop, show t + (h - t) = h by omega]; exact hy
theorem inL_own {α : Type} (P V S : List α) (x : α) (t a k : Nat) (ht : t ≤ V.length) (ha : P.length = a) (hk : k = a + t) : (inL P V S x t)[k]? = some x := by
  subst ha hk
  unfold inL
  rw [get_right (i := t)]
  rw [List.getElem?_append_right (by rw [List.length_take]; omega), List.length_take, show t - min t V.length = 0 by omega]; rfl
set_option maxRecDepth 100000 in
set_option maxHeartbeats 8000000 in
theorem sym_one (base g n c a m b : Nat) (P V S : List Itm) (x : Itm) (ha : P.length = a) (hm : m = a + 1) (hb : b = m + V.length) (hn : n = P.length + (1 + (V.length + S.length))) (hn9 : n ≤ 1000000) (hV : SortS ltK V) (w : World) (hbw : base ≤ w.heap.size)
    (hO : kItm.Own w base (rowV g n c) (P ++ (x :: (V ++ S)))) :
    Calls Try.prog 54 #[rowV g n c, .int .i64 (a : Int), .int .i64 (m : Int), .int .i64 (b : Int), byKeyV] w fun e w' => e = .returned (.tuple #[]) ∧ ∃ W, DoneS ltK (x :: V) W ∧ kItm.Own w' base (rowV g n c) (P ++ (W ++ S)) ∧ Below base w w' := by
  have HA := Lib.hid ha
  have HM := Lib.hid hm
  have HB := Lib.hid hb
  have HN := Lib.hid hn
  have HV := Lib.hid hV
  have HO := Lib.hid (show kItm.Own w base (rowV g n c) (inL P V S x 0) from hO)
  have HLN := Lib.hid (fun t => hn.trans (inL_len P V S x t).symm)
  have hma : (m : Int) - (a : Int) = 1 := by omega
  have ha9 : a ≤ 1000000 := by omega
  have hb9 : b ≤ 1000000 := by omega
  have hmb : m ≤ b := by omega
  have hab : a < m := by omega
  have HDONE := Lib.hid (fun (p : Nat) (h1 : ∀ y ∈ V.take p, ltK y x = true) (h2 : ∀ y ∈ V.drop p, ltK y x = false) => (show DoneS ltK (x :: V) (V.take p ++ ([x] ++ V.drop p)) from by
    have := DoneS.first stoK (x := x) (a := V.take p) (b := V.drop p) (by rw [List.take_append_drop]; exact hV) h1 h2
    rw [List.take_append_drop] at this
    exact this))
  clear ha hm hb hn hV hO
  go_enter Try.func54, Try.ntmps54
  go_wp2_with fail
  go_loopw [10, 11] (fun s u wr => ∃ p q i j : Nat, s = .int .i64 i ∧ u = .int .i64 j ∧ i = m + p ∧ j = m + q ∧ i ≤ j ∧ j ≤ b ∧ Hid ((∀ y ∈ V.take p, ltK y x = true) ∧ (∀ y ∈ V.drop q, ltK y x = false)) ∧ Hid (Below w.heap.size w wr)) (fun s u _ => (intOf u).toNat - (intOf s).toNat)
  case atStart => exact ⟨0, b - m, m, b, rfl, rfl, rfl, by omega, by omega, by omega, ⟨fun y hy => (by simp at hy), fun y hy => (by rw [List.drop_eq_nil_of_le (by have := HB.out; omega)] at hy; cases hy)⟩, Below.refl _ _⟩
  case round =>
    obtain ⟨p, q, i, j, rfl, rfl, hi, hj, hij, hjb, HP, HW⟩ := hrel
    by_cases hlt : i < j
    · obtain ⟨h, hh⟩ : ∃ h, h = (i + j) / 2 := ⟨_, rfl⟩
      have hhx : ((i : Int) + (j : Int)) / 2 = (h : Int) := by omega
      have hh1 : i ≤ h := by omega
      have hh2 : h < j := by omega
      obtain ⟨v, hv⟩ : ∃ v, h = m + v := ⟨h - m, by omega⟩
      have hvV : v < V.length := by have := HB.out; omega
      obtain ⟨y, hy⟩ : ∃ y, V[v]? = some y := ⟨_, List.getElem?_eq_getElem hvV⟩
      have HO1 := Lib.hid (HO.out.below HW.out)
      have hln := HLN.out 0
      have gy : (inL P V S x 0)[h]? = some y := by rw [show h = a + v + 1 by have := HM.out; omega]; exact (inL_get P V S x hy HA.out).2 (by omega)
      have gx : (inL P V S x 0)[a]? = some x := inL_own P V S x 0 a a (by omega) HA.out rfl
      have han : a < n := by have := HN.out; have := HA.out; omega
      have hhn' : h < n := by have := HN.out; have := HA.out; have := HB.out; have := HM.out; omega
      have hh0 : (0 : Int) ≤ (h : Int) := by omega
      have hhn : (h : Int) < (n : Int) := by omega
      have hhd : decide ((h : Int) < 0) = false := decide_eq_false (by omega)
      have hhw2 : IntKind.i64.wrap (h : Int) = (h : Int) := IntWalk.i64_in _ (by omega)
      have ha0 : (0 : Int) ≤ (a : Int) := by omega
      have han : (a : Int) < (n : Int) := by omega
      have had : decide ((a : Int) < 0) = false := decide_eq_false (by omega)
      have haw2 : IntKind.i64.wrap (a : Int) = (a : Int) := IntWalk.i64_in _ (by omega)
      have HHV := Lib.hid hv
      have HI := Lib.hid hi
      have HJ := Lib.hid hj
      have HY := Lib.hid hy
      have hhd2 : (i + j) / 2 = h := hh.symm
      obtain ⟨K, r, c1, rk, pp, dd, BB, hI⟩ : ∃ K r c k p d B, IsI y K r c k p d B := ⟨_, _, _, _, _, _, _, IsI.mk' y⟩
      obtain ⟨K', r', c', rk', pp', dd', BB', hI'⟩ : ∃ K r c k p d B, IsI x K r c k p d B := ⟨_, _, _, _, _, _, _, IsI.mk' x⟩
      obtain ⟨p0, p1, p2, p3, p4, p5, p6⟩ := own_it HO1.out hln gy hI
      obtain ⟨q0, q1, q2, q3, q4, q5, q6⟩ := own_it HO1.out hln gx hI'
      obtain ⟨z, hz, hzl, -⟩ := cmp_testK y.key x.key
      obtain ⟨t, ht⟩ : ∃ t, ltB y.key x.key = t := ⟨_, rfl⟩
      rw [ht] at hzl
      have CB := Lib.hid (fun (L : List (Addr × Value)) => fun (W : World) (hC : CellL wr L W) => (itm_byKey y x K r c1 rk pp dd BB hI K' r' c' rk' pp' dd' BB' hI' z hz W).mono fun (e' : Ending) (W' : World) ⟨h1, h2⟩ => (⟨h1, cellL_call h2 hC⟩ : e' = Ending.returned (.int .i64 z) ∧ CellL wr L W'))
      have HC := Lib.hid (show CellL wr [(⟨g, h * 7, none⟩, .string K), (⟨g, h * 7 + 1, none⟩, .int .i64 r), (⟨g, h * 7 + 2, none⟩, .int .i64 c1), (⟨g, h * 7 + 3, none⟩, .int .i64 rk), (⟨g, h * 7 + 4, none⟩, .int .i64 pp), (⟨g, h * 7 + 5, none⟩, .bool dd), (⟨g, h * 7 + 6, none⟩, .string BB), (⟨g, a * 7, none⟩, .string K'), (⟨g, a * 7 + 1, none⟩, .int .i64 r'), (⟨g, a * 7 + 2, none⟩, .int .i64 c'), (⟨g, a * 7 + 3, none⟩, .int .i64 rk'), (⟨g, a * 7 + 4, none⟩, .int .i64 pp'), (⟨g, a * 7 + 5, none⟩, .bool dd'), (⟨g, a * 7 + 6, none⟩, .string BB')] wr from ⟨p0, p1, p2, p3, p4, p5, p6, q0, q1, q2, q3, q4, q5, q6, Below.refl _ _⟩)
      have HT := Lib.hid ht
      clear hh hv hvV hy hln gy gx hI hI' hz ht hi hj p0 p1 p2 p3 p4 p5 p6 q0 q1 q2 q3 q4 q5 q6
      go_wp2_with fail
      refine q_region (CellL wr [(⟨g, h * 7, none⟩, .string K), (⟨g, h * 7 + 1, none⟩, .int .i64 r), (⟨g, h * 7 + 2, none⟩, .int .i64 c1), (⟨g, h * 7 + 3, none⟩, .int .i64 rk), (⟨g, h * 7 + 4, none⟩, .int .i64 pp), (⟨g, h * 7 + 5, none⟩, .bool dd), (⟨g, h * 7 + 6, none⟩, .string BB), (⟨g, a * 7, none⟩, .string K'), (⟨g, a * 7 + 1, none⟩, .int .i64 r'), (⟨g, a * 7 + 2, none⟩, .int .i64 c'), (⟨g, a * 7 + 3, none⟩, .int .i64 rk'), (⟨g, a * 7 + 4, none⟩, .int .i64 pp'), (⟨g, a * 7 + 5, none⟩, .bool dd'), (⟨g, a * 7 + 6, none⟩, .string BB')]) (by kernel_rfl) (by kernel_rfl) (cellL_drew HC.out) ?_
      repeat (first
        | go_big_quiet_skip
        | (go_big_quiet_want; (first
          | (refine q_take (v := ?_) ?_ ?_; rotate_left; (focus (intro w hSw; (try simp only [CellL] at hSw); go_split_ands; go_simp; (try (rw [if_neg (by omega)])); (try with_reducible rfl); done)))
          | (refine q_call (CB.out _) ?_ ?_; (focus (intro w hSw; (try simp only [CellL] at hSw); go_split_ands; go_simp; (try (rw [if_neg (by omega)])); done)))); (try simp only [Act.put, List.setIfInBounds_toArray, List.set_cons_zero, List.set_cons_succ]); go_big_quiet_on))
      refine wpQuiet_nil ?_
      intro w2 hw2
      have hb2 := cellL_size hw2
      have HW2 := Lib.hid (HW.out.trans (hb2.mono HW.out.size))
      clear hw2 hb2
      cases t
      · have HP2 := Lib.hid (show (∀ y ∈ V.take p, ltK y x = true) ∧ (∀ y ∈ V.drop v, ltK y x = false) from ⟨HP.out.1, part_hi stoK HV.out HY.out HT.out⟩)
        go_wp2_with fail
        go_roundw
        case rel => exact ⟨p, v, i, h, rfl, by go_num, HI.out, HHV.out, by omega, by omega, HP2, HW2⟩
        case measure => simp [intOf]; omega
      · have HP2 := Lib.hid (show (∀ y ∈ V.take (v + 1), ltK y x = true) ∧ (∀ y ∈ V.drop q, ltK y x = false) from ⟨part_lo stoK HV.out HY.out HT.out, HP.out.2⟩)
        go_wp2_with fail
        go_roundw
        case rel => exact ⟨v + 1, q, h + 1, j, by go_num, rfl, by have := HHV.out; omega, HJ.out, by omega, hjb, HP2, HW2⟩
        case measure => simp [intOf]; omega
    · obtain rfl : i = j := by omega
      obtain rfl : p = q := by omega
      have HD := Lib.hid (HDONE.out p HP.out.1 HP.out.2)
      have hpV : p ≤ V.length := by have := HB.out; omega
      have HO1 := Lib.hid (HO.out.below HW.out)
      have HW1 := Lib.hid (HW.out.mono hbw)
      obtain ⟨e, he⟩ : ∃ e, e = a + p := ⟨_, rfl⟩
      have hx1 : (i : Int) - 1 = (e : Int) := by have := HM.out; omega
      have hw1 : IntKind.i64.wrap ((i : Int) - 1) = (e : Int) := by rw [hx1]; exact IntWalk.i64_in _ (by omega)
      have HEE := Lib.hid he
      have hei : e ≤ 1000000 := by omega
      have hae : a ≤ e := by omega
      clear HO HW HP hi hj he
      go_wp2_with fail
      go_loopw [13] (fun s wr => ∃ t k : Nat, s = .int .i64 k ∧ k = a + t ∧ k ≤ e ∧ Hid (kItm.Own wr base (rowV g n c) (inL P V S x t)) ∧ Hid (Below base w wr)) (fun s _ => e - (intOf s).toNat)
      case atStart => exact ⟨0, a, rfl, rfl, by omega, HO1, HW1⟩
      case round =>
        clear HO1 HW1
        obtain ⟨t, k, rfl, hk, hke, HO, HW⟩ := hrel
        by_cases hlt : k < e
        · obtain ⟨y, hy⟩ : ∃ y, V[t]? = some y := ⟨_, List.getElem?_eq_getElem (by have := HEE.out; omega)⟩
          obtain ⟨k1, hk1⟩ : ∃ k1, k1 = k + 1 := ⟨_, rfl⟩
          obtain ⟨gx, gy, gxy, -⟩ := inL_step P V S x y hy HA.out hk hk1
          have hln := HLN.out t
          have hkn' : k1 < n := by have := HN.out; have := HA.out; have := HEE.out; omega
          obtain ⟨K, r, c1, rk, pp, dd, BB, hI⟩ : ∃ K r c k p d B, IsI x K r c k p d B := ⟨_, _, _, _, _, _, _, IsI.mk' x⟩
          obtain ⟨K', r', c', rk', pp', dd', BB', hI'⟩ : ∃ K r c k p d B, IsI y K r c k p d B := ⟨_, _, _, _, _, _, _, IsI.mk' y⟩
          obtain ⟨p0, p1, p2, p3, p4, p5, p6⟩ := own_it HO.out hln gx hI
          obtain ⟨q0, q1, q2, q3, q4, q5, q6⟩ := own_it HO.out hln gy hI'
          obtain ⟨hg1, hgl, hfz, -⟩ := HO.out.at_g hln (by omega)
          have HOF := Lib.hid (own_swap HO.out hln gx gy hI hI')
          rw [gxy] at HOF
          have HBF := Lib.hid (below7 (below7 HW.out hg1 k K' r' c' rk' pp' dd' BB') hg1 k1 K r c1 rk pp dd BB)
          have hk0 : (0 : Int) ≤ (k : Int) := by omega
          have hkn : (k : Int) < (n : Int) := by omega
          have hkd : decide ((k : Int) < 0) = false := decide_eq_false (by omega)
          have hkw2 : IntKind.i64.wrap (k : Int) = (k : Int) := IntWalk.i64_in _ (by omega)
          have hk10 : (0 : Int) ≤ (k1 : Int) := by omega
          have hk1n : (k1 : Int) < (n : Int) := by omega
          have hk1d : decide ((k1 : Int) < 0) = false := decide_eq_false (by omega)
          have hk1w2 : IntKind.i64.wrap (k1 : Int) = (k1 : Int) := IntWalk.i64_in _ (by omega)
          have hk1x : (k : Int) + 1 = (k1 : Int) := by omega
          have hk1w : IntKind.i64.wrap ((k : Int) + 1) = (k1 : Int) := by rw [hk1x]; exact hk1w2
          have HK := Lib.hid (And.intro hk hk1)
          have hk11 : k1 ≤ e := by omega
          have hkk : k < k1 := by omega
          clear hy hk hk1 gx gy gxy hln hI hI' hg1
          go_wp2_with fail
          go_region
          go_wp2_with fail
          go_roundw
          case rel => exact ⟨t + 1, k1, by go_num, by have := HK.out; omega, hk11, HOF.out.below (Below.refl _ _).drew, HBF.out.drew⟩
          case measure => simp [intOf]; omega
        · obtain rfl : k = e := by omega
          obtain rfl : t = p := by have := HEE.out; omega
          go_wp2_with fail
          first | go_end0 | refine bodyPost_ret (results_none rfl _ _ _) rfl ?_
          exact ⟨rfl, _, HD.out, by simpa [inL] using HO.out, HW.out⟩
set_option maxRecDepth 100000 in
set_option maxHeartbeats 8000000 in
theorem sym_last (base g n c a m b u : Nat) (P V S : List Itm) (x : Itm) (ha : P.length = a) (hu : u = V.length) (hu2 : 2 ≤ u) (hm : m = a + u) (hb : b = m + 1) (hn : n = P.length + (1 + (V.length + S.length))) (hn9 : n ≤ 1000000) (hV : SortS ltK V) (w : World) (hbw : base ≤ w.heap.size)
    (hO : kItm.Own w base (rowV g n c) (P ++ (V ++ (x :: S)))) :
    Calls Try.prog 54 #[rowV g n c, .int .i64 (a : Int), .int .i64 (m : Int), .int .i64 (b : Int), byKeyV] w fun e w' => e = .returned (.tuple #[]) ∧ ∃ W, DoneS ltK (V ++ [x]) W ∧ kItm.Own w' base (rowV g n c) (P ++ (W ++ S)) ∧ Below base w w' := by
  have HA := Lib.hid ha
  have HM := Lib.hid hm
  have HU := Lib.hid hu
  have HN := Lib.hid hn
  have HV := Lib.hid hV
  have HO := Lib.hid (show kItm.Own w base (rowV g n c) (inL P V S x u) from by unfold inL; rw [List.take_of_length_le (by omega), List.drop_eq_nil_of_le (by omega)]; exact hO)
  have HLN := Lib.hid (fun t => hn.trans (inL_len P V S x t).symm)
  have hma : (m : Int) - (a : Int) = (u : Int) := by omega
  have hmaw : IntKind.i64.wrap ((m : Int) - (a : Int)) = (u : Int) := by rw [hma]; exact IntWalk.i64_in _ (by omega)
  have hu1 : ((u : Int) == 1) = false := by simp; omega
  have hu1' : ¬ u = 1 := by omega
  have hbm : (b : Int) - (m : Int) = 1 := by omega
  have hmn' : m < n := by omega
  have ha9 : a ≤ 1000000 := by omega
  have ham : a ≤ m := by omega
  have HDONE := Lib.hid (fun (p : Nat) (h1 : ∀ y ∈ V.take p, ltK x y = false) (h2 : ∀ y ∈ V.drop p, ltK x y = true) => (show DoneS ltK (V ++ [x]) (V.take p ++ ([x] ++ V.drop p)) from by
    have := DoneS.insert stoK (x := x) (a := V.take p) (b := V.drop p) (by rw [List.take_append_drop]; exact hV) h2 h1
    rw [List.take_append_drop] at this
    exact this))
  clear ha hm hb hn hV hO hu
  go_enter Try.func54, Try.ntmps54
  go_wp2_with fail
  go_loopw [14, 15] (fun s u' wr => ∃ p q i j : Nat, s = .int .i64 i ∧ u' = .int .i64 j ∧ i = a + p ∧ j = a + q ∧ i ≤ j ∧ j ≤ m ∧ Hid ((∀ y ∈ V.take p, ltK x y = false) ∧ (∀ y ∈ V.drop q, ltK x y = true)) ∧ Hid (Below w.heap.size w wr)) (fun s u' _ => (intOf u').toNat - (intOf s).toNat)
  case atStart => exact ⟨0, u, a, m, rfl, rfl, rfl, HM.out, by omega, by omega, ⟨fun y hy => (by simp at hy), fun y hy => (by rw [List.drop_eq_nil_of_le (by have := HU.out; omega)] at hy; cases hy)⟩, Below.refl _ _⟩
  case round =>
    obtain ⟨p, q, i, j, rfl, rfl, hi, hj, hij, hjb, HP, HW⟩ := hrel
    by_cases hlt : i < j
    · obtain ⟨h, hh⟩ : ∃ h, h = (i + j) / 2 := ⟨_, rfl⟩
      have hhx : ((i : Int) + (j : Int)) / 2 = (h : Int) := by omega
      have hh1 : i ≤ h := by omega
      have hh2 : h < j := by omega
      obtain ⟨v, hv⟩ : ∃ v, h = a + v := ⟨h - a, by omega⟩
      have hvV : v < V.length := by have := HU.out; have := HM.out; omega
      obtain ⟨y, hy⟩ : ∃ y, V[v]? = some y := ⟨_, List.getElem?_eq_getElem hvV⟩
      have HO1 := Lib.hid (HO.out.below HW.out)
      have hln := HLN.out u
      have gy : (inL P V S x u)[h]? = some y := by rw [hv]; exact (inL_get P V S x hy HA.out).1 (by have := HU.out; omega)
      have gx : (inL P V S x u)[m]? = some x := inL_own P V S x u a m (by have := HU.out; omega) HA.out HM.out
      have hhn' : h < n := by omega
      have hm0 : (0 : Int) ≤ (m : Int) := by omega
      have hmn : (m : Int) < (n : Int) := by omega
      have hmd : decide ((m : Int) < 0) = false := decide_eq_false (by omega)
      have hmw2 : IntKind.i64.wrap (m : Int) = (m : Int) := IntWalk.i64_in _ (by omega)
      have hh0 : (0 : Int) ≤ (h : Int) := by omega
      have hhn : (h : Int) < (n : Int) := by omega
      have hhd : decide ((h : Int) < 0) = false := decide_eq_false (by omega)
      have hhw2 : IntKind.i64.wrap (h : Int) = (h : Int) := IntWalk.i64_in _ (by omega)
      have HHV := Lib.hid hv
      have HI := Lib.hid hi
      have HJ := Lib.hid hj
      have HY := Lib.hid hy
      have hhd2 : (i + j) / 2 = h := hh.symm
      obtain ⟨K, r, c1, rk, pp, dd, BB, hI⟩ : ∃ K r c k p d B, IsI x K r c k p d B := ⟨_, _, _, _, _, _, _, IsI.mk' x⟩
      obtain ⟨K', r', c', rk', pp', dd', BB', hI'⟩ : ∃ K r c k p d B, IsI y K r c k p d B := ⟨_, _, _, _, _, _, _, IsI.mk' y⟩
      obtain ⟨p0, p1, p2, p3, p4, p5, p6⟩ := own_it HO1.out hln gx hI
      obtain ⟨q0, q1, q2, q3, q4, q5, q6⟩ := own_it HO1.out hln gy hI'
      obtain ⟨z, hz, hzl, -⟩ := cmp_testK x.key y.key
      obtain ⟨t, ht⟩ : ∃ t, ltB x.key y.key = t := ⟨_, rfl⟩
      rw [ht] at hzl
      have CB := Lib.hid (fun (L : List (Addr × Value)) => fun (W : World) (hC : CellL wr L W) => (itm_byKey x y K r c1 rk pp dd BB hI K' r' c' rk' pp' dd' BB' hI' z hz W).mono fun (e' : Ending) (W' : World) ⟨h1, h2⟩ => (⟨h1, cellL_call h2 hC⟩ : e' = Ending.returned (.int .i64 z) ∧ CellL wr L W'))
      have HC := Lib.hid (show CellL wr [(⟨g, m * 7, none⟩, .string K), (⟨g, m * 7 + 1, none⟩, .int .i64 r), (⟨g, m * 7 + 2, none⟩, .int .i64 c1), (⟨g, m * 7 + 3, none⟩, .int .i64 rk), (⟨g, m * 7 + 4, none⟩, .int .i64 pp), (⟨g, m * 7 + 5, none⟩, .bool dd), (⟨g, m * 7 + 6, none⟩, .string BB), (⟨g, h * 7, none⟩, .string K'), (⟨g, h * 7 + 1, none⟩, .int .i64 r'), (⟨g, h * 7 + 2, none⟩, .int .i64 c'), (⟨g, h * 7 + 3, none⟩, .int .i64 rk'), (⟨g, h * 7 + 4, none⟩, .int .i64 pp'), (⟨g, h * 7 + 5, none⟩, .bool dd'), (⟨g, h * 7 + 6, none⟩, .string BB')] wr from ⟨p0, p1, p2, p3, p4, p5, p6, q0, q1, q2, q3, q4, q5, q6, Below.refl _ _⟩)
      have HT := Lib.hid ht
      clear hh hv hvV hy hln gy gx hI hI' hz ht hi hj p0 p1 p2 p3 p4 p5 p6 q0 q1 q2 q3 q4 q5 q6
      go_wp2_with fail
      refine q_region (CellL wr [(⟨g, m * 7, none⟩, .string K), (⟨g, m * 7 + 1, none⟩, .int .i64 r), (⟨g, m * 7 + 2, none⟩, .int .i64 c1), (⟨g, m * 7 + 3, none⟩, .int .i64 rk), (⟨g, m * 7 + 4, none⟩, .int .i64 pp), (⟨g, m * 7 + 5, none⟩, .bool dd), (⟨g, m * 7 + 6, none⟩, .string BB), (⟨g, h * 7, none⟩, .string K'), (⟨g, h * 7 + 1, none⟩, .int .i64 r'), (⟨g, h * 7 + 2, none⟩, .int .i64 c'), (⟨g, h * 7 + 3, none⟩, .int .i64 rk'), (⟨g, h * 7 + 4, none⟩, .int .i64 pp'), (⟨g, h * 7 + 5, none⟩, .bool dd'), (⟨g, h * 7 + 6, none⟩, .string BB')]) (by kernel_rfl) (by kernel_rfl) (cellL_drew HC.out) ?_
      repeat (first
        | go_big_quiet_skip
        | (go_big_quiet_want; (first
          | (refine q_take (v := ?_) ?_ ?_; rotate_left; (focus (intro w hSw; (try simp only [CellL] at hSw); go_split_ands; go_simp; (try (rw [if_neg (by omega)])); (try with_reducible rfl); done)))
          | (refine q_call (CB.out _) ?_ ?_; (focus (intro w hSw; (try simp only [CellL] at hSw); go_split_ands; go_simp; (try (rw [if_neg (by omega)])); done)))); (try simp only [Act.put, List.setIfInBounds_toArray, List.set_cons_zero, List.set_cons_succ]); go_big_quiet_on))
      refine wpQuiet_nil ?_
      intro w2 hw2
      have hb2 := cellL_size hw2
      have HW2 := Lib.hid (HW.out.trans (hb2.mono HW.out.size))
      clear hw2 hb2
      cases t
      · have HP2 := Lib.hid (show (∀ y ∈ V.take (v + 1), ltK x y = false) ∧ (∀ y ∈ V.drop q, ltK x y = true) from ⟨part_lo' stoK HV.out HY.out HT.out, HP.out.2⟩)
        go_wp2_with fail
        go_roundw
        case rel => exact ⟨v + 1, q, h + 1, j, by go_num, rfl, by have := HHV.out; omega, HJ.out, by omega, hjb, HP2, HW2⟩
        case measure => simp [intOf]; omega
      · have HP2 := Lib.hid (show (∀ y ∈ V.take p, ltK x y = false) ∧ (∀ y ∈ V.drop v, ltK x y = true) from ⟨HP.out.1, part_hi' stoK HV.out HY.out HT.out⟩)
        go_wp2_with fail
        go_roundw
        case rel => exact ⟨p, v, i, h, rfl, by go_num, HI.out, HHV.out, by omega, by omega, HP2, HW2⟩
        case measure => simp [intOf]; omega
    · obtain rfl : i = j := by omega
      obtain rfl : p = q := by omega
      have HD := Lib.hid (HDONE.out p HP.out.1 HP.out.2)
      have HO1 := Lib.hid (HO.out.below HW.out)
      have HW1 := Lib.hid (HW.out.mono hbw)
      have HI := Lib.hid hi
      clear HO HW HP hi hj
      go_wp2_with fail
      go_loopw [17] (fun s wr => ∃ t k : Nat, s = .int .i64 k ∧ k = a + t ∧ i ≤ k ∧ k ≤ m ∧ Hid (kItm.Own wr base (rowV g n c) (inL P V S x t)) ∧ Hid (Below base w wr)) (fun s _ => (intOf s).toNat)
      case atStart => exact ⟨u, m, rfl, HM.out, by omega, by omega, HO1, HW1⟩
      case round =>
        clear HO1 HW1
        obtain ⟨t, k1, rfl, hk, hke, hkm, HO, HW⟩ := hrel
        by_cases hlt : i < k1
        · obtain ⟨t, rfl⟩ : ∃ t', t = t' + 1 := ⟨t - 1, by have := HI.out; omega⟩
          obtain ⟨y, hy⟩ : ∃ y, V[t]? = some y := ⟨_, List.getElem?_eq_getElem (by have := HU.out; have := HM.out; omega)⟩
          obtain ⟨k, hkk⟩ : ∃ k, k1 = k + 1 := ⟨k1 - 1, by omega⟩
          obtain ⟨-, -, -, gy, gx, gxy⟩ := inL_step P V S x y hy HA.out (k := k) (by omega) hkk
          have hln := HLN.out (t + 1)
          obtain ⟨K, r, c1, rk, pp, dd, BB, hI⟩ : ∃ K r c k p d B, IsI x K r c k p d B := ⟨_, _, _, _, _, _, _, IsI.mk' x⟩
          obtain ⟨K', r', c', rk', pp', dd', BB', hI'⟩ : ∃ K r c k p d B, IsI y K r c k p d B := ⟨_, _, _, _, _, _, _, IsI.mk' y⟩
          obtain ⟨p0, p1, p2, p3, p4, p5, p6⟩ := own_it HO.out hln gx hI
          obtain ⟨q0, q1, q2, q3, q4, q5, q6⟩ := own_it HO.out hln gy hI'
          obtain ⟨hg1, hgl, hfz, -⟩ := HO.out.at_g hln (by omega)
          have HOF := Lib.hid (own_swap HO.out hln gx gy hI hI')
          rw [gxy] at HOF
          have HBF := Lib.hid (below7 (below7 HW.out hg1 k1 K' r' c' rk' pp' dd' BB') hg1 k K r c1 rk pp dd BB)
          have hk0 : (0 : Int) ≤ (k : Int) := by omega
          have hkn : (k : Int) < (n : Int) := by omega
          have hkd : decide ((k : Int) < 0) = false := decide_eq_false (by omega)
          have hkw2 : IntKind.i64.wrap (k : Int) = (k : Int) := IntWalk.i64_in _ (by omega)
          have hk10 : (0 : Int) ≤ (k1 : Int) := by omega
          have hk1n : (k1 : Int) < (n : Int) := by omega
          have hk1d : decide ((k1 : Int) < 0) = false := decide_eq_false (by omega)
          have hk1w2 : IntKind.i64.wrap (k1 : Int) = (k1 : Int) := IntWalk.i64_in _ (by omega)
          have hkx : (k1 : Int) - 1 = (k : Int) := by omega
          have hkw : IntKind.i64.wrap ((k1 : Int) - 1) = (k : Int) := by rw [hkx]; exact hkw2
          have HK := Lib.hid (And.intro hk hkk)
          have hik : i ≤ k := by omega
          have hkk1 : k < k1 := by omega
          have t1 : decide ((k1 : Int) > (i : Int)) = true := decide_eq_true (by omega)
          clear hy hk hkk gx gy gxy hln hI hI' hg1
          go_wp2_with fail
          go_region
          go_wp2_with fail
          go_roundw
          case rel => exact ⟨t, k, by go_num, by have := HK.out; omega, hik, by omega, HOF.out.below (Below.refl _ _).drew, HBF.out.drew⟩
          case measure => simp [intOf]; omega
        · obtain rfl : k1 = i := by omega
          obtain rfl : t = p := by have := HI.out; omega
          have t1 : decide ((k1 : Int) > (k1 : Int)) = false := decide_eq_false (by omega)
          go_wp2_with fail
          first | go_end0 | refine bodyPost_ret (results_none rfl _ _ _) rfl ?_
          exact ⟨rfl, _, HD.out, by simpa [inL] using HO.out, HW.out⟩
end Go.Proofs.Ytfjaklpddcafdaa

namespace Go.Proofs.Ytfjaklpddcafdaa
open Go.RowKit

theorem l_left {α : Type} {P U V S : List α} {a m i : Nat} (ha : P.length = a) (hm : m = a + U.length) (h1 : a ≤ i) (h2 : i < m) : (P ++ (U ++ (V ++ S)))[i]? = U[i - a]? := by
  rw [List.getElem?_append_right (by omega), ha, List.getElem?_append_left (by omega)]
theorem l_right {α : Type} {P U V S : List α} {a m b i : Nat} (ha : P.length = a) (hm : m = a + U.length) (hb : b = m + V.length) (h1 : m ≤ i) (h2 : i < b) : (P ++ (U ++ (V ++ S)))[i]? = V[i - m]? := by
  rw [List.getElem?_append_right (by omega), List.getElem?_append_right (by omega), List.getElem?_append_left (by omega)]
  congr 1; omega
def qA (l : List Itm) (pp c : Nat) : Bool := match l[pp - c]?, l[c]? with
  | some y, some x => ltK y x
  | _, _ => false
theorem qA_is {l : List Itm} {pp c : Nat} {x y : Itm} (hy : l[pp - c]? = some y) (hx : l[c]? = some x) : qA l pp c = ltK y x := by unfold qA; rw [hy, hx]
theorem get_of {α : Type} {U : List α} {i : Nat} (h : i < U.length) : ∃ x, U[i]? = some x := ⟨_, List.getElem?_eq_getElem h⟩
theorem qA_mono {P U V S : List Itm} (hU : SortS ltK U) (hV : SortS ltK V) {a m b pp c c' : Nat} (ha : P.length = a) (hm : m = a + U.length) (hb : b = m + V.length) (h1 : a ≤ c) (h2 : c ≤ c') (h3 : c' < m) (h4 : m ≤ pp - c') (h5 : pp - c < b)
    (h : qA (P ++ (U ++ (V ++ S))) pp c = true) : qA (P ++ (U ++ (V ++ S))) pp c' = true := by
  obtain ⟨x, hx⟩ := get_of (U := U) (i := c - a) (by omega)
  obtain ⟨x', hx'⟩ := get_of (U := U) (i := c' - a) (by omega)
  obtain ⟨y, hy⟩ := get_of (U := V) (i := pp - c - m) (by omega)
  obtain ⟨y', hy'⟩ := get_of (U := V) (i := pp - c' - m) (by omega)
  rw [qA_is ((l_right ha hm hb (by omega) (by omega)).trans hy) ((l_left ha hm (by omega) (by omega)).trans hx)] at h
  rw [qA_is ((l_right ha hm hb (by omega) (by omega)).trans hy') ((l_left ha hm (by omega) (by omega)).trans hx')]
  have e1 := hU.at_ stoK (i := c - a) (j := c' - a) (by omega) hx hx'
  have e2 := hV.at_ stoK (i := pp - c' - m) (j := pp - c - m) (by omega) hy' hy
  cases hc : ltK y' x'
  · rw [stoK.ntrans _ _ _ (stoK.ntrans _ _ _ e2 hc) e1] at h; cases h
  · rfl
theorem sym_cut {P U V S : List Itm} (hU : SortS ltK U) (hV : SortS ltK V) {a m b mid nn pp s0 r0 s en : Nat} (ha : P.length = a) (hm : m = a + U.length) (hb : b = m + V.length) (h0 : a ≤ s0) (h1 : s0 ≤ s) (h2 : s ≤ r0) (h3 : r0 ≤ m) (h4 : r0 ≤ mid) (hn : nn = mid + m) (hp : pp + 1 = nn) (he : s + en = nn) (hnb : nn ≤ b + s0)
    (hr : r0 = m ∨ r0 = mid) (hs : s0 = a ∨ s0 + b = nn) (hq0 : ∀ c, s0 ≤ c → c < s → qA (P ++ (U ++ (V ++ S))) pp c = false) (hq1 : ∀ c, s ≤ c → c < r0 → qA (P ++ (U ++ (V ++ S))) pp c = true) :
    (∀ x ∈ U.drop (s - a), ∀ y ∈ V.take (en - m), ltK y x = true) ∧ (∀ x ∈ U.take (s - a), ∀ y ∈ V.drop (en - m), ltK y x = false) := by
  constructor
  · intro x hx y hy
    obtain ⟨i, hi⟩ := List.mem_iff_getElem?.1 hx
    obtain ⟨j, hj⟩ := List.mem_iff_getElem?.1 hy
    rw [List.getElem?_drop] at hi
    have hj1 : j < en - m := by have := (List.getElem?_eq_some_iff.1 hj).1; rw [List.length_take] at this; omega
    rw [List.getElem?_take_of_lt hj1] at hj
    have hi1 := (List.getElem?_eq_some_iff.1 hi).1
    have hj2 := (List.getElem?_eq_some_iff.1 hj).1
    have hsr : s < r0 := by omega
    obtain ⟨x0, hx0⟩ := get_of (U := U) (i := s - a) (by omega)
    obtain ⟨y0, hy0⟩ := get_of (U := V) (i := pp - s - m) (by omega)
    have hq := hq1 s (Nat.le_refl _) hsr
    rw [qA_is ((l_right ha hm hb (by omega) (by omega)).trans hy0) ((l_left ha hm (by omega) (by omega)).trans hx0)] at hq
    have e1 := hU.at_ stoK (i := s - a) (j := s - a + i) (by omega) hx0 hi
    have e2 := hV.at_ stoK (i := j) (j := pp - s - m) (by omega) hj hy0
    cases hc : ltK y x
    · rw [stoK.ntrans _ _ _ (stoK.ntrans _ _ _ e2 hc) e1] at hq; cases hq
    · rfl
  · intro x hx y hy
    obtain ⟨i, hi⟩ := List.mem_iff_getElem?.1 hx
    obtain ⟨j, hj⟩ := List.mem_iff_getElem?.1 hy
    rw [List.getElem?_drop] at hj
    have hi1 : i < s - a := by have := (List.getElem?_eq_some_iff.1 hi).1; rw [List.length_take] at this; omega
    rw [List.getElem?_take_of_lt hi1] at hi
    have hi2 := (List.getElem?_eq_some_iff.1 hi).1
    have hj2 := (List.getElem?_eq_some_iff.1 hj).1
    have hsr : s0 < s := by omega
    obtain ⟨x0, hx0⟩ := get_of (U := U) (i := s - 1 - a) (by omega)
    obtain ⟨y0, hy0⟩ := get_of (U := V) (i := pp - (s - 1) - m) (by omega)
    have hq := hq0 (s - 1) (by omega) (by omega)
    rw [qA_is ((l_right ha hm hb (by omega) (by omega)).trans hy0) ((l_left ha hm (by omega) (by omega)).trans hx0)] at hq
    have e1 := hU.at_ stoK (i := i) (j := s - 1 - a) (by omega) hi hx0
    have e2 := hV.at_ stoK (i := pp - (s - 1) - m) (j := en - m + j) (by omega) hy0 hj
    exact stoK.ntrans _ _ _ (stoK.ntrans _ _ _ e2 hq) e1
def SymC (N : Nat) : Prop := ∀ (base g n c a m b : Nat) (P U V S : List Itm), P.length = a → m = a + U.length → b = m + V.length → 0 < U.length → 0 < V.length → b ≤ a + N → n = P.length + (U.length + (V.length + S.length)) → n ≤ 1000000 → SortS ltK U → SortS ltK V →
  ∀ w, base ≤ w.heap.size → kItm.Own w base (rowV g n c) (P ++ (U ++ (V ++ S))) →
  Calls Try.prog 54 #[rowV g n c, .int .i64 (a : Int), .int .i64 (m : Int), .int .i64 (b : Int), byKeyV] w fun e w' => e = .returned (.tuple #[]) ∧ ∃ W, DoneS ltK (U ++ V) W ∧ kItm.Own w' base (rowV g n c) (P ++ (W ++ S)) ∧ Below base w w'
set_option maxRecDepth 100000 in
set_option maxHeartbeats 16000000 in
theorem sym_gen (N : Nat) (IH : SymC N) (base g n c a m b u v : Nat) (P U V S : List Itm) (ha : P.length = a) (hu : u = U.length) (hv : v = V.length) (hu2 : 2 ≤ u) (hv2 : 2 ≤ v) (hm : m = a + u) (hb : b = m + v) (hbN : b ≤ a + (N + 1)) (hn : n = P.length + (U.length + (V.length + S.length))) (hn9 : n ≤ 1000000) (hU : SortS ltK U) (hV : SortS ltK V) (w : World) (hbw : base ≤ w.heap.size)
    (hO : kItm.Own w base (rowV g n c) (P ++ (U ++ (V ++ S)))) :
    Calls Try.prog 54 #[rowV g n c, .int .i64 (a : Int), .int .i64 (m : Int), .int .i64 (b : Int), byKeyV] w fun e w' => e = .returned (.tuple #[]) ∧ ∃ W, DoneS ltK (U ++ V) W ∧ kItm.Own w' base (rowV g n c) (P ++ (W ++ S)) ∧ Below base w w' := by
  obtain ⟨mid, hmid⟩ : ∃ mid, mid = (a + b) / 2 := ⟨_, rfl⟩
  obtain ⟨nn, hnn⟩ : ∃ nn, nn = mid + m := ⟨_, rfl⟩
  obtain ⟨pq, hpp⟩ : ∃ pq, pq + 1 = nn := ⟨nn - 1, by omega⟩
  obtain ⟨s0, hs0⟩ : ∃ s0, s0 = if m > mid then nn - b else a := ⟨_, rfl⟩
  obtain ⟨r0, hr0⟩ : ∃ r0, r0 = if m > mid then mid else m := ⟨_, rfl⟩
  have hm' : m = a + U.length := by omega
  have hb' : b = m + V.length := by omega
  have hX : a ≤ s0 ∧ s0 ≤ r0 ∧ r0 ≤ m ∧ r0 ≤ mid ∧ nn ≤ b + s0 ∧ (r0 = m ∨ r0 = mid) ∧ (s0 = a ∨ s0 + b = nn) := by
    by_cases h : m > mid
    · rw [if_pos h] at hs0 hr0; omega
    · rw [if_neg h] at hs0 hr0; omega
  obtain ⟨x1, x2, x3, x4, x5, x6, x7⟩ := hX
  have HALL := Lib.hid (fun (s en : Nat) (h1 : s0 ≤ s) (h2 : s ≤ r0) (he : s + en = nn) (hq0 : ∀ c, s0 ≤ c → c < s → qA (P ++ (U ++ (V ++ S))) pq c = false) (hq1 : ∀ c, s ≤ c → c < r0 → qA (P ++ (U ++ (V ++ S))) pq c = true) => sym_cut (S := S) hU hV ha hm' hb' x1 h1 h2 x3 x4 hnn hpp he x5 x6 x7 hq0 hq1)
  have HMO := Lib.hid (fun (c c' : Nat) (h1 : s0 ≤ c) (h2 : c ≤ c') (h3 : c' < r0) (h : qA (P ++ (U ++ (V ++ S))) pq c = true) => qA_mono (S := S) hU hV ha hm' hb' (by omega) h2 (by omega) (by omega) (by omega) h)
  have HGL := Lib.hid (fun (i : Nat) (h1 : a ≤ i) (h2 : i < m) => (l_left (V := V) (S := S) ha hm' h1 h2))
  have HGR := Lib.hid (fun (i : Nat) (h1 : m ≤ i) (h2 : i < b) => (l_right (S := S) ha hm' hb' h1 h2))
  have HJ := Lib.hid (fun (s en : Nat) (p q : List Itm) (hq : (∀ x ∈ U.drop (s - a), ∀ y ∈ V.take (en - m), ltK y x = true) ∧ (∀ x ∈ U.take (s - a), ∀ y ∈ V.drop (en - m), ltK y x = false)) (h1 : DoneS ltK (U.take (s - a) ++ V.take (en - m)) p) (h2 : DoneS ltK (U.drop (s - a) ++ V.drop (en - m)) q) => (show DoneS ltK (U ++ V) (p ++ q) from by
    have := DoneS.join stoK hq.1 hq.2 (by rw [List.take_append_drop]; exact hU) (by rw [List.take_append_drop]; exact hV) h1 h2
    rw [List.take_append_drop, List.take_append_drop] at this
    exact this))
  have HLEN := Lib.hid (fun (s en : Nat) (h1 : a ≤ s) (h2 : s ≤ m) (h3 : m ≤ en) (h4 : en ≤ b) => (show (U.take (s - a)).length = s - a ∧ (U.drop (s - a)).length = m - s ∧ (V.take (en - m)).length = en - m ∧ (V.drop (en - m)).length = b - en from by
    simp only [List.length_take, List.length_drop]; omega))
  have HNL := Lib.hid (show n = (P ++ (U ++ (V ++ S))).length by simp only [List.length_append]; exact hn)
  have HNB := Lib.hid (show n = b + S.length by omega)
  have HSU := Lib.hid hU
  have HSV := Lib.hid hV
  have HEU := Lib.hid (fun k => List.take_append_drop k U)
  have HEV := Lib.hid (fun k => List.take_append_drop k V)
  have HPA := Lib.hid ha
  have HUL := Lib.hid hu
  have HVL := Lib.hid hv
  have HIH := Lib.hid IH
  have HO := Lib.hid hO
  have hbn : b ≤ n := by omega
  have hma : (m : Int) - (a : Int) = (u : Int) := by omega
  have hmaw : IntKind.i64.wrap ((m : Int) - (a : Int)) = (u : Int) := by rw [hma]; exact IntWalk.i64_in _ (by omega)
  have hu1 : ((u : Int) == 1) = false := by simp; omega
  have hu1' : ¬ u = 1 := by omega
  have hbm : (b : Int) - (m : Int) = (v : Int) := by omega
  have hbmw : IntKind.i64.wrap ((b : Int) - (m : Int)) = (v : Int) := by rw [hbm]; exact IntWalk.i64_in _ (by omega)
  have hv1 : ((v : Int) == 1) = false := by simp; omega
  have hv1' : ¬ v = 1 := by omega
  have hmidx : ((a : Int) + (b : Int)) / 2 = (mid : Int) := by omega
  have hmid2 : (a + b) / 2 = mid := hmid.symm
  have hnnx : (mid : Int) + (m : Int) = (nn : Int) := by omega
  have hnnw : IntKind.i64.wrap ((mid : Int) + (m : Int)) = (nn : Int) := by rw [hnnx]; exact IntWalk.i64_in _ (by omega)
  have hppx : (nn : Int) - 1 = (pq : Int) := by omega
  have hppw : IntKind.i64.wrap ((nn : Int) - 1) = (pq : Int) := by rw [hppx]; exact IntWalk.i64_in _ (by omega)
  have HW := Lib.hid (show m > mid → s0 + b = nn ∧ r0 = mid from fun h => by rw [if_pos h] at hs0 hr0; exact ⟨by omega, hr0⟩)
  have HW2 := Lib.hid (show ¬ m > mid → s0 = a ∧ r0 = m from fun h => by rw [if_neg h] at hs0 hr0; exact ⟨hs0, hr0⟩)
  have HNN := Lib.hid hnn
  have HPP := Lib.hid hpp
  have HM := Lib.hid hm
  have hmid9 : mid ≤ 1000000 := by omega
  have hm9 : m ≤ 1000000 := by omega
  have ha9 : a ≤ 1000000 := by omega
  have hnn9 : nn ≤ 2000000 := by omega
  have ham : a < mid := by omega
  have hmb : mid < b := by omega
  have hbN2 : b ≤ a + N + 1 := by omega
  have hb0 : a < m := by omega
  have hb1 : m < b := by omega
  clear ha hu hv hu2 hv2 hm hb hbN hn hU hV hO hmid hnn hpp hs0 hr0 hm' hb' IH
  go_enter Try.func54, Try.ntmps54
  go_upto_if 140 with fail
  go_cut [20, 21] from 141 (fun s t wx => s = .int .i64 (s0 : Int) ∧ t = .int .i64 (r0 : Int) ∧ wx = w)
  case first =>
    by_cases hgt : m > mid
    · obtain ⟨y1, y2⟩ := HW.out hgt
      have t1 : decide ((m : Int) > (mid : Int)) = true := decide_eq_true (by omega)
      have hy1 : (nn : Int) - (b : Int) = (s0 : Int) := by omega
      have hy1w : IntKind.i64.wrap ((nn : Int) - (b : Int)) = (s0 : Int) := by rw [hy1]; exact IntWalk.i64_in _ (by omega)
      have HY2 := Lib.hid y2
      clear y1 y2
      go_wp2_with fail
      go_meet
      exact ⟨rfl, by rw [HY2.out], rfl⟩
    · obtain ⟨y1, y2⟩ := HW2.out hgt
      have t1 : decide ((m : Int) > (mid : Int)) = false := decide_eq_false (by omega)
      have HY := Lib.hid (And.intro y1 y2)
      clear y1 y2
      go_wp2_with fail
      go_meet
      exact ⟨by rw [HY.out.1], by rw [HY.out.2], rfl⟩
  case rest =>
    obtain ⟨rfl, rfl, rfl⟩ := hcut
    go_wp2_with fail
    go_loopw [20, 21] (fun s t wr => ∃ i j : Nat, s = .int .i64 i ∧ t = .int .i64 j ∧ s0 ≤ i ∧ i ≤ j ∧ j ≤ r0 ∧ Hid ((∀ c, s0 ≤ c → c < i → qA (P ++ (U ++ (V ++ S))) pq c = false) ∧ (∀ c, j ≤ c → c < r0 → qA (P ++ (U ++ (V ++ S))) pq c = true)) ∧ Hid (Below wc.heap.size wc wr)) (fun s t _ => (intOf t).toNat - (intOf s).toNat)
    case atStart => exact ⟨s0, r0, rfl, rfl, by omega, by omega, by omega, ⟨fun c h1 h2 => by omega, fun c h1 h2 => by omega⟩, Below.refl _ _⟩
    case round =>
      obtain ⟨i, j, rfl, rfl, hi0, hij, hj0, HP, HB⟩ := hrel
      by_cases hlt : i < j
      · obtain ⟨h, hh⟩ : ∃ h, h = (i + j) / 2 := ⟨_, rfl⟩
        have hhx : ((i : Int) + (j : Int)) / 2 = (h : Int) := by omega
        have hhd2 : (i + j) / 2 = h := hh.symm
        have hh1 : i ≤ h := by omega
        have hh2 : h < j := by omega
        obtain ⟨d, hd⟩ : ∃ d, d = pq - h := ⟨_, rfl⟩
        have hdm : m ≤ d := by have := HNN.out; have := HPP.out; omega
        have hdb : d < b := by have := HNN.out; have := HPP.out; omega
        have hdx : (pq : Int) - (h : Int) = (d : Int) := by omega
        have hdw : IntKind.i64.wrap ((pq : Int) - (h : Int)) = (d : Int) := by rw [hdx]; exact IntWalk.i64_in _ (by omega)
        obtain ⟨x, hx⟩ : ∃ x, (P ++ (U ++ (V ++ S)))[h]? = some x := ⟨_, List.getElem?_eq_getElem (by rw [← HNL.out]; omega)⟩
        obtain ⟨y, hy⟩ : ∃ y, (P ++ (U ++ (V ++ S)))[d]? = some y := ⟨_, List.getElem?_eq_getElem (by rw [← HNL.out]; omega)⟩
        have HQ := Lib.hid (show qA (P ++ (U ++ (V ++ S))) pq h = ltK y x from qA_is (by rw [← hd]; exact hy) hx)
        have HO1 := Lib.hid (HO.out.below HB.out)
        have hln := HNL.out
        have hdn' : d < n := by omega
        have hhn' : h < n := by omega
        have hh0 : (0 : Int) ≤ (h : Int) := by omega
        have hhn : (h : Int) < (n : Int) := by omega
        have hhd : decide ((h : Int) < 0) = false := decide_eq_false (by omega)
        have hhw2 : IntKind.i64.wrap (h : Int) = (h : Int) := IntWalk.i64_in _ (by omega)
        have hd0 : (0 : Int) ≤ (d : Int) := by omega
        have hdn : (d : Int) < (n : Int) := by omega
        have hdd : decide ((d : Int) < 0) = false := decide_eq_false (by omega)
        have hdw2 : IntKind.i64.wrap (d : Int) = (d : Int) := IntWalk.i64_in _ (by omega)
        obtain ⟨K, r, c1, rk, pp, dd, BB, hI⟩ : ∃ K r c k p d B, IsI y K r c k p d B := ⟨_, _, _, _, _, _, _, IsI.mk' y⟩
        obtain ⟨K', r', c', rk', pp', dd', BB', hI'⟩ : ∃ K r c k p d B, IsI x K r c k p d B := ⟨_, _, _, _, _, _, _, IsI.mk' x⟩
        obtain ⟨p0, p1, p2, p3, p4, p5, p6⟩ := own_it HO1.out hln hy hI
        obtain ⟨q0, q1, q2, q3, q4, q5, q6⟩ := own_it HO1.out hln hx hI'
        obtain ⟨z, hz, hzl, -⟩ := cmp_testK y.key x.key
        obtain ⟨t, ht⟩ : ∃ t, ltB y.key x.key = t := ⟨_, rfl⟩
        rw [ht] at hzl
        have CB := Lib.hid (fun (L : List (Addr × Value)) => fun (W : World) (hC : CellL wr L W) => (itm_byKey y x K r c1 rk pp dd BB hI K' r' c' rk' pp' dd' BB' hI' z hz W).mono fun (e' : Ending) (W' : World) ⟨h1, h2⟩ => (⟨h1, cellL_call h2 hC⟩ : e' = Ending.returned (.int .i64 z) ∧ CellL wr L W'))
        have HC := Lib.hid (show CellL wr [(⟨g, d * 7, none⟩, .string K), (⟨g, d * 7 + 1, none⟩, .int .i64 r), (⟨g, d * 7 + 2, none⟩, .int .i64 c1), (⟨g, d * 7 + 3, none⟩, .int .i64 rk), (⟨g, d * 7 + 4, none⟩, .int .i64 pp), (⟨g, d * 7 + 5, none⟩, .bool dd), (⟨g, d * 7 + 6, none⟩, .string BB), (⟨g, h * 7, none⟩, .string K'), (⟨g, h * 7 + 1, none⟩, .int .i64 r'), (⟨g, h * 7 + 2, none⟩, .int .i64 c'), (⟨g, h * 7 + 3, none⟩, .int .i64 rk'), (⟨g, h * 7 + 4, none⟩, .int .i64 pp'), (⟨g, h * 7 + 5, none⟩, .bool dd'), (⟨g, h * 7 + 6, none⟩, .string BB')] wr from ⟨p0, p1, p2, p3, p4, p5, p6, q0, q1, q2, q3, q4, q5, q6, Below.refl _ _⟩)
        have HT := Lib.hid ht
        clear hh hd hx hy hln hI hI' hz ht p0 p1 p2 p3 p4 p5 p6 q0 q1 q2 q3 q4 q5 q6 hdx
        go_wp2_with fail
        refine q_region (CellL wr [(⟨g, d * 7, none⟩, .string K), (⟨g, d * 7 + 1, none⟩, .int .i64 r), (⟨g, d * 7 + 2, none⟩, .int .i64 c1), (⟨g, d * 7 + 3, none⟩, .int .i64 rk), (⟨g, d * 7 + 4, none⟩, .int .i64 pp), (⟨g, d * 7 + 5, none⟩, .bool dd), (⟨g, d * 7 + 6, none⟩, .string BB), (⟨g, h * 7, none⟩, .string K'), (⟨g, h * 7 + 1, none⟩, .int .i64 r'), (⟨g, h * 7 + 2, none⟩, .int .i64 c'), (⟨g, h * 7 + 3, none⟩, .int .i64 rk'), (⟨g, h * 7 + 4, none⟩, .int .i64 pp'), (⟨g, h * 7 + 5, none⟩, .bool dd'), (⟨g, h * 7 + 6, none⟩, .string BB')]) (by kernel_rfl) (by kernel_rfl) (cellL_drew HC.out) ?_
        repeat (first
          | go_big_quiet_skip
          | (go_big_quiet_want; (first
            | (refine q_take (v := ?_) ?_ ?_; rotate_left; (focus (intro w hSw; (try simp only [CellL] at hSw); go_split_ands; go_simp; (try (rw [if_neg (by omega)])); (try with_reducible rfl); done)))
            | (refine q_call (CB.out _) ?_ ?_; (focus (intro w hSw; (try simp only [CellL] at hSw); go_split_ands; go_simp; (try (rw [if_neg (by omega)])); done)))); (try simp only [Act.put, List.setIfInBounds_toArray, List.set_cons_zero, List.set_cons_succ]); go_big_quiet_on))
        refine wpQuiet_nil ?_
        intro w2 hw2
        have hb2 := cellL_size hw2
        have HB2 := Lib.hid (HB.out.trans (hb2.mono HB.out.size))
        clear hw2 hb2
        cases t
        · have HP2 := Lib.hid (show (∀ c, s0 ≤ c → c < h + 1 → qA (P ++ (U ++ (V ++ S))) pq c = false) ∧ (∀ c, j ≤ c → c < r0 → qA (P ++ (U ++ (V ++ S))) pq c = true) from ⟨(fun c h1 h2 => by
            cases hc : qA (P ++ (U ++ (V ++ S))) pq c
            · rfl
            · have := HMO.out c h h1 (by omega) (by omega) hc
              rw [HQ.out, show ltK y x = false from HT.out] at this; cases this), HP.out.2⟩)
          go_wp2_with fail
          go_roundw
          case rel => exact ⟨h + 1, j, by go_num, rfl, by omega, by omega, by omega, HP2, HB2⟩
          case measure => simp [intOf]; omega
        · have HP2 := Lib.hid (show (∀ c, s0 ≤ c → c < i → qA (P ++ (U ++ (V ++ S))) pq c = false) ∧ (∀ c, h ≤ c → c < r0 → qA (P ++ (U ++ (V ++ S))) pq c = true) from ⟨HP.out.1, fun c h1 h2 => HMO.out h c (by omega) h1 h2 (by rw [HQ.out]; exact HT.out)⟩)
          go_wp2_with fail
          go_roundw
          case rel => exact ⟨i, h, rfl, by go_num, by omega, by omega, by omega, HP2, HB2⟩
          case measure => simp [intOf]; omega
      · obtain rfl : i = j := by omega
        obtain ⟨en, hen⟩ : ∃ en, i + en = nn := ⟨nn - i, by have := HNN.out; omega⟩
        have HC := Lib.hid (HALL.out i en hi0 hj0 hen HP.out.1 HP.out.2)
        have henx : (nn : Int) - (i : Int) = (en : Int) := by omega
        have henw : IntKind.i64.wrap ((nn : Int) - (i : Int)) = (en : Int) := by rw [henx]; exact IntWalk.i64_in _ (by omega)
        have hen1 : m ≤ en := by have := HNN.out; omega
        have hen2 : en ≤ b := by omega
        have henw2 : IntKind.i64.wrap (en : Int) = (en : Int) := IntWalk.i64_in _ (by omega)
        have hen9 : en ≤ 1000000 := by omega
        have him : i ≤ m := by omega
        have hia : a ≤ i := by omega
        have himid : i ≤ mid := by omega
        have hmen : mid ≤ en := by have := HNN.out; omega
        have heq : i + en = mid + m := by have := HNN.out; omega
        obtain ⟨l1, l2, l3, l4⟩ := HLEN.out i en hia him hen1 hen2
        obtain ⟨U1, hU1⟩ : ∃ U1, U.take (i - a) = U1 := ⟨_, rfl⟩
        obtain ⟨U2, hU2⟩ : ∃ U2, U.drop (i - a) = U2 := ⟨_, rfl⟩
        obtain ⟨V1, hV1⟩ : ∃ V1, V.take (en - m) = V1 := ⟨_, rfl⟩
        obtain ⟨V2, hV2⟩ : ∃ V2, V.drop (en - m) = V2 := ⟨_, rfl⟩
        have HJ2 := Lib.hid (fun (p q : List Itm) => HJ.out i en p q HC.out)
        have hEU := HEU.out (i - a)
        have hEV := HEV.out (en - m)
        rw [hU1, hU2] at hEU
        rw [hV1, hV2] at hEV
        rw [hU1, hV1, hU2, hV2] at HJ2
        rw [hU1] at l1
        rw [hU2] at l2
        rw [hV1] at l3
        rw [hV2] at l4
        have hSU := HSU.out
        have hSV := HSV.out
        rw [← hEU] at hSU
        rw [← hEV] at hSV
        have sU1 := (SortS.append.1 hSU).1
        have sU2 := (SortS.append.1 hSU).2.1
        have sV1 := (SortS.append.1 hSV).1
        have sV2 := (SortS.append.1 hSV).2.1
        have HL0 := Lib.hid (show (P ++ (U ++ (V ++ S))) = (P ++ U1) ++ (U2 ++ (V1 ++ (V2 ++ S))) by rw [← hEU, ← hEV]; simp)
        have HO1 := Lib.hid (show kItm.Own wr base (rowV g n c) ((P ++ U1) ++ (U2 ++ (V1 ++ (V2 ++ S)))) from by rw [← HL0.out]; exact HO.out.below HB.out)
        have HB1 := Lib.hid (HB.out.mono hbw)
        have hPA := HPA.out
        have hNB := HNB.out
        have HR := Lib.hid (fun (h1 : i < m) (h2 : m < en) (W : World) (h : kItm.Own W base (rowV g n c) ((P ++ U1) ++ (U2 ++ (V1 ++ (V2 ++ S))))) => itm_rotate base g n c i m en (P ++ U1) U2 V1 (V2 ++ S) (by rw [List.length_append]; omega) (by rw [List.length_append]; omega) (by rw [List.length_append]; omega) (by omega) (by omega) (by rw [List.length_append, List.length_append]; omega) hn9 W h)
        have HL := Lib.hid (fun (h1 : a < i) (h2 : i < mid) (W : World) (hw : base ≤ W.heap.size) (h : kItm.Own W base (rowV g n c) (P ++ (U1 ++ (V1 ++ (U2 ++ (V2 ++ S)))))) => HIH.out base g n c a i mid P U1 V1 (U2 ++ (V2 ++ S)) hPA (by omega) (by omega) (by omega) (by omega) (by omega) (by rw [List.length_append, List.length_append]; omega) hn9 sU1 sV1 W hw h)
        have HRT := Lib.hid (fun (h1 : mid < en) (h2 : en < b) (W1 : List Itm) (hl : W1.length = U1.length + V1.length) (W : World) (hw : base ≤ W.heap.size) (h : kItm.Own W base (rowV g n c) ((P ++ W1) ++ (U2 ++ (V2 ++ S)))) => HIH.out base g n c mid en b (P ++ W1) U2 V2 S (by rw [List.length_append]; omega) (by omega) (by omega) (by omega) (by omega) (by omega) (by rw [List.length_append]; omega) hn9 sU2 sV2 W hw h)
        have HE1 := Lib.hid (show ¬ (i < m ∧ m < en) → (P ++ U1) ++ (U2 ++ (V1 ++ (V2 ++ S))) = P ++ (U1 ++ (V1 ++ (U2 ++ (V2 ++ S)))) from fun h => by
          by_cases h1 : i < m
          · have : V1 = [] := List.length_eq_zero_iff.1 (by omega)
            rw [this]; simp
          · have : U2 = [] := List.length_eq_zero_iff.1 (by omega)
            rw [this]; simp)
        have HE2 := Lib.hid (show ¬ (a < i ∧ i < mid) → DoneS ltK (U1 ++ V1) (U1 ++ V1) from fun h => by
          by_cases h1 : a < i
          · have : V1 = [] := List.length_eq_zero_iff.1 (by omega)
            rw [this, List.append_nil]; exact DoneS.refl sU1
          · have : U1 = [] := List.length_eq_zero_iff.1 (by omega)
            rw [this, List.nil_append]; exact DoneS.refl sV1)
        have HE3 := Lib.hid (show ¬ (mid < en ∧ en < b) → DoneS ltK (U2 ++ V2) (U2 ++ V2) from fun h => by
          by_cases h1 : mid < en
          · have : V2 = [] := List.length_eq_zero_iff.1 (by omega)
            rw [this, List.append_nil]; exact DoneS.refl sU2
          · have : U2 = [] := List.length_eq_zero_iff.1 (by omega)
            rw [this, List.nil_append]; exact DoneS.refl sV2)
        have HLU := Lib.hid (show (U1 ++ V1).length = U1.length + V1.length from List.length_append)
        clear HALL HMO HGL HGR HJ HLEN HNL HSU HSV HEU HEV HPA HUL HVL HO HP HB HC HW HW2 HNN HPP HM HIH HL0 HNB hen l1 l2 l3 l4 hU1 hU2 hV1 hV2 hEU hEV hSU hSV sU1 sU2 sV1 sV2 hPA hNB hma hmaw hu1 hu1' hbm hbmw hv1 hv1' hmidx hmid2 hnnx hnnw hppx hppw hmid9 hm9 ha9 hnn9 hbN2 hn9 hlt hij x1 x2 x5 x6 x7
        by_cases k1 : i < m
        · by_cases k2 : m < en
          · by_cases k3 : a < i
            · by_cases k6 : en < b
              · have d1 : decide ((i : Int) < (m : Int)) = true := decide_eq_true (by omega)
                have d1' : decide (i < m) = true := decide_eq_true (by omega)
                have d2 : decide ((m : Int) < (en : Int)) = true := decide_eq_true (by omega)
                have d2' : decide (m < en) = true := decide_eq_true (by omega)
                have d3 : decide ((a : Int) < (i : Int)) = true := decide_eq_true (by omega)
                have d3' : decide (a < i) = true := decide_eq_true (by omega)
                have d4 : decide ((i : Int) < (mid : Int)) = true := decide_eq_true (by omega)
                have d4' : decide (i < mid) = true := decide_eq_true (by omega)
                have d5 : decide ((mid : Int) < (en : Int)) = true := decide_eq_true (by omega)
                have d5' : decide (mid < en) = true := decide_eq_true (by omega)
                have d6 : decide ((en : Int) < (b : Int)) = true := decide_eq_true (by omega)
                have d6' : decide (en < b) = true := decide_eq_true (by omega)
                have HR1 := Lib.hid (HR.out (by omega) (by omega) wr HO1.out)
                have HL1 := Lib.hid (HL.out (by omega) (by omega))
                have HRT1 := Lib.hid (HRT.out (by omega) (by omega))
                clear him hia himid hmen heq hen1 hen2 ham hmb hb0 hb1 hbn x3 x4 hi0 hj0 HR HL HRT HE1 HE2 HE3
                go_wp2_with (first
                  | ((with_reducible refine HR1.out.mono ?_); rintro e w3 ⟨rfl, ho, hq⟩; have HO2 := Lib.hid (by rw [List.append_assoc] at ho; exact ho); have HB2 := Lib.hid (HB1.out.trans hq); clear ho hq)
                  | ((with_reducible refine (HL1.out _ (Nat.le_trans hbw HB2.out.size) HO2.out).mono ?_); rintro e w4 ⟨rfl, W1, hd, ho, hq⟩; have HD1 := Lib.hid hd; have HO3 := Lib.hid (show kItm.Own w4 base (rowV g n c) ((P ++ W1) ++ (U2 ++ (V2 ++ S))) from (by rw [List.append_assoc]; exact ho)); have HB3 := Lib.hid (HB2.out.trans hq); have HX1 := Lib.hid (hd.len.trans HLU.out); clear hd ho hq)
                  | ((with_reducible refine (HRT1.out _ HX1.out _ (Nat.le_trans hbw HB3.out.size) HO3.out).mono ?_); rintro e w5 ⟨rfl, W2, hd, ho, hq⟩; have HD2 := Lib.hid hd; have HO4 := Lib.hid ho; have HB4 := Lib.hid (HB3.out.trans hq); clear hd ho hq))
                first | go_end0 | refine bodyPost_ret (results_none rfl _ _ _) rfl ?_
                exact ⟨rfl, _, HJ2.out _ _ HD1.out HD2.out, by have h := HO4.out; simpa using h, HB4.out⟩
              · have d1 : decide ((i : Int) < (m : Int)) = true := decide_eq_true (by omega)
                have d1' : decide (i < m) = true := decide_eq_true (by omega)
                have d2 : decide ((m : Int) < (en : Int)) = true := decide_eq_true (by omega)
                have d2' : decide (m < en) = true := decide_eq_true (by omega)
                have d3 : decide ((a : Int) < (i : Int)) = true := decide_eq_true (by omega)
                have d3' : decide (a < i) = true := decide_eq_true (by omega)
                have d4 : decide ((i : Int) < (mid : Int)) = true := decide_eq_true (by omega)
                have d4' : decide (i < mid) = true := decide_eq_true (by omega)
                have d5 : decide ((mid : Int) < (en : Int)) = true := decide_eq_true (by omega)
                have d5' : decide (mid < en) = true := decide_eq_true (by omega)
                have d6 : decide ((en : Int) < (b : Int)) = false := decide_eq_false (by omega)
                have d6' : decide (en < b) = false := decide_eq_false (by omega)
                have HR1 := Lib.hid (HR.out (by omega) (by omega) wr HO1.out)
                have HL1 := Lib.hid (HL.out (by omega) (by omega))
                have HD2 := Lib.hid (HE3.out (by omega))
                clear him hia himid hmen heq hen1 hen2 ham hmb hb0 hb1 hbn x3 x4 hi0 hj0 HR HL HRT HE1 HE2 HE3
                go_wp2_with (first
                  | ((with_reducible refine HR1.out.mono ?_); rintro e w3 ⟨rfl, ho, hq⟩; have HO2 := Lib.hid (by rw [List.append_assoc] at ho; exact ho); have HB2 := Lib.hid (HB1.out.trans hq); clear ho hq)
                  | ((with_reducible refine (HL1.out _ (Nat.le_trans hbw HB2.out.size) HO2.out).mono ?_); rintro e w4 ⟨rfl, W1, hd, ho, hq⟩; have HD1 := Lib.hid hd; have HO3 := Lib.hid (show kItm.Own w4 base (rowV g n c) ((P ++ W1) ++ (U2 ++ (V2 ++ S))) from (by rw [List.append_assoc]; exact ho)); have HB3 := Lib.hid (HB2.out.trans hq); have HX1 := Lib.hid (hd.len.trans HLU.out); clear hd ho hq))
                first | go_end0 | refine bodyPost_ret (results_none rfl _ _ _) rfl ?_
                have HO4 := HO3
                have HB4 := HB3
                exact ⟨rfl, _, HJ2.out _ _ HD1.out HD2.out, by have h := HO4.out; simpa using h, HB4.out⟩
            · by_cases k6 : en < b
              · have d1 : decide ((i : Int) < (m : Int)) = true := decide_eq_true (by omega)
                have d1' : decide (i < m) = true := decide_eq_true (by omega)
                have d2 : decide ((m : Int) < (en : Int)) = true := decide_eq_true (by omega)
                have d2' : decide (m < en) = true := decide_eq_true (by omega)
                have d3 : decide ((a : Int) < (i : Int)) = false := decide_eq_false (by omega)
                have d3' : decide (a < i) = false := decide_eq_false (by omega)
                have d4 : decide ((i : Int) < (mid : Int)) = true := decide_eq_true (by omega)
                have d4' : decide (i < mid) = true := decide_eq_true (by omega)
                have d5 : decide ((mid : Int) < (en : Int)) = true := decide_eq_true (by omega)
                have d5' : decide (mid < en) = true := decide_eq_true (by omega)
                have d6 : decide ((en : Int) < (b : Int)) = true := decide_eq_true (by omega)
                have d6' : decide (en < b) = true := decide_eq_true (by omega)
                have HR1 := Lib.hid (HR.out (by omega) (by omega) wr HO1.out)
                have HRT1 := Lib.hid (HRT.out (by omega) (by omega))
                have HD1 := Lib.hid (HE2.out (by omega))
                clear him hia himid hmen heq hen1 hen2 ham hmb hb0 hb1 hbn x3 x4 hi0 hj0 HR HL HRT HE1 HE2 HE3
                go_wp2_with (first
                  | ((with_reducible refine HR1.out.mono ?_); rintro e w3 ⟨rfl, ho, hq⟩; have HO2 := Lib.hid (by rw [List.append_assoc] at ho; exact ho); have HB2 := Lib.hid (HB1.out.trans hq); clear ho hq; have HO3 := Lib.hid (show kItm.Own w3 base (rowV g n c) ((P ++ (U1 ++ V1)) ++ (U2 ++ (V2 ++ S))) from (by simpa using HO2.out)); have HB3 := HB2; have HX1 := HLU)
                  | ((with_reducible refine (HRT1.out _ HX1.out _ (Nat.le_trans hbw HB3.out.size) HO3.out).mono ?_); rintro e w5 ⟨rfl, W2, hd, ho, hq⟩; have HD2 := Lib.hid hd; have HO4 := Lib.hid ho; have HB4 := Lib.hid (HB3.out.trans hq); clear hd ho hq))
                first | go_end0 | refine bodyPost_ret (results_none rfl _ _ _) rfl ?_
                exact ⟨rfl, _, HJ2.out _ _ HD1.out HD2.out, by have h := HO4.out; simpa using h, HB4.out⟩
              · have d1 : decide ((i : Int) < (m : Int)) = true := decide_eq_true (by omega)
                have d1' : decide (i < m) = true := decide_eq_true (by omega)
                have d2 : decide ((m : Int) < (en : Int)) = true := decide_eq_true (by omega)
                have d2' : decide (m < en) = true := decide_eq_true (by omega)
                have d3 : decide ((a : Int) < (i : Int)) = false := decide_eq_false (by omega)
                have d3' : decide (a < i) = false := decide_eq_false (by omega)
                have d4 : decide ((i : Int) < (mid : Int)) = true := decide_eq_true (by omega)
                have d4' : decide (i < mid) = true := decide_eq_true (by omega)
                have d5 : decide ((mid : Int) < (en : Int)) = true := decide_eq_true (by omega)
                have d5' : decide (mid < en) = true := decide_eq_true (by omega)
                have d6 : decide ((en : Int) < (b : Int)) = false := decide_eq_false (by omega)
                have d6' : decide (en < b) = false := decide_eq_false (by omega)
                have HR1 := Lib.hid (HR.out (by omega) (by omega) wr HO1.out)
                have HD1 := Lib.hid (HE2.out (by omega))
                have HD2 := Lib.hid (HE3.out (by omega))
                clear him hia himid hmen heq hen1 hen2 ham hmb hb0 hb1 hbn x3 x4 hi0 hj0 HR HL HRT HE1 HE2 HE3
                go_wp2_with (first
                  | ((with_reducible refine HR1.out.mono ?_); rintro e w3 ⟨rfl, ho, hq⟩; have HO2 := Lib.hid (by rw [List.append_assoc] at ho; exact ho); have HB2 := Lib.hid (HB1.out.trans hq); clear ho hq; have HO3 := Lib.hid (show kItm.Own w3 base (rowV g n c) ((P ++ (U1 ++ V1)) ++ (U2 ++ (V2 ++ S))) from (by simpa using HO2.out)); have HB3 := HB2; have HX1 := HLU))
                first | go_end0 | refine bodyPost_ret (results_none rfl _ _ _) rfl ?_
                have HO4 := HO3
                have HB4 := HB3
                exact ⟨rfl, _, HJ2.out _ _ HD1.out HD2.out, by have h := HO4.out; simpa using h, HB4.out⟩
          · have d1 : decide ((i : Int) < (m : Int)) = true := decide_eq_true (by omega)
            have d1' : decide (i < m) = true := decide_eq_true (by omega)
            have d2 : decide ((m : Int) < (en : Int)) = false := decide_eq_false (by omega)
            have d2' : decide (m < en) = false := decide_eq_false (by omega)
            have d3 : decide ((a : Int) < (i : Int)) = true := decide_eq_true (by omega)
            have d3' : decide (a < i) = true := decide_eq_true (by omega)
            have d4 : decide ((i : Int) < (mid : Int)) = false := decide_eq_false (by omega)
            have d4' : decide (i < mid) = false := decide_eq_false (by omega)
            have d5 : decide ((mid : Int) < (en : Int)) = true := decide_eq_true (by omega)
            have d5' : decide (mid < en) = true := decide_eq_true (by omega)
            have d6 : decide ((en : Int) < (b : Int)) = true := decide_eq_true (by omega)
            have d6' : decide (en < b) = true := decide_eq_true (by omega)
            have HO2 := Lib.hid (show kItm.Own wr base (rowV g n c) (P ++ (U1 ++ (V1 ++ (U2 ++ (V2 ++ S))))) from by rw [← HE1.out (by omega)]; exact HO1.out)
            have HB2 := HB1
            have HRT1 := Lib.hid (HRT.out (by omega) (by omega))
            have HD1 := Lib.hid (HE2.out (by omega))
            have HO3 := Lib.hid (show kItm.Own wr base (rowV g n c) ((P ++ (U1 ++ V1)) ++ (U2 ++ (V2 ++ S))) from (by simpa using HO2.out))
            have HB3 := HB2
            have HX1 := HLU
            clear him hia himid hmen heq hen1 hen2 ham hmb hb0 hb1 hbn x3 x4 hi0 hj0 HR HL HRT HE1 HE2 HE3
            go_wp2_with (first
              | ((with_reducible refine (HRT1.out _ HX1.out _ (Nat.le_trans hbw HB3.out.size) HO3.out).mono ?_); rintro e w5 ⟨rfl, W2, hd, ho, hq⟩; have HD2 := Lib.hid hd; have HO4 := Lib.hid ho; have HB4 := Lib.hid (HB3.out.trans hq); clear hd ho hq))
            first | go_end0 | refine bodyPost_ret (results_none rfl _ _ _) rfl ?_
            exact ⟨rfl, _, HJ2.out _ _ HD1.out HD2.out, by have h := HO4.out; simpa using h, HB4.out⟩
        · by_cases k4 : i < mid
          · have d1 : decide ((i : Int) < (m : Int)) = false := decide_eq_false (by omega)
            have d1' : decide (i < m) = false := decide_eq_false (by omega)
            have d2 : decide ((m : Int) < (en : Int)) = true := decide_eq_true (by omega)
            have d2' : decide (m < en) = true := decide_eq_true (by omega)
            have d3 : decide ((a : Int) < (i : Int)) = true := decide_eq_true (by omega)
            have d3' : decide (a < i) = true := decide_eq_true (by omega)
            have d4 : decide ((i : Int) < (mid : Int)) = true := decide_eq_true (by omega)
            have d4' : decide (i < mid) = true := decide_eq_true (by omega)
            have d5 : decide ((mid : Int) < (en : Int)) = false := decide_eq_false (by omega)
            have d5' : decide (mid < en) = false := decide_eq_false (by omega)
            have d6 : decide ((en : Int) < (b : Int)) = true := decide_eq_true (by omega)
            have d6' : decide (en < b) = true := decide_eq_true (by omega)
            have HO2 := Lib.hid (show kItm.Own wr base (rowV g n c) (P ++ (U1 ++ (V1 ++ (U2 ++ (V2 ++ S))))) from by rw [← HE1.out (by omega)]; exact HO1.out)
            have HB2 := HB1
            have HL1 := Lib.hid (HL.out (by omega) (by omega))
            have HD2 := Lib.hid (HE3.out (by omega))
            clear him hia himid hmen heq hen1 hen2 ham hmb hb0 hb1 hbn x3 x4 hi0 hj0 HR HL HRT HE1 HE2 HE3
            go_wp2_with (first
              | ((with_reducible refine (HL1.out _ (Nat.le_trans hbw HB2.out.size) HO2.out).mono ?_); rintro e w4 ⟨rfl, W1, hd, ho, hq⟩; have HD1 := Lib.hid hd; have HO3 := Lib.hid (show kItm.Own w4 base (rowV g n c) ((P ++ W1) ++ (U2 ++ (V2 ++ S))) from (by rw [List.append_assoc]; exact ho)); have HB3 := Lib.hid (HB2.out.trans hq); have HX1 := Lib.hid (hd.len.trans HLU.out); clear hd ho hq))
            first | go_end0 | refine bodyPost_ret (results_none rfl _ _ _) rfl ?_
            have HO4 := HO3
            have HB4 := HB3
            exact ⟨rfl, _, HJ2.out _ _ HD1.out HD2.out, by have h := HO4.out; simpa using h, HB4.out⟩
          · have d1 : decide ((i : Int) < (m : Int)) = false := decide_eq_false (by omega)
            have d1' : decide (i < m) = false := decide_eq_false (by omega)
            have d2 : decide ((m : Int) < (en : Int)) = false := decide_eq_false (by omega)
            have d2' : decide (m < en) = false := decide_eq_false (by omega)
            have d3 : decide ((a : Int) < (i : Int)) = true := decide_eq_true (by omega)
            have d3' : decide (a < i) = true := decide_eq_true (by omega)
            have d4 : decide ((i : Int) < (mid : Int)) = false := decide_eq_false (by omega)
            have d4' : decide (i < mid) = false := decide_eq_false (by omega)
            have d5 : decide ((mid : Int) < (en : Int)) = false := decide_eq_false (by omega)
            have d5' : decide (mid < en) = false := decide_eq_false (by omega)
            have d6 : decide ((en : Int) < (b : Int)) = true := decide_eq_true (by omega)
            have d6' : decide (en < b) = true := decide_eq_true (by omega)
            have HO2 := Lib.hid (show kItm.Own wr base (rowV g n c) (P ++ (U1 ++ (V1 ++ (U2 ++ (V2 ++ S))))) from by rw [← HE1.out (by omega)]; exact HO1.out)
            have HB2 := HB1
            have HD1 := Lib.hid (HE2.out (by omega))
            have HO3 := Lib.hid (show kItm.Own wr base (rowV g n c) ((P ++ (U1 ++ V1)) ++ (U2 ++ (V2 ++ S))) from (by simpa using HO2.out))
            have HB3 := HB2
            have HX1 := HLU
            have HD2 := Lib.hid (HE3.out (by omega))
            clear him hia himid hmen heq hen1 hen2 ham hmb hb0 hb1 hbn x3 x4 hi0 hj0 HR HL HRT HE1 HE2 HE3
            go_wp2_with fail
            first | go_end0 | refine bodyPost_ret (results_none rfl _ _ _) rfl ?_
            have HO4 := HO3
            have HB4 := HB3
            exact ⟨rfl, _, HJ2.out _ _ HD1.out HD2.out, by have h := HO4.out; simpa using h, HB4.out⟩
end Go.Proofs.Ytfjaklpddcafdaa

namespace Go.Proofs.Ytfjaklpddcafdaa
open Go.RowKit

theorem sym_all : ∀ N, SymC N
  | 0 => fun base g n c a m b P U V S ha hm hb hu hv hN _ _ _ _ w _ _ => by omega
  | N + 1 => fun base g n c a m b P U V S ha hm hb hu hv hN hn hn9 hU hV w hbw hO => by
    by_cases h1 : U.length = 1
    · obtain ⟨x, rfl⟩ : ∃ x, U = [x] := by
        cases U with
        | nil => cases h1
        | cons x U => exact ⟨x, by rw [List.length_eq_zero_iff.1 (Nat.succ.inj h1)]⟩
      exact sym_one base g n c a m b P V S x ha hm hb hn hn9 hV w hbw hO
    · by_cases h2 : V.length = 1
      · obtain ⟨x, rfl⟩ : ∃ x, V = [x] := by
          cases V with
          | nil => cases h2
          | cons x V => exact ⟨x, by rw [List.length_eq_zero_iff.1 (Nat.succ.inj h2)]⟩
        exact sym_last base g n c a m b U.length P U S x ha rfl (by omega) hm hb (by rw [hn]; simp only [List.length_cons, List.length_nil]; omega) hn9 hU w hbw hO
      · exact sym_gen N (sym_all N) base g n c a m b U.length V.length P U V S ha rfl rfl (by omega) (by omega) hm hb hN hn hn9 hU hV w hbw hO
theorem itm_symMerge (base g n c a m b : Nat) (P U V S : List Itm) (ha : P.length = a) (hm : m = a + U.length) (hb : b = m + V.length) (hu : 0 < U.length) (hv : 0 < V.length) (hn : n = P.length + (U.length + (V.length + S.length))) (hn9 : n ≤ 1000000) (hU : SortS ltK U) (hV : SortS ltK V) (w : World) (hbw : base ≤ w.heap.size)
    (hO : kItm.Own w base (rowV g n c) (P ++ (U ++ (V ++ S)))) :
    Calls Try.prog 54 #[rowV g n c, .int .i64 (a : Int), .int .i64 (m : Int), .int .i64 (b : Int), byKeyV] w fun e w' => e = .returned (.tuple #[]) ∧ ∃ W, DoneS ltK (U ++ V) W ∧ kItm.Own w' base (rowV g n c) (P ++ (W ++ S)) ∧ Below base w w' :=
  sym_all b base g n c a m b P U V S ha hm hb hu hv (by omega) hn hn9 hU hV w hbw hO
def BlkS (bs : Nat) (L : List (List Itm)) : Prop := ∀ x ∈ L, x.length = bs ∧ SortS ltK x
theorem BlkS.more {bs : Nat} {L : List (List Itm)} (h : BlkS bs L) {x : List Itm} (h1 : x.length = bs) (h2 : SortS ltK x) : BlkS bs (L ++ [x]) := fun y hy => by
  rcases List.mem_append.1 hy with hy | hy
  · exact h y hy
  · rw [List.mem_singleton] at hy; rw [hy]; exact ⟨h1, h2⟩
def InB (bs n : Nat) (l : List Itm) (w : World) (base : Nat) (v : Value) : Prop := ∃ (L : List (List Itm)) (W : List Itm), BlkS bs L ∧ SortS ltK W ∧ W.length < bs ∧ (L.flatten ++ W).length = n ∧ StabS ltK l (L.flatten ++ W) ∧ kItm.Own w base v (L.flatten ++ W)
def InD (bs a n : Nat) (l : List Itm) (w : World) (base : Nat) (v : Value) : Prop := ∃ (D L : List (List Itm)) (W : List Itm), BlkS (2 * bs) D ∧ BlkS bs L ∧ SortS ltK W ∧ W.length < bs ∧ D.flatten.length = a ∧ (D.flatten ++ (L.flatten ++ W)).length = n ∧ StabS ltK l (D.flatten ++ (L.flatten ++ W)) ∧ kItm.Own w base v (D.flatten ++ (L.flatten ++ W))
def InR (bs a n : Nat) (l : List Itm) (w : World) (base : Nat) (v : Value) : Prop := ∃ (L : List (List Itm)) (R : List Itm), BlkS bs L ∧ L.flatten.length = a ∧ (L.flatten ++ R).length = n ∧ StabS ltK l (L.flatten ++ R) ∧ kItm.Own w base v (L.flatten ++ R)
theorem InR.start {bs n : Nat} {l : List Itm} {w : World} {base : Nat} {v : Value} (hn : n = l.length) (h : kItm.Own w base v l) : InR bs 0 n l w base v := ⟨[], l, fun x hx => (by cases hx), rfl, hn.symm, StabS.refl l, h⟩
theorem InB.start {bs n : Nat} {l : List Itm} {w : World} {base : Nat} {v : Value} (h : InB bs n l w base v) : InD bs 0 n l w base v := by
  obtain ⟨L, W, h1, h2, h3, h4, h5, h6⟩ := h
  exact ⟨[], L, W, fun x hx => (by cases hx), h1, h2, h3, rfl, h4, h5, h6⟩
theorem InB.done {bs n : Nat} {l : List Itm} {w : World} {base : Nat} {v : Value} (h : InB bs n l w base v) (hn : n ≤ bs) : ∃ m, DoneS ltK l m ∧ kItm.Own w base v m := by
  obtain ⟨L, W, h1, h2, h3, h4, h5, h6⟩ := h
  refine ⟨_, ⟨h5, ?_⟩, h6⟩
  cases L with
  | nil => exact h2
  | cons X L =>
    obtain ⟨k1, k2⟩ := h1 X (List.mem_cons_self ..)
    rw [List.flatten_cons, List.length_append, List.length_append] at h4
    have e1 : L.flatten = [] := List.length_eq_zero_iff.1 (by omega)
    have e2 : W = [] := List.length_eq_zero_iff.1 (by omega)
    rw [List.flatten_cons, e1, e2, List.append_nil, List.append_nil]; exact k2
theorem stab_mid {a b : List Itm} (h : DoneS ltK a b) (p s : List Itm) : StabS ltK (p ++ (a ++ s)) (p ++ (b ++ s)) := (StabS.refl p).append (h.stab.append (StabS.refl s))
theorem InR.next {bs a n : Nat} {l : List Itm} {w : World} {base : Nat} {v : Value} (h : InR bs a n l w base v) (hb : a + bs ≤ n) :
    ∃ P X S, P.length = a ∧ P.length + X.length = a + bs ∧ n = P.length + (X.length + S.length) ∧ kItm.Own w base v (P ++ (X ++ S)) ∧ ∀ W w', DoneS ltK X W → kItm.Own w' base v (P ++ (W ++ S)) → InR bs (a + bs) n l w' base v := by
  obtain ⟨L, R, h1, h2, h3, h4, h5⟩ := h
  rw [List.length_append] at h3
  have e : R.take bs ++ R.drop bs = R := List.take_append_drop bs R
  have l1 : (R.take bs).length = bs := by rw [List.length_take]; omega
  refine ⟨L.flatten, R.take bs, R.drop bs, h2, by omega, by rw [List.length_drop]; omega, by rw [e]; exact h5, fun W w' hd ho => ?_⟩
  refine ⟨L ++ [W], R.drop bs, h1.more (hd.len.trans l1) hd.sort, ?_, ?_, ?_, ?_⟩
  · rw [List.flatten_append, List.length_append, h2]
    simp only [List.flatten_cons, List.flatten_nil, List.append_nil]
    rw [hd.len, l1]
  · rw [List.flatten_append]
    simp only [List.flatten_cons, List.flatten_nil, List.append_nil, List.length_append, List.length_drop]
    rw [hd.len, l1]; omega
  · have := stab_mid hd L.flatten (R.drop bs)
    rw [e] at this
    rw [List.flatten_append]
    simp only [List.flatten_cons, List.flatten_nil, List.append_nil, List.append_assoc]
    exact h4.trans this
  · rw [List.flatten_append]
    simp only [List.flatten_cons, List.flatten_nil, List.append_nil, List.append_assoc]
    exact ho
theorem InR.last {bs a n : Nat} {l : List Itm} {w : World} {base : Nat} {v : Value} (h : InR bs a n l w base v) (hb : n < a + bs) :
    ∃ P X, P.length = a ∧ P.length + X.length = n ∧ kItm.Own w base v (P ++ (X ++ [])) ∧ ∀ W w', DoneS ltK X W → kItm.Own w' base v (P ++ (W ++ [])) → InB bs n l w' base v := by
  obtain ⟨L, R, h1, h2, h3, h4, h5⟩ := h
  rw [List.length_append] at h3
  refine ⟨L.flatten, R, h2, h3, by rw [List.append_nil]; exact h5, fun W w' hd ho => ?_⟩
  rw [List.append_nil] at ho
  have := stab_mid hd L.flatten []
  rw [List.append_nil, List.append_nil] at this
  exact ⟨L, W, h1, hd.sort, by rw [hd.len]; omega, by rw [List.length_append, hd.len]; exact h3, h4.trans this, ho⟩
theorem InD.next {bs a n : Nat} {l : List Itm} {w : World} {base : Nat} {v : Value} (h : InD bs a n l w base v) (hbs : 0 < bs) (hb : a + 2 * bs ≤ n) :
    ∃ P U V S, P.length = a ∧ U.length = bs ∧ V.length = bs ∧ n = P.length + (U.length + (V.length + S.length)) ∧ SortS ltK U ∧ SortS ltK V ∧ kItm.Own w base v (P ++ (U ++ (V ++ S))) ∧ ∀ W w', DoneS ltK (U ++ V) W → kItm.Own w' base v (P ++ (W ++ S)) → InD bs (a + 2 * bs) n l w' base v := by
  obtain ⟨D, L, W, h1, h2, h3, h4, h5, h6, h7, h8⟩ := h
  rw [List.length_append, List.length_append] at h6
  match L, h2, h6, h7, h8 with
  | [], _, h6, _, _ => rw [List.flatten_nil, List.length_nil] at h6; omega
  | [X], h2, h6, _, _ =>
    have := (h2 X (List.mem_cons_self ..)).1
    rw [List.flatten_cons, List.flatten_nil, List.append_nil] at h6; omega
  | X :: Y :: L, h2, h6, h7, h8 =>
    obtain ⟨x1, x2⟩ := h2 X (List.mem_cons_self ..)
    obtain ⟨y1, y2⟩ := h2 Y (List.mem_cons_of_mem _ (List.mem_cons_self ..))
    rw [List.flatten_cons, List.flatten_cons, List.length_append, List.length_append] at h6
    have e : (X :: Y :: L).flatten ++ W = X ++ (Y ++ (L.flatten ++ W)) := by simp
    rw [e] at h7 h8
    refine ⟨D.flatten, X, Y, L.flatten ++ W, h5, x1, y1, by rw [List.length_append]; omega, x2, y2, h8, fun Z w' hd ho => ?_⟩
    have hz : Z.length = 2 * bs := by rw [hd.len, List.length_append]; omega
    refine ⟨D ++ [Z], L, W, h1.more hz hd.sort, fun x hx => h2 x (List.mem_cons_of_mem _ (List.mem_cons_of_mem _ hx)), h3, h4, ?_, ?_, ?_, ?_⟩
    · rw [List.flatten_append, List.length_append, h5]
      simp only [List.flatten_cons, List.flatten_nil, List.append_nil]
      rw [hz]
    · rw [List.flatten_append]
      simp only [List.flatten_cons, List.flatten_nil, List.append_nil, List.length_append]
      omega
    · rw [List.flatten_append]
      simp only [List.flatten_cons, List.flatten_nil, List.append_nil, List.append_assoc]
      have := stab_mid hd D.flatten (L.flatten ++ W)
      rw [List.append_assoc] at this
      exact h7.trans this
    · rw [List.flatten_append]
      simp only [List.flatten_cons, List.flatten_nil, List.append_nil, List.append_assoc]
      exact ho
theorem InD.last {bs a n : Nat} {l : List Itm} {w : World} {base : Nat} {v : Value} (h : InD bs a n l w base v) (hb : n < a + 2 * bs) (hm : a + bs < n) :
    ∃ P U V, P.length = a ∧ U.length = bs ∧ 0 < V.length ∧ n = a + (bs + V.length) ∧ SortS ltK U ∧ SortS ltK V ∧ kItm.Own w base v (P ++ (U ++ (V ++ []))) ∧ ∀ W w', DoneS ltK (U ++ V) W → kItm.Own w' base v (P ++ (W ++ [])) → InB (2 * bs) n l w' base v := by
  obtain ⟨D, L, W, h1, h2, h3, h4, h5, h6, h7, h8⟩ := h
  rw [List.length_append, List.length_append] at h6
  match L, h2, h6, h7, h8 with
  | [], _, h6, _, _ => rw [List.flatten_nil, List.length_nil] at h6; omega
  | X :: Y :: L, h2, h6, _, _ =>
    have x1 := (h2 X (List.mem_cons_self ..)).1
    have y1 := (h2 Y (List.mem_cons_of_mem _ (List.mem_cons_self ..))).1
    rw [List.flatten_cons, List.flatten_cons, List.length_append, List.length_append] at h6
    omega
  | [X], h2, h6, h7, h8 =>
    obtain ⟨x1, x2⟩ := h2 X (List.mem_cons_self ..)
    have e : [X].flatten = X := by simp
    rw [e] at h6 h7 h8
    refine ⟨D.flatten, X, W, h5, x1, by omega, by omega, x2, h3, by rw [List.append_nil]; exact h8, fun Z w' hd ho => ?_⟩
    rw [List.append_nil] at ho
    have hz : Z.length = X.length + W.length := by rw [hd.len, List.length_append]
    have := stab_mid hd D.flatten []
    rw [List.append_nil, List.append_nil] at this
    exact ⟨D, Z, h1, hd.sort, by omega, by rw [List.length_append]; omega, h7.trans this, ho⟩
theorem InD.none {bs a n : Nat} {l : List Itm} {w : World} {base : Nat} {v : Value} (h : InD bs a n l w base v) (hm : n ≤ a + bs) : InB (2 * bs) n l w base v := by
  obtain ⟨D, L, W, h1, h2, h3, h4, h5, h6, h7, h8⟩ := h
  have h6' := h6
  rw [List.length_append, List.length_append] at h6
  refine ⟨D, L.flatten ++ W, h1, ?_, ?_, h6', h7, h8⟩
  · match L, h2, h6 with
    | [], _, _ => exact h3
    | X :: L, h2, h6 =>
      obtain ⟨x1, x2⟩ := h2 X (List.mem_cons_self ..)
      rw [List.flatten_cons, List.length_append] at h6
      have e1 : L.flatten = [] := List.length_eq_zero_iff.1 (by omega)
      have e2 : W = [] := List.length_eq_zero_iff.1 (by omega)
      rw [List.flatten_cons, e1, e2, List.append_nil, List.append_nil]; exact x2
  · rw [List.length_append]; omega
set_option maxRecDepth 100000 in
set_option maxHeartbeats 8000000 in
theorem itm_stable (base g n c : Nat) (l : List Itm) (hn : n = l.length) (hn9 : n ≤ 400000) (w : World) (hbw : base ≤ w.heap.size) (hO : kItm.Own w base (rowV g n c) l) :
    Calls Try.prog 44 #[rowV g n c, .int .i64 (n : Int), byKeyV] w fun e w' => e = .returned (.tuple #[]) ∧ ∃ m, DoneS ltK l m ∧ kItm.Own w' base (rowV g n c) m ∧ Below base w w' := by
  have H0 := Lib.hid (InR.start (bs := 20) hn hO)
  clear hO hn
  go_enter Try.func44, Try.ntmps44
  go_wp2_with fail
  go_loopw [7, 8] (fun s t wr => ∃ a b : Nat, s = .int .i64 a ∧ t = .int .i64 b ∧ b = a + 20 ∧ a ≤ n ∧ Hid (InR 20 a n l wr base (rowV g n c)) ∧ Hid (Below base w wr)) (fun s _ _ => n + 20 - (intOf s).toNat)
  case atStart => exact ⟨0, 20, rfl, rfl, rfl, by omega, H0, Below.refl _ _⟩
  case round =>
    clear H0
    obtain ⟨a, b, rfl, rfl, hab, han, HR, HB⟩ := hrel
    have HAB := Lib.hid hab
    by_cases hlt : b ≤ n
    · obtain ⟨P, X, S, h1, h2, h3, h4, h5⟩ := HR.out.next (by omega)
      have C := Lib.hid (itm_insertion base g n c a b P X S h1 (by omega) h3 (by omega) _ (Nat.le_trans hbw HB.out.size) h4)
      have HN := Lib.hid h5
      clear h1 h2 h3 h4 h5 HR hab
      go_wp2_with ((with_reducible refine C.out.mono ?_); rintro e w2 ⟨rfl, W, hd, ho, hq⟩; have HR2 := Lib.hid (HN.out W _ hd ho); have HB2 := Lib.hid (HB.out.trans hq); clear hd ho hq)
      go_roundw
      case rel => exact ⟨b, b + 20, rfl, by go_num, rfl, hlt, by rw [HAB.out]; exact HR2, HB2⟩
      case measure => simp [intOf]; have := HAB.out; omega
    · obtain ⟨P, X, h1, h2, h4, h5⟩ := HR.out.last (by omega)
      have C := Lib.hid (itm_insertion base g n c a n P X [] h1 h2 (by simp only [List.length_nil]; omega) (by omega) _ (Nat.le_trans hbw HB.out.size) h4)
      have HN := Lib.hid h5
      clear h1 h2 h4 h5 HR hab
      go_wp2_with ((with_reducible refine C.out.mono ?_); rintro e w2 ⟨rfl, W, hd, ho, hq⟩; have HR2 := Lib.hid (HN.out W _ hd ho); have HB2 := Lib.hid (HB.out.trans hq); clear hd ho hq)
      clear C HN HB HAB
      go_loopw [6, 7, 8, 9] (fun s6 _ _ _ wr => ∃ bs : Nat, s6 = .int .i64 bs ∧ 20 ≤ bs ∧ bs ≤ 2 * n + 20 ∧ Hid (InB bs n l wr base (rowV g n c)) ∧ Hid (Below base w wr)) (fun s6 _ _ _ _ => n - (intOf s6).toNat)
      case atStart => exact ⟨20, rfl, by omega, by omega, HR2, HB2⟩
      case round =>
        clear HR2 HB2
        obtain ⟨bs, rfl, hbs, hbs2, HI, HB⟩ := hrel
        by_cases hlt2 : bs < n
        · have HD := Lib.hid HI.out.start
          obtain ⟨b2, hb2⟩ : ∃ b2, b2 = 2 * bs := ⟨_, rfl⟩
          have hbx : (2 : Int) * (bs : Int) = (b2 : Int) := by omega
          have hbx2 : (bs : Int) * 2 = (b2 : Int) := by omega
          have hbw2 : IntKind.i64.wrap (b2 : Int) = (b2 : Int) := IntWalk.i64_in _ (by omega)
          have hb29 : b2 ≤ 2000000 := by omega
          have HBB := Lib.hid hb2
          have hb20 : bs < b2 := by omega
          clear HI hb2
          go_wp2_with fail
          go_loopw [7, 8] (fun s t wr => ∃ a' b' : Nat, s = .int .i64 a' ∧ t = .int .i64 b' ∧ b' = a' + b2 ∧ a' ≤ n ∧ Hid (InD bs a' n l wr base (rowV g n c)) ∧ Hid (Below base w wr)) (fun s _ _ => n - (intOf s).toNat)
          case atStart => exact ⟨0, b2, rfl, rfl, by omega, by omega, HD, HB⟩
          case round =>
            clear HD HB
            obtain ⟨a', b', rfl, rfl, hab', han', HD, HB⟩ := hrel
            have HAB := Lib.hid hab'
            obtain ⟨m, hm⟩ : ∃ m, m = a' + bs := ⟨_, rfl⟩
            have hmx : (a' : Int) + (bs : Int) = (m : Int) := by omega
            have hmw : IntKind.i64.wrap (m : Int) = (m : Int) := IntWalk.i64_in _ (by omega)
            have hm9 : m ≤ 2000000 := by omega
            by_cases hlt3 : b' ≤ n
            · obtain ⟨P, U, V, S, h1, h2, h3, h4, h5, h6, h7, h8⟩ := HD.out.next (by omega) (by have := HBB.out; omega)
              have C := Lib.hid (itm_symMerge base g n c a' m b' P U V S h1 (by omega) (by have := HBB.out; omega) (by omega) (by omega) h4 (by omega) h5 h6 _ (Nat.le_trans hbw HB.out.size) h7)
              have HN := Lib.hid h8
              clear h1 h2 h3 h4 h5 h6 h7 h8 HD hm hab'
              go_wp2_with ((with_reducible refine C.out.mono ?_); rintro e w2 ⟨rfl, W, hd, ho, hq⟩; have HR2 := Lib.hid (HN.out W _ hd ho); have HB2 := Lib.hid (HB.out.trans hq); clear hd ho hq)
              go_roundw
              case rel => exact ⟨b', b' + b2, rfl, by go_num, rfl, hlt3, by rw [HAB.out, HBB.out]; exact HR2, HB2⟩
              case measure => simp [intOf]; have := HAB.out; omega
            · by_cases hlt4 : m < n
              · obtain ⟨P, U, V, h1, h2, h3, h4, h5, h6, h7, h8⟩ := HD.out.last (by have := HBB.out; omega) (by omega)
                have C := Lib.hid (itm_symMerge base g n c a' m n P U V [] h1 (by omega) (by omega) (by omega) h3 (by simp only [List.length_nil]; omega) (by omega) h5 h6 _ (Nat.le_trans hbw HB.out.size) h7)
                have HN := Lib.hid h8
                clear h1 h2 h3 h4 h5 h6 h7 h8 HD hm hab'
                go_wp2_with ((with_reducible refine C.out.mono ?_); rintro e w2 ⟨rfl, W, hd, ho, hq⟩; have HR2 := Lib.hid (HN.out W _ hd ho); have HB2 := Lib.hid (HB.out.trans hq); clear hd ho hq)
                go_roundw
                case rel => exact ⟨b2, rfl, by omega, by have := HBB.out; omega, by have := HR2; rw [← HBB.out] at this; exact this, HB2⟩
                case measure => simp [intOf]; omega
              · have HR2 := Lib.hid (HD.out.none (by omega))
                clear HD hm hab'
                go_wp2_with fail
                go_roundw
                case rel => exact ⟨b2, rfl, by omega, by have := HBB.out; omega, by have := HR2; rw [← HBB.out] at this; exact this, HB⟩
                case measure => simp [intOf]; omega
        · have HF := Lib.hid (HI.out.done (by omega))
          go_wp2_with fail
          go_end0
          obtain ⟨m, h1, h2⟩ := HF.out
          exact ⟨rfl, m, h1, h2, HB.out⟩
end Go.Proofs.Ytfjaklpddcafdaa

namespace Go.Proofs.Ytfjaklpddcafdaa
open Go.RowKit

def RowS (w : World) (S : Nat → Prop) (A : Option Addr) (xs : List Value) : Prop :=
  xs = [] ∨ ∃ b o, A = some ⟨b, o, none⟩ ∧ S b ∧ ∀ k u, xs[k]? = some u → w.cell? ⟨b, o + k, none⟩ = some u
def KeptS (S : Nat → Prop) (w w' : World) : Prop := ∀ p : Addr, S p.block → p.block < w.heap.size → w'.cell? p = w.cell? p
theorem keptS_below {w w' : World} (hb : Below w.heap.size w w') (S : Nat → Prop) : KeptS S w w' := fun _ _ h => hb.cell h
theorem KeptS.mono {S T : Nat → Prop} {w w' : World} (h : KeptS T w w') (hs : ∀ g, S g → T g) : KeptS S w w' := fun p hp hl => h p (hs _ hp) hl
theorem row_lt {w : World} {b o : Nat} {xs : List Value} (hne : xs ≠ []) (h : ∀ k u, xs[k]? = some u → w.cell? ⟨b, o + k, none⟩ = some u) : b < w.heap.size := by
  cases xs with
  | nil => exact absurd rfl hne
  | cons x l => exact World.block_lt_of_cell? w _ (h 0 x rfl)
theorem RowS.lives {w : World} {S : Nat → Prop} {A : Option Addr} {xs : List Value} (h : RowS w S A xs) : RowS w (fun g => S g ∧ g < w.heap.size) A xs := by
  by_cases h0 : xs = []
  · exact .inl h0
  · rcases h with h | ⟨b, o, h1, h2, h3⟩
    · exact absurd h h0
    · exact .inr ⟨b, o, h1, ⟨h2, row_lt h0 h3⟩, h3⟩
theorem RowS.mono {w : World} {S T : Nat → Prop} {A : Option Addr} {xs : List Value} (h : RowS w S A xs) (hs : ∀ g, S g → T g) : RowS w T A xs := by
  rcases h with h | ⟨b, o, h1, h2, h3⟩
  · exact .inl h
  · exact .inr ⟨b, o, h1, hs _ h2, h3⟩
theorem RowS.keep {w w' : World} {S : Nat → Prop} {A : Option Addr} {xs : List Value} (h : RowS w S A xs) (hk : KeptS S w w') : RowS w' S A xs := by
  by_cases h0 : xs = []
  · exact .inl h0
  · rcases h with h | ⟨b, o, h1, h2, h3⟩
    · exact absurd h h0
    · exact .inr ⟨b, o, h1, h2, fun k u hu => (hk _ h2 (row_lt h0 h3)).trans (h3 k u hu)⟩
theorem RowS.at_ {w : World} {S : Nat → Prop} {A : Option Addr} {xs : List Value} (h : RowS w S A xs) : RowAt w w.heap.size A xs := by
  rcases h.lives with h | ⟨b, o, h1, h2, h3⟩
  · exact .inl h
  · exact .inr ⟨b, o, h1, h2.2, h3⟩
theorem RowAt.inS {w : World} {B : Nat} {A : Option Addr} {xs : List Value} (h : RowAt w B A xs) : RowS w (fun g => g < B) A xs := h

namespace Kind
variable {P : Program} {α : Type}
structure RdS (k : Kind P α) (w : World) (S : Nat → Prop) (A : Option Addr) (c : Nat) (l : List α) : Prop where
  row : RowS w S A (k.row l)
  room : l.length ≤ c
  cap : c ≤ maxLen
variable {k : Kind P α}
theorem RdS.mono {w : World} {S T : Nat → Prop} {A : Option Addr} {c : Nat} {l : List α} (h : k.RdS w S A c l) (hs : ∀ g, S g → T g) : k.RdS w T A c l := ⟨h.row.mono hs, h.room, h.cap⟩
theorem RdS.lives {w : World} {S : Nat → Prop} {A : Option Addr} {c : Nat} {l : List α} (h : k.RdS w S A c l) : k.RdS w (fun g => S g ∧ g < w.heap.size) A c l := ⟨h.row.lives, h.room, h.cap⟩
theorem RdS.keep {w w' : World} {S : Nat → Prop} {A : Option Addr} {c : Nat} {l : List α} (h : k.RdS w S A c l) (hk : KeptS S w w') : k.RdS w' S A c l := ⟨h.row.keep hk, h.room, h.cap⟩
theorem RdS.call {w w' : World} {S : Nat → Prop} {A : Option Addr} {c : Nat} {l : List α} (h : k.RdS w S A c l) (hb : Below w.heap.size w w') : k.RdS w' S A c l := h.keep (keptS_below hb S)
theorem RdS.rd {w : World} {S : Nat → Prop} {A : Option Addr} {c : Nat} {l : List α} (h : k.RdS w S A c l) : k.Rd w w.heap.size A c l := ⟨h.row.at_, h.room, h.cap⟩
theorem Rd.inS {w : World} {B : Nat} {A : Option Addr} {c : Nat} {l : List α} (h : k.Rd w B A c l) : k.RdS w (fun g => g < B) A c l := ⟨h.row.inS, h.room, h.cap⟩
theorem RdS.nil (w : World) (S : Nat → Prop) (A : Option Addr) (c : Nat) (hc : c ≤ maxLen) : k.RdS w S A c [] := ⟨.inl rfl, Nat.zero_le _, hc⟩
theorem Own.rdS {w : World} {base n c : Nat} {A : Option Addr} {l : List α} (h : k.Own w base (.slice A n c) l) (hn : n = l.length) : k.RdS w (fun g => base ≤ g) A c l := by
  have hr := h.rd
  refine ⟨?_, hr.room, hr.cap⟩
  by_cases h0 : 0 < n
  · obtain ⟨g, c', hv, -, h1, -, -, -⟩ := h.some_ hn h0
    injection hv with hA
    subst hA
    rcases hr.row with h2 | ⟨b, o, h2, h3, h4⟩
    · exact .inl h2
    · refine .inr ⟨b, o, h2, ?_, h4⟩
      injection h2 with h2
      injection h2 with h2
      rw [← h2]; exact h1
  · exact .inl (by rw [List.eq_nil_of_length_eq_zero (by omega : l.length = 0)]; rfl)
end Kind

structure Deep (P : Program) (β α : Type) where
  k : Kind P β
  rel : World → (Nat → Prop) → β → α → Prop
  mono : ∀ {w : World} {S T : Nat → Prop} {b : β} {a : α}, rel w S b a → (∀ g, S g → T g) → rel w T b a
  lives : ∀ {w : World} {S : Nat → Prop} {b : β} {a : α}, rel w S b a → rel w (fun g => S g ∧ g < w.heap.size) b a
  keep : ∀ {w w' : World} {S : Nat → Prop} {b : β} {a : α}, rel w S b a → KeptS S w w' → rel w' S b a
namespace Deep
variable {P : Program} {β α : Type} (d : Deep P β α)
def All (w : World) (S : Nat → Prop) (bs : List β) (s : List α) : Prop := bs.length = s.length ∧ ∀ (i : Nat) (b : β) (a : α), bs[i]? = some b → s[i]? = some a → d.rel w S b a
def Rd (w : World) (S : Nat → Prop) (A : Option Addr) (c : Nat) (s : List α) : Prop := ∃ bs : List β, d.k.RdS w S A c bs ∧ d.All w S bs s
variable {d}
theorem All.mono {w : World} {S T : Nat → Prop} {bs : List β} {s : List α} (h : d.All w S bs s) (hs : ∀ g, S g → T g) : d.All w T bs s := ⟨h.1, fun i b a h1 h2 => d.mono (h.2 i b a h1 h2) hs⟩
theorem All.lives {w : World} {S : Nat → Prop} {bs : List β} {s : List α} (h : d.All w S bs s) : d.All w (fun g => S g ∧ g < w.heap.size) bs s := ⟨h.1, fun i b a h1 h2 => d.lives (h.2 i b a h1 h2)⟩
theorem All.keep {w w' : World} {S : Nat → Prop} {bs : List β} {s : List α} (h : d.All w S bs s) (hk : KeptS S w w') : d.All w' S bs s := ⟨h.1, fun i b a h1 h2 => d.keep (h.2 i b a h1 h2) hk⟩
theorem All.append {w : World} {S : Nat → Prop} {bs cs : List β} {s t : List α} (h : d.All w S bs s) (h' : d.All w S cs t) : d.All w S (bs ++ cs) (s ++ t) := by
  refine ⟨by rw [List.length_append, List.length_append, h.1, h'.1], fun i b a h1 h2 => ?_⟩
  by_cases hi : i < bs.length
  · rw [List.getElem?_append_left hi] at h1
    rw [List.getElem?_append_left (by rw [← h.1]; exact hi)] at h2
    exact h.2 i b a h1 h2
  · rw [List.getElem?_append_right (by omega)] at h1
    rw [List.getElem?_append_right (by rw [← h.1]; omega), ← h.1] at h2
    exact h'.2 _ b a h1 h2
theorem All.one {w : World} {S : Nat → Prop} {b : β} {a : α} (h : d.rel w S b a) : d.All w S [b] [a] := ⟨rfl, fun i b' a' h1 h2 => by
  cases i with
  | zero => injection h1 with h1; injection h2 with h2; subst h1 h2; exact h
  | succ i => cases h1⟩
theorem All.nil (w : World) (S : Nat → Prop) : d.All w S [] [] := ⟨rfl, fun i b a h => by cases h⟩
theorem Rd.mono {w : World} {S T : Nat → Prop} {A : Option Addr} {c : Nat} {s : List α} (h : d.Rd w S A c s) (hs : ∀ g, S g → T g) : d.Rd w T A c s := by
  obtain ⟨bs, h1, h2⟩ := h; exact ⟨bs, h1.mono hs, h2.mono hs⟩
theorem Rd.lives {w : World} {S : Nat → Prop} {A : Option Addr} {c : Nat} {s : List α} (h : d.Rd w S A c s) : d.Rd w (fun g => S g ∧ g < w.heap.size) A c s := by
  obtain ⟨bs, h1, h2⟩ := h; exact ⟨bs, h1.lives, h2.lives⟩
theorem Rd.keep {w w' : World} {S : Nat → Prop} {A : Option Addr} {c : Nat} {s : List α} (h : d.Rd w S A c s) (hk : KeptS S w w') : d.Rd w' S A c s := by
  obtain ⟨bs, h1, h2⟩ := h; exact ⟨bs, h1.keep hk, h2.keep hk⟩
theorem Rd.call {w w' : World} {S : Nat → Prop} {A : Option Addr} {c : Nat} {s : List α} (h : d.Rd w S A c s) (hb : Below w.heap.size w w') : d.Rd w' S A c s := h.keep (keptS_below hb S)
theorem Rd.all {w : World} {S : Nat → Prop} {A : Option Addr} {c : Nat} {s : List α} (h : d.Rd w S A c s) : d.Rd w (fun _ => True) A c s := h.mono fun _ _ => trivial
theorem Rd.room {w : World} {S : Nat → Prop} {A : Option Addr} {c : Nat} {s : List α} (h : d.Rd w S A c s) : s.length ≤ c := by
  obtain ⟨bs, h1, h2⟩ := h; rw [← h2.1]; exact h1.room
theorem Rd.max {w : World} {S : Nat → Prop} {A : Option Addr} {c n : Nat} {s : List α} (h : d.Rd w S A c s) (hn : n = s.length) : n ≤ 9223372036854775807 := by
  obtain ⟨bs, h1, h2⟩ := h
  have h3 := h1.room
  have h4 := h1.cap
  have h5 := h2.1
  unfold maxLen at h4
  omega
theorem Rd.nil (w : World) (S : Nat → Prop) (A : Option Addr) (c : Nat) (hc : c ≤ maxLen) : d.Rd w S A c [] := ⟨[], .nil _ _ _ _ hc, .nil _ _⟩
theorem Rd.at_ {w : World} {S : Nat → Prop} {A : Option Addr} {c : Nat} {s : List α} (h : d.Rd w S A c s) (hp : 0 < s.length) :
    ∃ b o, A = some ⟨b, o, none⟩ ∧ S b ∧ b < w.heap.size ∧ ∀ i x, s[i]? = some x → ∃ y, d.rel w S y x ∧ ∀ j u, (d.k.cells y)[j]? = some u → w.cell? ⟨b, o + (i * d.k.size + j), none⟩ = some u := by
  obtain ⟨bs, h1, h2, h3⟩ := h
  rcases h1.lives.row with h0 | ⟨b, o, e1, ⟨e2, e3⟩, e4⟩
  · exfalso
    have := congrArg List.length h0
    rw [d.k.row_len, List.length_nil] at this
    have := Nat.mul_pos (show 0 < bs.length by omega) d.k.pos
    omega
  · refine ⟨b, o, e1, e2, e3, fun i x hx => ?_⟩
    obtain ⟨y, hy⟩ : ∃ y, bs[i]? = some y := ⟨_, List.getElem?_eq_getElem (by have := (List.getElem?_eq_some_iff.1 hx).1; omega)⟩
    refine ⟨y, h3 i y x hy hx, fun j u hu => e4 _ _ ?_⟩
    have hj : j < d.k.size := by
      rw [← d.k.len y]
      exact (List.getElem?_eq_some_iff.1 hu).1
    rw [d.k.row_get hy hj]; exact hu
variable (d)
def Own (w : World) (base : Nat) (S : Nat → Prop) (v : Value) (s : List α) : Prop := ∃ bs : List β, d.k.Own w base v bs ∧ d.All w (fun g => S g ∧ v.ownBlock ≠ some g) bs s
variable {d}
theorem Own.nil (w : World) (base : Nat) (S : Nat → Prop) : d.Own w base S (.slice none 0 0) [] := ⟨[], Kind.Own.nil _ _, .nil _ _⟩
theorem Own.below {w w' : World} {base : Nat} {S : Nat → Prop} {v : Value} {s : List α} (h : d.Own w base S v s) (hb : Below w.heap.size w w') : d.Own w' base S v s := by
  obtain ⟨bs, h1, h2⟩ := h
  exact ⟨bs, h1.below hb, h2.keep (keptS_below hb _)⟩
theorem Own.alloc {w : World} {base : Nat} {S : Nat → Prop} {v : Value} {s : List α} (h : d.Own w base S v s) (o : Obj) : d.Own (w.alloc o) base S v s := h.below (below_new w o)
theorem Own.lt {w : World} {base : Nat} {S : Nat → Prop} {v : Value} {s : List α} (h : d.Own w base S v s) : ∀ g, v.ownBlock = some g → base ≤ g ∧ g < w.heap.size := by
  obtain ⟨bs, h1, -⟩ := h; exact h1.lt
theorem Own.rd {w : World} {base n : Nat} {S : Nat → Prop} {v : Value} {s : List α} (h : d.Own w base S v s) (hn : n = s.length) (hS : ∀ g, base ≤ g → S g) : ∃ A c, v = .slice A n c ∧ d.Rd w S A c s := by
  obtain ⟨bs, h1, h2⟩ := h
  obtain ⟨A, c, rfl, -⟩ := h1.read_n (hn.trans h2.1.symm)
  exact ⟨A, c, rfl, bs, (h1.rdS (hn.trans h2.1.symm)).mono hS, h2.mono fun g h => h.1⟩
variable (d)
variable {d}
end Deep
end Go.Proofs.Ytfjaklpddcafdaa

namespace Go.Proofs.Ytfjaklpddcafdaa
open Go.RowKit

def cutK (A : Option Addr) (j size c : Nat) : Option Addr := if c = j then A else A.map (·.add (j * size))
theorem Kind.run_cutK {P : Program} {α : Type} (k : Kind P α) (hs : ∀ w, (sizeOf k.el).run P w = .ok k.size w) (w : World) (A : Option Addr) (n c j : Nat) (hj : j ≤ n) :
    (Instr.slice k.ty (.slice A n c) (some (.int .i64 (j : Int))) none none).run P w = .ok (.slice (cutK A j k.size c) (n - j) (c - j)) w := by
  have he : P.elem k.ty = k.el := by simp [Program.elem, k.under]
  have ht' : P.underlying k.ty = some (.slice (P.elem k.ty)) := by rw [he]; exact k.under
  rw [run_slice_l w k.ty _ _ _ ht' .i64 _ (by omega) (by omega), he, hs]
  simp [Result.andThen, sliced, cutK]
theorem Kind.run_takeK {P : Program} {α : Type} (k : Kind P α) (hs : ∀ w, (sizeOf k.el).run P w = .ok k.size w) (w : World) (A : Option Addr) (n c j : Nat) (hj : j ≤ c) :
    (Instr.slice k.ty (.slice A n c) none (some (.int .i64 (j : Int))) none).run P w = .ok (.slice A j c) w := by
  have he : P.elem k.ty = k.el := by simp [Program.elem, k.under]
  have ht' : P.underlying k.ty = some (.slice (P.elem k.ty)) := by rw [he]; exact k.under
  rw [run_slice_h w k.ty _ _ _ ht' .i64 _ (by omega) (by omega), he, hs]
  cases A <;> simp [Result.andThen, sliced, Addr.add]
theorem Kind.RdS.drop {P : Program} {α : Type} {k : Kind P α} {w : World} {S : Nat → Prop} {A : Option Addr} {c : Nat} {l : List α} (h : k.RdS w S A c l) {j : Nat} : k.RdS w S (cutK A j k.size c) (c - j) (l.drop j) := by
  have h1 := h.room
  have h2 := h.cap
  refine ⟨?_, by rw [List.length_drop]; omega, by omega⟩
  unfold cutK
  split
  · left
    rw [List.drop_eq_nil_of_le (by omega)]; rfl
  · rcases h.row with h | ⟨b, o, rfl, h3, h4⟩
    · left; rw [k.row_drop, h]; simp
    · refine .inr ⟨b, o + j * k.size, by simp [Go.WideShapes.add_plain], h3, fun i u hu => ?_⟩
      rw [Nat.add_assoc]
      exact h4 _ u (by rw [← hu, k.row_drop, List.getElem?_drop])
theorem Kind.RdS.take {P : Program} {α : Type} {k : Kind P α} {w : World} {S : Nat → Prop} {A : Option Addr} {c : Nat} {l : List α} (h : k.RdS w S A c l) (j : Nat) : k.RdS w S A c (l.take j) := by
  have h1 := h.room
  refine ⟨?_, by rw [List.length_take]; omega, h.cap⟩
  rcases h.row with h | ⟨b, o, rfl, h3, h4⟩
  · left; rw [k.row_take, h]; simp
  · refine .inr ⟨b, o, rfl, h3, fun i u hu => h4 i u ?_⟩
    rw [k.row_take, List.getElem?_take] at hu
    split at hu
    · exact hu
    · cases hu
theorem Kind.Rd.drop {P : Program} {α : Type} {k : Kind P α} {w : World} {B : Nat} {A : Option Addr} {c : Nat} {l : List α} (h : k.Rd w B A c l) {j : Nat} : k.Rd w B (cutK A j k.size c) (c - j) (l.drop j) := by
  have h1 := h.inS.drop (j := j)
  exact ⟨h1.row, h1.room, h1.cap⟩
namespace Deep
variable {P : Program} {β α : Type} {d : Deep P β α}
theorem All.drop {w : World} {S : Nat → Prop} {bs : List β} {s : List α} (h : d.All w S bs s) (j : Nat) : d.All w S (bs.drop j) (s.drop j) :=
  ⟨by rw [List.length_drop, List.length_drop, h.1], fun i b a h1 h2 => h.2 (j + i) b a (by rwa [List.getElem?_drop] at h1) (by rwa [List.getElem?_drop] at h2)⟩
theorem All.take {w : World} {S : Nat → Prop} {bs : List β} {s : List α} (h : d.All w S bs s) (j : Nat) : d.All w S (bs.take j) (s.take j) := by
  refine ⟨by rw [List.length_take, List.length_take, h.1], fun i b a h1 h2 => ?_⟩
  rw [List.getElem?_take] at h1 h2
  split at h1
  · rw [if_pos (by assumption)] at h2
    exact h.2 i b a h1 h2
  · cases h1
theorem Rd.drop {w : World} {S : Nat → Prop} {A : Option Addr} {c : Nat} {s : List α} (h : d.Rd w S A c s) {j : Nat} : d.Rd w S (cutK A j d.k.size c) (c - j) (s.drop j) := by
  obtain ⟨bs, h1, h2⟩ := h
  exact ⟨_, h1.drop, h2.drop j⟩
theorem Rd.take {w : World} {S : Nat → Prop} {A : Option Addr} {c : Nat} {s : List α} (h : d.Rd w S A c s) (j : Nat) : d.Rd w S A c (s.take j) := by
  obtain ⟨bs, h1, h2⟩ := h
  exact ⟨_, h1.take j, h2.take j⟩
end Deep
end Go.Proofs.Ytfjaklpddcafdaa

namespace Go.Proofs.Ytfjaklpddcafdaa
open Go.RowKit

theorem step_app_k {P : Program} {α : Type} (k : Kind P α) {ops : Array Oper} {w : World} {o : Oper} {a : Act} {K : Act → World → Prop} {Q : Exit → Act → World → Prop} {E : Prop} (hgd : o.guard = none) (s x : Operand)
    (ho : o.op = .call { callee := .builtin .append, args := #[s, x], argTypes := #[k.ty, k.ty] })
    (base : Nat) (v : Value) (xs : List α) (hs : a.eval s = v) (hown : k.Own w base v xs)
    (B : Nat) (A : Option Addr) (c n : Nat) (ys : List α) (hn : n = ys.length) (hx : a.eval x = .slice A n c) (hr : RowAt w B A (k.row ys)) (hlen : xs.length + ys.length ≤ 1000000) (hby : k.bytes ≤ 1000) (hbase : base ≤ w.heap.size)
    (h : ∀ v' w', k.Own w' base v' (xs ++ ys) → w.grownBy w' v.ownBlock → Below base w w' → (v'.ownBlock = v.ownBlock ∨ v'.ownBlock = some w.heap.size) → K (a.put o.dst v') w') :
    if Region.wanted o (yielded ops a.tmps) = true then Oper.wp P o a w K Q else E := by
  rw [if_pos (by simp [Region.wanted, hgd])]
  exact op_app_k k s x ho base v xs hs hown B A c n ys hn hx hr hlen hby hbase h
end Go.Proofs.Ytfjaklpddcafdaa

namespace Go.Proofs.Ytfjaklpddcafdaa
open Go.RowKit

theorem itm_sizeOf (w : World) : (sizeOf kItm.el).run Try.prog w = .ok kItm.size w := by
  show (sizeOf 26).run Try.prog w = .ok 7 w
  kernel_rfl
theorem rd_takeI {w : World} {B : Nat} {A : Option Addr} {c : Nat} {l : List Itm} (h : kItm.Rd w B A c l) (j : Nat) : kItm.Rd w B A c (l.take j) := by
  have h1 := h.inS.take j
  exact ⟨h1.row, h1.room, h1.cap⟩
set_option maxRecDepth 100000 in
theorem itm_insertion_nil (A : Option Addr) (c : Nat) (w : World) :
    Calls Try.prog 53 #[.slice A 0 c, .int .i64 0, .int .i64 0, byKeyV] w fun e w' => e = .returned (.tuple #[]) ∧ w = w' := by
  go_enter Try.func53, Try.ntmps53
  go_wp2_with fail
  go_loopw [8] (fun s wr => s = .int .i64 1 ∧ wr = w) (fun _ _ => 0)
  case atStart => exact ⟨rfl, rfl⟩
  case round =>
    obtain ⟨rfl, rfl⟩ := hrel
    go_wp2_with fail
    go_end0
    exact ⟨rfl, rfl⟩
set_option maxRecDepth 100000 in
theorem itm_stable_nil (A : Option Addr) (c : Nat) (w : World) :
    Calls Try.prog 44 #[.slice A 0 c, .int .i64 0, byKeyV] w fun e w' => e = .returned (.tuple #[]) ∧ w = w' := by
  have C := fun w => Lib.hid (itm_insertion_nil A c w)
  go_enter Try.func44, Try.ntmps44
  go_wp2_with fail
  go_loopw [7, 8] (fun s t wr => s = .int .i64 0 ∧ t = .int .i64 20 ∧ wr = w) (fun _ _ _ => 0)
  case atStart => exact ⟨rfl, rfl, rfl⟩
  case round =>
    obtain ⟨rfl, rfl, rfl⟩ := hrel
    go_wp2_with ((with_reducible refine (C _).out.mono ?_); rintro e w2 ⟨rfl, rfl⟩)
    go_loopw [6, 7, 8, 9] (fun s6 _ _ _ wx => s6 = .int .i64 20 ∧ wx = wr) (fun _ _ _ _ _ => 0)
    case atStart => exact ⟨rfl, rfl⟩
    case round =>
      obtain ⟨rfl, rfl⟩ := hrel
      go_wp2_with fail
      go_end0
      exact ⟨rfl, rfl⟩
theorem itp_sort (base : Nat) (v : Value) (l : List Itm) (h9 : l.length ≤ 400000) (w : World) (hbw : base ≤ w.heap.size) (hO : kItm.Own w base v l) :
    Calls Try.prog 36 #[v, byKeyV] w fun e w' => e = .returned (.tuple #[]) ∧ ∃ m, DoneS ltK l m ∧ kItm.Own w' base v m ∧ Below base w w' := by
  obtain ⟨n, hn⟩ : ∃ n, n = l.length := ⟨_, rfl⟩
  by_cases h0 : n = 0
  · obtain rfl : l = [] := List.length_eq_zero_iff.1 (by omega)
    obtain ⟨A, c, rfl, -⟩ := hO.form
    have C := fun w => Lib.hid (itm_stable_nil A c w)
    have HO := Lib.hid hO
    clear hO hn h0
    show Calls Try.prog _ #[.slice A 0 c, byKeyV] w _
    go_enter Try.func36, Try.ntmps36
    go_wp2_with ((with_reducible refine (C _).out.mono ?_); rintro e w2 ⟨rfl, rfl⟩)
    go_end0
    exact ⟨rfl, [], DoneS.refl SortS.nil, HO.out, Below.refl _ _⟩
  · obtain ⟨g, c, rfl, hc, -, -, -, -⟩ := hO.some_ hn (by omega)
    have C := Lib.hid (itm_stable base g n c l hn (by omega) w hbw hO)
    have hn9 : n ≤ 400000 := by omega
    have hc9 : c ≤ 9223372036854775807 := by have := hO.rd.cap; unfold maxLen at this; omega
    clear hO hn
    go_enter Try.func36, Try.ntmps36
    go_wp2_with ((with_reducible refine C.out.mono ?_); rintro e w2 ⟨rfl, hx⟩; have HX := Lib.hid hx; clear hx)
    go_end0
    exact ⟨rfl, HX.out⟩
set_option maxRecDepth 100000 in
set_option maxHeartbeats 4000000 in
theorem itp_merge (A : Option Addr) (c n : Nat) (ls : List (List Itm)) (hn : n = ls.length) (h9 : n ≤ 100000) (hl : ls.flatten.length ≤ 400000) (w : World) (hr : RdLI w w.heap.size A c ls) :
    Calls Try.prog 20 #[.slice A n c] w fun e w' => ∃ v, e = .returned v ∧ kItm.Own w' w.heap.size v (mergeI ls.flatten) ∧ Below w.heap.size w w' := by
  have C1 := Lib.hid (concat_items A c n ls hn h9 hl w hr)
  obtain ⟨N, hN⟩ : ∃ N, N = ls.flatten.length := ⟨_, rfl⟩
  have HN := Lib.hid hN
  have hl9 : N ≤ 400000 := by omega
  have HF := Lib.hid (Nat.le_trans (List.length_filter_le rightI ls.flatten) hl)
  have C2 := Lib.hid (fun (A : Option Addr) (c : Nat) => itp_rights A c N ls.flatten hN hl9)
  have C3 := Lib.hid (fun (base : Nat) (v : Value) (l : List Itm) (h : l.length ≤ 400000) => itp_sort base v l h)
  have C4 := Lib.hid (fun (A : Option Addr) (c n : Nat) (l : List Itm) (hn : n = l.length) (hp : 0 < n) => itp_ofOneKey A c n l hn hp)
  clear hn hl hr hN
  go_enter Try.func20, Try.ntmps20
  go_wp2_with (first
    | ((with_reducible refine C1.out.mono ?_); rintro e w1 ⟨v1, rfl, ho, hq⟩; obtain ⟨A1, c1, rfl, hrd⟩ := ho.read_n HN.out; have HR1 := Lib.hid hrd; have HB1 := Lib.hid hq; clear ho hq hrd)
    | ((with_reducible refine (C2.out A1 c1 _ HR1.out).mono ?_); rintro e w2 ⟨v2, rfl, ho, hq⟩; have HO2 := Lib.hid ho; have HB2 := Lib.hid (HB1.out.trans (hq.mono HB1.out.size)); have HS2 := Lib.hid hq.size; clear ho hq)
    | ((with_reducible refine (C3.out w1.heap.size v2 _ HF.out _ HS2.out HO2.out).mono ?_); rintro e w3 ⟨rfl, M, hd, ho, hq⟩; have HD3 := Lib.hid hd; have HO3 := Lib.hid ho; have HB3 := Lib.hid (HB2.out.trans (hq.mono HB1.out.size)); clear ho hq hd))
  obtain ⟨n3, hn3⟩ : ∃ n3, n3 = M.length := ⟨_, rfl⟩
  obtain ⟨A3, c3, hv2, hrd3⟩ := HO3.out.read_n hn3
  have hn39 : n3 ≤ 400000 := by rw [hn3, HD3.out.len]; exact HF.out
  have HM := Lib.hid (merge_of HD3.out.stab)
  have HSM := Lib.hid HD3.out.sort
  have HRM := Lib.hid (show ∀ x ∈ M, rightI x = true from fun x hx => (List.mem_filter.1 ((HD3.out.stab.mem stoK).2 hx)).2)
  have HR3 := Lib.hid hrd3
  have HN3 := Lib.hid hn3
  subst hv2
  clear hn3 hrd3 C1 C2 C3 HR1 HB1 HO2 HB2 HS2 HD3 HO3 HN HF
  go_loopw [3, 4] (fun s v wr => ∃ (j n' c' : Nat) (A' : Option Addr) (U : List Itm), s = .slice A' n' c' ∧ n' ≤ 400000 ∧ Hid (n' = (M.drop j).length) ∧ Hid (kItm.Rd w3 w3.heap.size A' c' (M.drop j)) ∧ Hid (MrgAt M j U) ∧ Hid (U.length ≤ j ∧ j ≤ n3) ∧ Hid (kItm.Own wr w3.heap.size v U) ∧ Hid (Below w3.heap.size w3 wr)) (fun s _ _ => lenV s)
  case atStart => exact ⟨0, n3, c3, A3, [], rfl, hn39, HN3.out, HR3.out, MrgAt.start M, ⟨Nat.zero_le _, Nat.zero_le _⟩, Kind.Own.nil _ _, Below.refl _ _⟩
  case round =>
    obtain ⟨j, n', c', A', U, rfl, hn9, HN, HR, HMA, HUL, HO, HW⟩ := hrel
    by_cases hp : n' = 0
    · have HE := Lib.hid (HMA.out.done (List.length_eq_zero_iff.1 (by have := HN.out; omega)))
      subst hp
      have t1 : decide (((0 : Nat) : Int) > 0) = false := rfl
      go_wp2_with fail
      go_ret
      exact ⟨_, rfl, by rw [← HM.out, ← HE.out]; exact HO.out.mono HB3.out.size, HB3.out.trans (HW.out.mono HB3.out.size)⟩
    · have t1 : decide ((n' : Int) > 0) = true := decide_eq_true (by omega)
      have t2 : decide ((0 : Int) < (n' : Int)) = true := t1
      have t3 : decide (0 < n') = true := decide_eq_true (by omega)
      have hnc : n' ≤ c' := by rw [HN.out]; exact HR.out.room
      have hc9 : c' ≤ 9223372036854775807 := by have := HR.out.cap; unfold maxLen at this; omega
      have HP := Lib.hid (show 0 < n' by omega)
      go_upto_region 6 with ((with_reducible refine (C4.out A' c' n' (M.drop j) HN.out HP.out _ ((HR.out.below HW.out).more HW.out.size)).mono ?_); rintro e w4 ⟨k1, rfl, hone, hq⟩; have HK := Lib.hid hone; have HW4 := Lib.hid (HW.out.trans (hq.mono HW.out.size)); have HO4 := Lib.hid (HO.out.below hq); clear hq hone)
      have hk1 : k1 ≤ n' := by rw [HN.out]; exact HK.out.most
      have hk0 : 1 ≤ k1 := HK.out.pos
      have KT := fun W : World => kItm.run_takeK itm_sizeOf W A' n' c' k1 (by omega)
      change ∀ W : World, (Instr.slice 22 (.slice A' n' c') none (some (.int .i64 (k1 : Int))) none).run Try.prog W = .ok (.slice A' k1 c') W at KT
      have KD := fun W : World => kItm.run_cutK itm_sizeOf W A' n' c' k1 hk1
      obtain ⟨A5, hA5⟩ : ∃ A5, cutK A' k1 kItm.size c' = A5 := ⟨_, rfl⟩
      obtain ⟨n5, hn5⟩ : ∃ n5, n' - k1 = n5 := ⟨_, rfl⟩
      obtain ⟨c5, hc5⟩ : ∃ c5, c' - k1 = c5 := ⟨_, rfl⟩
      rw [hA5, hn5, hc5] at KD
      change ∀ W : World, (Instr.slice 22 (.slice A' n' c') (some (.int .i64 (k1 : Int))) none none).run Try.prog W = .ok (.slice A5 n5 c5) W at KD
      have HR5 := Lib.hid (show kItm.Rd w3 w3.heap.size A5 c5 (M.drop (j + k1)) from by rw [← hA5, ← hc5, ← List.drop_drop]; exact HR.out.drop)
      have HN5 := Lib.hid (show n5 = (M.drop (j + k1)).length by rw [← hn5, HN.out, List.length_drop, List.length_drop]; omega)
      obtain ⟨x0, hx0⟩ : ∃ x0, (M.drop j)[0]? = some x0 := ⟨_, List.getElem?_eq_getElem (by have := HN.out; omega)⟩
      have hx1 : x0 ∈ (M.drop j).take k1 := List.mem_of_getElem? (show ((M.drop j).take k1)[0]? = some x0 by rw [List.getElem?_take_of_lt (by omega)]; exact hx0)
      obtain ⟨b, hb⟩ := bestF_has (p := rightI) hx1 (HRM.out x0 (List.mem_of_mem_drop (List.mem_of_mem_take hx1)))
      obtain ⟨K, r, c1, rk, pp, dd, BB, hI⟩ : ∃ K r c k p d B, IsI b K r c k p d B := ⟨_, _, _, _, _, _, _, IsI.mk' b⟩
      have CW := Lib.hid (itp_wins A' c' k1 ((M.drop j).take k1) (by rw [List.length_take]; have := HN.out; omega) b (by rw [hb]; rfl) K r c1 rk pp dd BB hI true (by rw [hb]; rfl) w4 (rd_takeI ((HR.out.below HW4.out).more HW4.out.size) k1))
      have HMA2 := Lib.hid (HMA.out.step HSM.out HK.out hb)
      have HRW := fun w => Lib.hid (itm_row w b K r c1 rk pp dd BB hI)
      have HUL2 := Lib.hid (show (U ++ [b]).length ≤ j + k1 ∧ j + k1 ≤ n3 by
        have h1 := HUL.out
        have h2 := HN.out
        have h3 := HN3.out
        rw [List.length_drop] at h2
        rw [List.length_append, List.length_singleton]; omega)
      have HLE := Lib.hid (show U.length + [b].length ≤ 1000000 by have h1 := HUL.out; rw [List.length_singleton]; omega)
      have hn59 : n5 ≤ 400000 := by omega
      have hn5l : n5 < n' := by omega
      clear HN HR HMA HUL HK HW HO hn5 hc5 hA5 hx0 hx1 hb hI HP
      go_upto_region 7 with ((with_reducible refine CW.out.mono ?_); rintro e w5 ⟨rfl, hq⟩; have HW5 := Lib.hid (HW4.out.trans (hq.mono HW4.out.size)); have HO5 := Lib.hid (HO4.out.below hq); have H6 := Lib.hid (itAt_new w5 K r c1 rk pp dd BB); clear hq)
      have HW6 := Lib.hid (HW5.out.alloc HW5.out.size (itO K r c1 rk pp dd BB))
      have HO6 := Lib.hid (HO5.out.alloc (itO K r c1 rk pp dd BB))
      obtain ⟨W6, hW6⟩ : ∃ W6, w5.alloc (itO K r c1 rk pp dd BB) = W6 := ⟨_, rfl⟩
      rw [hW6] at HW6 HO6 H6
      rw [hW6]
      obtain ⟨s0, s1, s2, s3, s4, s5, s6⟩ := H6.out
      go_region_law (first
        | (refine step_app_k kItm rfl (.tmp 25) (.tmp 27) rfl w3.heap.size _ U rfl (Kind.Own.alloc (HO6.out.below (Below.refl _ _).drew) _) _ (some ⟨W6.heap.size, 0, none⟩) 1 1 [b] rfl rfl (HRW W6.drew).out HLE.out (by decide) (it_alloc HW6.out.size _) ?_; intro v7 w7 hown hg hb7 _; have HO7 := Lib.hid hown; have HW7 := Lib.hid ((HW6.out.drew.alloc HW6.out.size _).trans hb7); clear hown hg hb7))
      all_goals
        (try simp only [Act.put, List.getElem_toArray, List.getElem_cons_zero, List.getElem_cons_succ, List.setIfInBounds_toArray, List.set_cons_zero, List.set_cons_succ])
        go_wp2_with fail
        (try simp only [Act.put, List.getElem_toArray, List.getElem_cons_zero, List.getElem_cons_succ, List.setIfInBounds_toArray, List.set_cons_zero, List.set_cons_succ])
        go_roundw
        case rel => exact ⟨j + k1, n5, c5, A5, U ++ [b], rfl, hn59, HN5, HR5, HMA2, HUL2, HO7, HW7⟩
        case measure => simp [lenV]; omega
end Go.Proofs.Ytfjaklpddcafdaa
