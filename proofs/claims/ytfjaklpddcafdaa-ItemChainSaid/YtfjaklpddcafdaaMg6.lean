/-
  Several texts in one: ItpA, Side, ItpB, ItpC, StbPure, StbA, StbB, StbC, ItpD, ItpMk, ItpE.
-/
import Derived.Deep.CutRange
import Derived.BigRegion
import Derived.Deep.RegionHeld3
import Derived.Lib.AppendZeros
import Derived.Test.YtfjaklpddcafdaaMg5
namespace Go.Proofs.Ytfjaklpddcafdaa
open Go.RowKit

theorem rightI_parts2 (x : Itm) {b1 b2 c1 c2 c3 c4 c5 d e : Bool} (h1 : rightB x.key = b1) (h2 : rightVr x.ver = b2) (g1 : decide (1 ≤ x.rank) = c1) (g2 : decide (x.rank ≤ 1099511627776) = c2) (g3 : decide (0 ≤ x.prio) = c3) (g4 : decide (x.prio ≤ 255) = c4) (g5 : decide (x.body.length ≤ 64) = c5) (g6 : x.dead = d) (g7 : x.body.isEmpty = e) :
    rightI x = (b1 && (b2 && (c1 && (c2 && (c3 && (c4 && (c5 && (!d || e)))))))) := by
  subst h1 h2 g1 g2 g3 g4 g5 g6 g7
  unfold rightI rightB
  rw [Bool.and_assoc]
  congr 8
  cases x.dead <;> cases x.body <;> simp
set_option maxRecDepth 100000 in
set_option maxHeartbeats 2000000 in
theorem itp_right (x : Itm) (K : ByteArray) (r c k p : Int) (d : Bool) (B : ByteArray) (hx : IsI x K r c k p d B) (v : Bool) (hv : rightI x = v) (w : World) :
    Calls Try.prog 10 #[itV K r c k p d B] w fun e w' => e = .returned (.bool v) ∧ Below w.heap.size w w' := by
  have HB := Lib.hid (below_new w (itO K r c k p d B))
  have hz : B.size = x.body.length := by rw [← hx.body]; exact str_size _
  have hbl : B.toList = x.body := by rw [← hx.body]; exact str_toList _
  obtain ⟨b1, h1⟩ : ∃ b, rightB x.key = b := ⟨_, rfl⟩
  obtain ⟨b2, h2⟩ : ∃ b, rightVr x.ver = b := ⟨_, rfl⟩
  obtain ⟨c1, g1⟩ : ∃ b, decide (1 ≤ k) = b := ⟨_, rfl⟩
  obtain ⟨c2, g2⟩ : ∃ b, decide (k ≤ 1099511627776) = b := ⟨_, rfl⟩
  obtain ⟨c3, g3⟩ : ∃ b, decide (0 ≤ p) = b := ⟨_, rfl⟩
  obtain ⟨c4, g4⟩ : ∃ b, decide (p ≤ 255) = b := ⟨_, rfl⟩
  obtain ⟨c5, g5⟩ : ∃ b, decide ((B.size : Int) ≤ 64) = b := ⟨_, rfl⟩
  obtain ⟨e, g7⟩ : ∃ b, B.toList.isEmpty = b := ⟨_, rfl⟩
  have e5 : decide (x.body.length ≤ 64) = c5 := by rw [← g5, ← hz]; exact decide_eq_decide.2 (by omega)
  have f5 : decide (B.size ≤ 64) = c5 := by rw [← g5]; exact decide_eq_decide.2 (by omega)
  rw [rightI_parts2 x (b1 := b1) (b2 := b2) (c1 := c1) (c2 := c2) (c3 := c3) (c4 := c4) (c5 := c5) (d := d) (e := e) h1 h2 (by rw [hx.rank]; exact g1) (by rw [hx.rank]; exact g2) (by rw [hx.prio]; exact g3) (by rw [hx.prio]; exact g4) e5 hx.dead (by rw [← hbl]; exact g7)] at hv
  have C1 := fun w => Lib.hid (key_right x.key w)
  rw [h1, hx.key] at C1
  have C2 := fun w => Lib.hid (k_vright x.ver r c hx.rep hx.cnt b2 h2 w)
  have HV := Lib.hid hv
  have HI := Lib.hid (itAt_new w K r c k p d B)
  have g8 : (B.toList == []) = e := by rw [← g7]; cases B.toList <;> rfl
  clear hx hz h1 h2 e5 hv hbl
  cases b1
  case' true =>
    cases b2
    case' true =>
      cases c1
      case' true =>
        cases c2
        case' true =>
          cases c3
          case' true =>
            cases c4
            case' true =>
              cases c5
              case' true =>
                cases d
                case' true =>
                  cases e
  all_goals
    go_enter Try.func10, Try.ntmps10
    go_wp2_with (first
      | ((with_reducible refine (C1 _).out.mono ?_); rintro e w1 ⟨rfl, rfl⟩)
      | ((with_reducible refine (C2 _).out.mono ?_); rintro e w1 ⟨rfl, hq⟩; replace HB := Lib.hid (HB.out.trans (hq.mono HB.out.size)); obtain ⟨-, -, -, t3, t4, t5, t6⟩ := HI.out.below hq; clear hq))
    go_ret
    exact ⟨ret_bool HV.out, HB.out⟩
set_option maxRecDepth 100000 in
theorem itp_numbers (K : ByteArray) (r c k p : Int) (d : Bool) (B : ByteArray) (w : World) :
    Calls Try.prog 30 #[itV K r c k p d B] w fun e w' => e = .returned (itV ⟨#[]⟩ r c k 0 false ⟨#[]⟩) ∧ Below w.heap.size w w' := by
  have HB := Lib.hid ((below_new w (itO K r c k p d B)).alloc (by simp) (itO ⟨#[]⟩ r c k 0 false ⟨#[]⟩))
  obtain ⟨y0, y1, y2, y3, y4, y5, y6⟩ := itAt_new (w.alloc (itO K r c k p d B)) ⟨#[]⟩ r c k 0 false ⟨#[]⟩
  have HY := Lib.hid (And.intro y0 (And.intro y1 (And.intro y2 (And.intro y3 (And.intro y4 (And.intro y5 y6))))))
  clear y0 y1 y2 y3 y4 y5 y6
  go_enter Try.func30, Try.ntmps30
  go_wp2_with fail
  obtain ⟨y0, y1, y2, y3, y4, y5, y6⟩ := HY.out
  rw [size1] at y0 y1 y2 y3 y4 y5 y6
  exact bodyPost_ret (v := itV ⟨#[]⟩ r c k 0 false ⟨#[]⟩) (by simp [results, Try.results30, go_sem, y0, y1, y2, y3, y4, y5, y6]) rfl ⟨rfl, HB.out⟩
end Go.Proofs.Ytfjaklpddcafdaa

namespace Go.Proofs.Ytfjaklpddcafdaa
open Go.RowKit

structure SdAt (w : World) (g : Nat) (v : Bool) (s : Value) : Prop where
  c0 : w.cell? ⟨g, 0, none⟩ = some (.bool v)
  c1 : w.cell? ⟨g, 1, none⟩ = some s
  fr : ∀ k, w.frozen? ⟨g, k, none⟩ = false
theorem SdAt.lt {w : World} {g : Nat} {v : Bool} {s : Value} (h : SdAt w g v s) : g < w.heap.size := World.block_lt_of_cell? w _ h.c0
theorem SdAt.below {w w' : World} {g : Nat} {v : Bool} {s : Value} (h : SdAt w g v s) (hb : Below w.heap.size w w') : SdAt w' g v s := by
  obtain ⟨hc, hf⟩ := bcell hb
  have hl := h.lt
  exact ⟨(hc _ _ hl).trans h.c0, (hc _ _ hl).trans h.c1, fun k => (hf _ _ hl).trans (h.fr k)⟩
theorem SdAt.drew {w : World} {g : Nat} {v : Bool} {s : Value} (h : SdAt w g v s) : SdAt w.drew g v s := ⟨h.c0, h.c1, h.fr⟩
theorem SdAt.kept {w w' : World} {row : Option Nat} {g : Nat} {v : Bool} {s : Value} (h : SdAt w g v s) (hg : w.grownBy w' row) (hne : some g ≠ row) : SdAt w' g v s :=
  ⟨hg.cell h.c0 hne, hg.cell h.c1 hne, fun k => (hg.frozen_far ⟨g, k, none⟩ h.lt hne).trans (h.fr k)⟩
theorem SdAt.other {w : World} {g g' k : Nat} {v : Bool} {s u : Value} (h : SdAt w g v s) (hne : g' ≠ g) : SdAt (w.setCell ⟨g', k, none⟩ u) g v s :=
  ⟨set_other h.c0 (addr_block hne) u, set_other h.c1 (addr_block hne) u, fun j => by rw [World.frozen?_setCell]; exact h.fr j⟩
theorem SdAt.set {w : World} {g : Nat} {v v' : Bool} {s s' : Value} (h : SdAt w g v s) : SdAt ((w.setCell ⟨g, 0, none⟩ (.bool v')).setCell ⟨g, 1, none⟩ s') g v' s' :=
  ⟨set_other (set_same h.c0 _) (addr_off (by decide)) _, set_same (set_other h.c1 (addr_off (by decide)) _) _, fun j => by rw [World.frozen?_setCell, World.frozen?_setCell]; exact h.fr j⟩
theorem below_of_drew {w w' : World} (h : Below w.drew.heap.size w.drew w') : Below w.heap.size w w' := ⟨h.os, h.tape, h.output, h.size, h.block⟩
end Go.Proofs.Ytfjaklpddcafdaa

namespace Go.Proofs.Ytfjaklpddcafdaa
open Go.RowKit

abbrev put7 (w : World) (g : Nat) (K : ByteArray) (r c k p : Int) (d : Bool) (B : ByteArray) : World :=
  ((((((w.setCell ⟨g, 0, none⟩ (.string K)).setCell ⟨g, 1, none⟩ (.int .i64 r)).setCell ⟨g, 2, none⟩ (.int .i64 c)).setCell ⟨g, 3, none⟩ (.int .i64 k)).setCell ⟨g, 4, none⟩ (.int .i64 p)).setCell ⟨g, 5, none⟩ (.bool d)).setCell ⟨g, 6, none⟩ (.string B)
theorem ItW.put {w : World} {g : Nat} {K : ByteArray} {r c k p : Int} {d : Bool} {B : ByteArray} (h : ItW w g K r c k p d B) (K' : ByteArray) (r' c' k' p' : Int) (d' : Bool) (B' : ByteArray) : ItW (put7 w g K' r' c' k' p' d' B') g K' r' c' k' p' d' B' :=
  ((((((h.set0 K').set1 r').set2 c').set3 k').set4 p').set5 d').set6 B'
theorem ItW.far {w : World} {g : Nat} {K : ByteArray} {r c k p : Int} {d : Bool} {B : ByteArray} (h : ItW w g K r c k p d B) {g' : Nat} (hne : g' ≠ g) (K' : ByteArray) (r' c' k' p' : Int) (d' : Bool) (B' : ByteArray) : ItW (put7 w g' K' r' c' k' p' d' B') g K r c k p d B :=
  ((((((h.other hne).other hne).other hne).other hne).other hne).other hne).other hne
theorem below_put {B : Nat} {a w : World} (h : Below B a w) {g : Nat} (hg : B ≤ g) (K : ByteArray) (r c k p : Int) (d : Bool) (X : ByteArray) : Below B a (put7 w g K r c k p d X) :=
  ((((((h.setCell (p := ⟨g, 0, none⟩) hg _).setCell (p := ⟨g, 1, none⟩) hg _).setCell (p := ⟨g, 2, none⟩) hg _).setCell (p := ⟨g, 3, none⟩) hg _).setCell (p := ⟨g, 4, none⟩) hg _).setCell (p := ⟨g, 5, none⟩) hg _).setCell (p := ⟨g, 6, none⟩) hg _
def numI (x : Itm) : Itm := ⟨[], x.ver, x.rank, 0, false, []⟩
theorem numI_is {x : Itm} {K : ByteArray} {r c k p : Int} {d : Bool} {B : ByteArray} (hx : IsI x K r c k p d B) : IsI (numI x) ⟨#[]⟩ r c k 0 false ⟨#[]⟩ := ⟨rfl, hx.rep, hx.cnt, hx.rank, rfl, rfl, rfl⟩
theorem cmpIm_one {x y : Itm} : cmpIm x y = 1 ↔ beatsI x y = true := by
  unfold cmpIm
  cases h : beatsI x y
  · cases h2 : beatsI y x <;> simp
  · simp
theorem cmpIm_pos (x y : Itm) : decide (cmpIm x y > 0) = beatsI x y := by
  unfold cmpIm
  cases h : beatsI x y
  · cases h2 : beatsI y x <;> simp
  · simp
theorem cmpIm_same {x y : Itm} (h : numI x = numI y) : cmpIm x y = 0 := by
  have h1 : x.ver = y.ver := by unfold numI at h; injection h
  have h2 : x.rank = y.rank := by unfold numI at h; injection h
  have e1 : beatsI x y = false := beatsI_no.2 (by rw [h1, h2]; omega)
  have e2 : beatsI y x = false := beatsI_no.2 (by rw [h1, h2]; omega)
  unfold cmpIm; rw [e1, e2]
theorem cmpIm_else {x y : Itm} (h : numI x ≠ numI y) (hb : beatsI x y = false) : cmpIm x y = -1 := by
  have e2 : beatsI y x = true := by
    rw [beatsI_iff]
    rw [beatsI_no] at hb
    have hne : ¬ (x.rank = y.rank ∧ x.ver.rep = y.ver.rep ∧ x.ver.cnt = y.ver.cnt) := fun ⟨h1, h2, h3⟩ => h (by unfold numI; rw [show x.ver = y.ver from vr_ext h2 h3, h1])
    omega
  unfold cmpIm; rw [hb, e2]
def cmpZ (q b : Bool) : Int := match q with
  | true => 0
  | false => match b with
    | true => 1
    | false => -1
theorem beats_by {x y : Itm} {b1 b2 b3 : Bool} (h1 : decide (x.rank > y.rank) = b1) (h2 : (x.rank == y.rank) = b2) (h3 : decide (cmpVr x.ver y.ver > 0) = b3) : beatsI x y = (b1 || (b2 && b3)) := by
  have e3 : b3 = lessVr y.ver x.ver := by
    rw [← h3]
    rcases cmpVr_three x.ver y.ver with ⟨h, -, -, h'⟩ | ⟨h, -, -, h'⟩ | ⟨h, -, -, h', -⟩ <;> (rw [h, h']; rfl)
  subst h1 h2 e3
  unfold beatsI
  by_cases h : x.rank = y.rank
  · rw [decide_eq_true h, h]
    show lessVr y.ver x.ver = _
    simp
  · rw [decide_eq_false h]
    show decide (y.rank < x.rank) = _
    have : (x.rank == y.rank) = false := beq_eq_false_iff_ne.2 h
    rw [this]; simp
set_option maxRecDepth 100000 in
set_option maxHeartbeats 4000000 in
theorem itp_cmp (x y : Itm) (K : ByteArray) (r c k p : Int) (d : Bool) (B : ByteArray) (hx : IsI x K r c k p d B) (K' : ByteArray) (r' c' k' p' : Int) (d' : Bool) (B' : ByteArray) (hy : IsI y K' r' c' k' p' d' B') (z : Int) (hz : cmpIm x y = z) (w : World) :
    Calls Try.prog 12 #[itV K r c k p d B, itV K' r' c' k' p' d' B'] w fun e w' => e = .returned (.int .i64 z) ∧ Below w.heap.size w w' := by
  have HW := Lib.hid (show Below w.heap.size w ((w.alloc (itO K r c k p d B)).alloc (itO K' r' c' k' p' d' B')) from (below_new w _).trans ((below_new _ _).mono (by simp)))
  have H1 := Lib.hid ((itW_new w K r c k p d B).alloc (itO K' r' c' k' p' d' B'))
  have H2 := Lib.hid (itW_new (w.alloc (itO K r c k p d B)) K' r' c' k' p' d' B')
  rw [size1] at H2
  obtain ⟨W0, hW0⟩ : ∃ W0, ((w.alloc (itO K r c k p d B)).alloc (itO K' r' c' k' p' d' B')) = W0 := ⟨_, rfl⟩
  rw [hW0] at HW H1 H2
  have C1 := fun w => Lib.hid (itp_numbers K r c k p d B w)
  have C2 := fun w => Lib.hid (itp_numbers K' r' c' k' p' d' B' w)
  obtain ⟨q, hq⟩ : ∃ q, eqI (numI x) (numI y) = q := ⟨_, rfl⟩
  have EQ := fun w => eq_itms (numI x) (numI y) _ _ _ _ _ _ _ (numI_is hx) _ _ _ _ _ _ _ (numI_is hy) q hq w
  obtain ⟨b1, h1⟩ : ∃ b, decide (k > k') = b := ⟨_, rfl⟩
  obtain ⟨b2, h2⟩ : ∃ b, (k == k') = b := ⟨_, rfl⟩
  obtain ⟨zc, hzc⟩ : ∃ zc, cmpVr x.ver y.ver = zc := ⟨_, rfl⟩
  obtain ⟨b3, h3⟩ : ∃ b, decide (zc > 0) = b := ⟨_, rfl⟩
  have C3 := fun w => Lib.hid (k_vcmp x.ver y.ver r c r' c' hx.rep hx.cnt hy.rep hy.cnt zc hzc w)
  have HB := beats_by (x := x) (y := y) (b1 := b1) (b2 := b2) (b3 := b3) (by rw [hx.rank, hy.rank]; exact h1) (by rw [hx.rank, hy.rank]; exact h2) (by rw [hzc]; exact h3)
  have HZ := Lib.hid (show z = cmpZ q (b1 || (b2 && b3)) from by
    rw [← hz]
    cases q with
    | true => exact cmpIm_same (eqI_iff.1 hq)
    | false =>
      have hne : numI x ≠ numI y := fun e => by rw [eqI_iff.2 e] at hq; cases hq
      cases hb : (b1 || (b2 && b3))
      · exact cmpIm_else hne (HB.trans hb)
      · exact cmpIm_one.2 (HB.trans hb))
  have f1 : decide (k' < k) = b1 := h1
  have f3 : decide (0 < zc) = b3 := h3
  clear hx hy hz hq hzc HB
  go_enter Try.func12, Try.ntmps12
  go_upto_region 1 with fail
  go_cut [] from 5 (fun wx => Hid (ItW wx w.heap.size ⟨#[]⟩ r c k 0 false ⟨#[]⟩) ∧ Hid (ItW wx (w.heap.size + 1) ⟨#[]⟩ r' c' k' 0 false ⟨#[]⟩) ∧ Hid (Below w.heap.size w wx))
  case first =>
    obtain ⟨⟨a0, a1, a2, a3, a4, a5, a6⟩, a7⟩ := H1.out
    obtain ⟨⟨b0, b1', b2', b3', b4, b5, b6⟩, b7⟩ := H2.out
    go_region_with (first
      | ((with_reducible refine (C1 _).out.mono ?_); rintro e w3 ⟨rfl, hq⟩; (try replace hq := below_of_drew hq); clear a0 a1 a2 a3 a4 a5 a6 a7 b0 b1' b2' b3' b4 b5 b6 b7; replace H1 := Lib.hid (H1.out.grown (row := none) (grown_of_below hq none) (by simp)); replace H2 := Lib.hid (H2.out.grown (row := none) (grown_of_below hq none) (by simp)); replace HW := Lib.hid (HW.out.trans (hq.mono HW.out.size)); obtain ⟨⟨a0, a1, a2, a3, a4, a5, a6⟩, a7⟩ := H1.out; obtain ⟨⟨b0, b1', b2', b3', b4, b5, b6⟩, b7⟩ := H2.out; clear hq)
      | ((with_reducible refine (C2 _).out.mono ?_); rintro e w3 ⟨rfl, hq⟩; (try replace hq := below_of_drew hq); clear a0 a1 a2 a3 a4 a5 a6 a7 b0 b1' b2' b3' b4 b5 b6 b7; replace H1 := Lib.hid (H1.out.grown (row := none) (grown_of_below hq none) (by simp)); replace H2 := Lib.hid (H2.out.grown (row := none) (grown_of_below hq none) (by simp)); replace HW := Lib.hid (HW.out.trans (hq.mono HW.out.size)); obtain ⟨⟨a0, a1, a2, a3, a4, a5, a6⟩, a7⟩ := H1.out; obtain ⟨⟨b0, b1', b2', b3', b4, b5, b6⟩, b7⟩ := H2.out; clear hq))
    all_goals
      go_wp2_with fail
      go_meet
      exact ⟨Lib.hid ((H1.out.put ⟨#[]⟩ r c k 0 false ⟨#[]⟩).far (by omega) ⟨#[]⟩ r' c' k' 0 false ⟨#[]⟩), Lib.hid ((H2.out.far (by omega) ⟨#[]⟩ r c k 0 false ⟨#[]⟩).put ⟨#[]⟩ r' c' k' 0 false ⟨#[]⟩), Lib.hid (below_put (below_put HW.out (Nat.le_refl _) _ _ _ _ _ _ _) (Nat.le_succ _) _ _ _ _ _ _ _)⟩
  case rest =>
    clear H1 H2 HW C1 C2
    obtain ⟨H1, H2, HW⟩ := hcut
    obtain ⟨⟨a0, a1, a2, a3, a4, a5, a6⟩, a7⟩ := H1.out
    obtain ⟨⟨b0, b1', b2', b3', b4, b5, b6⟩, b7⟩ := H2.out
    cases q
    case' false =>
      cases b1
      case' false =>
        cases b2
        case' true =>
          cases b3
    all_goals
      go_wp2_with ((with_reducible refine (C3 _).out.mono ?_); rintro e w3 ⟨rfl, hq⟩; replace HW := Lib.hid (HW.out.trans (hq.mono HW.out.size)); clear hq)
      go_ret
      exact ⟨by rw [HZ.out]; rfl, HW.out⟩
end Go.Proofs.Ytfjaklpddcafdaa

namespace Go.Proofs.Ytfjaklpddcafdaa
open Go.RowKit

def zItm : Itm := ⟨[], ⟨0, 0⟩, 0, 0, false, []⟩
def bestV : Option Itm → Itm
  | some x => x
  | none => zItm
theorem right_rank {x : Itm} (h : rightI x = true) : 1 ≤ x.rank := by
  unfold rightI at h
  simp only [Bool.and_eq_true, decide_eq_true_eq] at h
  exact h.2.2.2.1
theorem beats_zero {x : Itm} (h : rightI x = true) : beatsI x zItm = true := beatsI_iff.2 (.inl (by have := right_rank h; show (0 : Int) < x.rank; omega))
theorem bestV_skip {l : List Itm} {k : Nat} {x y : Itm} (hx : l[k]? = some x) (hr : rightI x = false) (h : bestV (bestF rightI (l.take k)) = y) : bestV (bestF rightI (l.take (k + 1))) = y := by
  rw [bestF_take hx, keepO_no hr, combO_none]; exact h
theorem bestV_yes {l : List Itm} {k : Nat} {x y : Itm} (hx : l[k]? = some x) (hr : rightI x = true) (h : bestV (bestF rightI (l.take k)) = y) (hb : beatsI x y = true) : bestV (bestF rightI (l.take (k + 1))) = x := by
  rw [bestF_take hx, keepO_yes hr]
  cases hf : bestF rightI (l.take k) with
  | none => rfl
  | some b =>
    rw [hf] at h
    have h : b = y := h
    rw [h, combO_yes hb]; rfl
theorem bestV_no {l : List Itm} {k : Nat} {x y : Itm} (hx : l[k]? = some x) (hr : rightI x = true) (h : bestV (bestF rightI (l.take k)) = y) (hb : beatsI x y = false) : bestV (bestF rightI (l.take (k + 1))) = y := by
  rw [bestF_take hx, keepO_yes hr]
  cases hf : bestF rightI (l.take k) with
  | none =>
    rw [hf] at h
    have h : zItm = y := h
    rw [← h, beats_zero hr] at hb; cases hb
  | some b =>
    rw [hf] at h
    have h : b = y := h
    rw [h, combO_no hb]; exact rfl
theorem bestV_some {l : List Itm} {y : Itm} (h : bestV (bestF rightI l) = y) : eqI y zItm = !(bestF rightI l).isSome := by
  cases hf : bestF rightI l with
  | none =>
    rw [hf] at h
    have h : zItm = y := h
    rw [← h]; exact eqI_iff.2 rfl
  | some b =>
    rw [hf] at h
    have h : b = y := h
    have hr := right_rank (bestF_mem hf).2
    cases he : eqI y zItm
    · rfl
    · have := eqI_iff.1 he
      rw [h, this] at hr
      exact absurd hr (by decide)
def ItY (w : World) (g : Nat) (y : Itm) : Prop := ItW w g (str y.key) y.ver.rep y.ver.cnt y.rank y.prio y.dead (str y.body)
theorem ItY.is {w : World} {g : Nat} {y : Itm} (h : ItY w g y) {K : ByteArray} {r c k p : Int} {d : Bool} {B : ByteArray} (hy : IsI y K r c k p d B) : ItW w g K r c k p d B := by
  obtain ⟨rfl, rfl, rfl, rfl, rfl, rfl, rfl⟩ := hy; exact h
theorem ItW.y {w : World} {g : Nat} {y : Itm} {K : ByteArray} {r c k p : Int} {d : Bool} {B : ByteArray} (h : ItW w g K r c k p d B) (hy : IsI y K r c k p d B) : ItY w g y := by
  obtain ⟨rfl, rfl, rfl, rfl, rfl, rfl, rfl⟩ := hy; exact h
theorem ItW.below {w w' : World} {g : Nat} {K : ByteArray} {r c k p : Int} {d : Bool} {B : ByteArray} (h : ItW w g K r c k p d B) (hb : Below w.heap.size w w') : ItW w' g K r c k p d B := h.grown (row := none) (grown_of_below hb none) (by simp)
theorem ItW.drew {w : World} {g : Nat} {K : ByteArray} {r c k p : Int} {d : Bool} {B : ByteArray} (h : ItW w g K r c k p d B) : ItW w.drew g K r c k p d B := h.below (Below.refl _ _).drew
set_option maxRecDepth 100000 in
set_option maxHeartbeats 4000000 in
theorem itp_wins (A : Option Addr) (c n : Nat) (l : List Itm) (hn : n = l.length) (y : Itm) (hy : bestV (bestF rightI l) = y) (K : ByteArray) (r c1 k1 p1 : Int) (d1 : Bool) (B1 : ByteArray) (hI : IsI y K r c1 k1 p1 d1 B1) (o : Bool) (ho : (bestF rightI l).isSome = o) (w : World) (hr : kItm.Rd w w.heap.size A c l) :
    Calls Try.prog 13 #[.slice A n c] w fun e w' => e = .returned (.tuple #[itV K r c1 k1 p1 d1 B1, .bool o]) ∧ Below w.heap.size w w' := by
  have HN := Lib.hid hn
  have HR := Lib.hid hr
  have HY := Lib.hid hy
  have HI := Lib.hid hI
  have HO := Lib.hid ho
  have hmx := rd_maxI hr hn
  have hcx : n ≤ c := by rw [hn]; exact hr.room
  have HW := Lib.hid (itm_two w (itO ⟨#[]⟩ 0 0 0 0 false ⟨#[]⟩) (itO ⟨#[]⟩ 0 0 0 0 false ⟨#[]⟩))
  have H2 := Lib.hid (((itW_new w ⟨#[]⟩ 0 0 0 0 false ⟨#[]⟩).alloc (itO ⟨#[]⟩ 0 0 0 0 false ⟨#[]⟩)).y (y := zItm) ⟨rfl, rfl, rfl, rfl, rfl, rfl, rfl⟩)
  have H4 := Lib.hid ((itW_new (w.alloc (itO ⟨#[]⟩ 0 0 0 0 false ⟨#[]⟩)) ⟨#[]⟩ 0 0 0 0 false ⟨#[]⟩).y (y := zItm) ⟨rfl, rfl, rfl, rfl, rfl, rfl, rfl⟩)
  rw [size1] at H4
  clear hn hr hy hI ho
  go_enter Try.func13, Try.ntmps13
  go_wp2_with fail
  go_loopw [9] (fun i wr => ∃ (k : Nat) (u : Itm), k ≤ n ∧ i = .int .i64 k ∧ Hid (bestV (bestF rightI (l.take k)) = u) ∧ Hid (ItY wr w.heap.size zItm) ∧ Hid (ItY wr (w.heap.size + 1) u) ∧ Hid (Below w.heap.size w wr)) (fun i _ => n - (intOf i).toNat)
  case atStart => exact ⟨0, zItm, by omega, rfl, rfl, H2, H4, HW⟩
  case round =>
    clear H2 H4 HW
    obtain ⟨k, u, hk, rfl, HU, H2, H4, HW⟩ := hrel
    obtain ⟨K4, r4, c4, k4, p4, d4, B4, hI4⟩ : ∃ K r c k p d B, IsI u K r c k p d B := ⟨_, _, _, _, _, _, _, IsI.mk' u⟩
    by_cases hlt : k < n
    · obtain ⟨x, hg, hd, hxm⟩ := get_some (l := l) (k := k) (by have := HN.out; omega)
      obtain ⟨b, o1, rfl, hb1, hcell⟩ := itms_at (HR.out.below HW.out) (by have := HN.out; omega)
      obtain ⟨p0, p1', p2, p3, p4', p5, p6⟩ := hcell k x hg
      obtain ⟨K6, r6, c6, k6, p6', d6, B6, hI6⟩ : ∃ K r c k p d B, IsI x K r c k p d B := ⟨_, _, _, _, _, _, _, IsI.mk' x⟩
      rw [hI6.key] at p0
      rw [hI6.rep] at p1'
      rw [hI6.cnt] at p2
      rw [hI6.rank] at p3
      rw [hI6.prio] at p4'
      rw [hI6.dead] at p5
      rw [hI6.body] at p6
      obtain ⟨v, hv⟩ : ∃ v, rightI x = v := ⟨_, rfl⟩
      obtain ⟨z, hz⟩ : ∃ z, cmpIm x u = z := ⟨_, rfl⟩
      obtain ⟨t, ht⟩ : ∃ t, beatsI x u = t := ⟨_, rfl⟩
      have hzt : decide (z > 0) = t := by rw [← hz, ← ht]; exact cmpIm_pos x u
      have hzt2 : decide (0 < z) = t := hzt
      have C1 := fun w => Lib.hid (itp_right x K6 r6 c6 k6 p6' d6 B6 hI6 v hv w)
      have C2 := fun w => Lib.hid (itp_cmp x u K6 r6 c6 k6 p6' d6 B6 hI6 K4 r4 c4 k4 p4 d4 B4 hI4 z hz w)
      have H24 := Lib.hid ((H2.out.is ⟨rfl, rfl, rfl, rfl, rfl, rfl, rfl⟩ : ItW wr w.heap.size ⟨#[]⟩ 0 0 0 0 false ⟨#[]⟩).alloc (itO K6 r6 c6 k6 p6' d6 B6))
      have H44 := Lib.hid ((H4.out.is hI4).alloc (itO K6 r6 c6 k6 p6' d6 B6))
      have H64 := Lib.hid (itW_new wr K6 r6 c6 k6 p6' d6 B6)
      have HW4 := Lib.hid (HW.out.alloc HW.out.size (itO K6 r6 c6 k6 p6' d6 B6))
      have hws : w.heap.size + 1 < wr.heap.size := H4.out.lt
      obtain ⟨W6, hW6⟩ : ∃ W6, wr.alloc (itO K6 r6 c6 k6 p6' d6 B6) = W6 := ⟨_, rfl⟩
      rw [hW6] at H24 H44 H64 HW4
      obtain ⟨⟨s0, s1, s2, s3, s4, s5, s6⟩, s7⟩ := H64.out
      have HK := Lib.hid (show v = false → bestV (bestF rightI (l.take (k + 1))) = u from fun e => bestV_skip hg (hv.trans e) HU.out)
      have HK1 := Lib.hid (show v = true → t = true → bestV (bestF rightI (l.take (k + 1))) = x from fun e e2 => bestV_yes hg (hv.trans e) HU.out (ht.trans e2))
      have HK2 := Lib.hid (show v = true → t = false → bestV (bestF rightI (l.take (k + 1))) = u from fun e e2 => bestV_no hg (hv.trans e) HU.out (ht.trans e2))
      have HI4 := Lib.hid hI4
      have HI6 := Lib.hid hI6
      have hk0 : (0 : Int) ≤ (k : Int) := by omega
      have hkn : (k : Int) < (n : Int) := by omega
      clear hcell hg hd hxm hz ht hI4 hI6 hv
      cases v with
      | false =>
        have HKK := Lib.hid (HK.out rfl)
        go_wp2_with ((with_reducible refine (C1 _).out.mono ?_); rintro e w2 ⟨rfl, hq⟩; replace H24 := Lib.hid (H24.out.below hq); replace H44 := Lib.hid (H44.out.below hq); replace HW4 := Lib.hid (HW4.out.trans (hq.mono HW4.out.size)); clear hq)
        go_roundw
        case rel => exact ⟨k + 1, u, by omega, by go_num, HKK, Lib.hid (H24.out.y ⟨rfl, rfl, rfl, rfl, rfl, rfl, rfl⟩), Lib.hid (H44.out.y HI4.out), HW4⟩
        case measure => simp [intOf]; omega
      | true =>
        have HKK1 := Lib.hid (HK1.out rfl)
        have HKK2 := Lib.hid (HK2.out rfl)
        clear HK HK1 HK2
        cases t with
        | false =>
          have HKK := Lib.hid (HKK2.out rfl)
          go_wp2_with (first
            | ((with_reducible refine (C1 _).out.mono ?_); rintro e w2 ⟨rfl, hq⟩; clear s0 s1 s2 s3 s4 s5 s6 s7; replace H24 := Lib.hid (H24.out.below hq); replace H44 := Lib.hid (H44.out.below hq); replace H64 := Lib.hid (H64.out.below hq); replace HW4 := Lib.hid (HW4.out.trans (hq.mono HW4.out.size)); obtain ⟨⟨s0, s1, s2, s3, s4, s5, s6⟩, s7⟩ := H64.out; obtain ⟨⟨t0, t1, t2, t3, t4, t5, t6⟩, t7⟩ := H44.out; clear hq)
            | ((with_reducible refine (C2 _).out.mono ?_); rintro e w2 ⟨rfl, hq⟩; clear s0 s1 s2 s3 s4 s5 s6 s7 t0 t1 t2 t3 t4 t5 t6 t7; replace H24 := Lib.hid (H24.out.below hq); replace H44 := Lib.hid (H44.out.below hq); replace H64 := Lib.hid (H64.out.below hq); replace HW4 := Lib.hid (HW4.out.trans (hq.mono HW4.out.size)); clear hq))
          go_roundw
          case rel => exact ⟨k + 1, u, by omega, by go_num, HKK, Lib.hid (H24.out.y ⟨rfl, rfl, rfl, rfl, rfl, rfl, rfl⟩), Lib.hid (H44.out.y HI4.out), HW4⟩
          case measure => simp [intOf]; omega
        | true =>
          have HKK := Lib.hid (HKK1.out rfl)
          go_wp2_with (first
            | ((with_reducible refine (C1 _).out.mono ?_); rintro e w2 ⟨rfl, hq⟩; clear s0 s1 s2 s3 s4 s5 s6 s7; replace H24 := Lib.hid (H24.out.below hq); replace H44 := Lib.hid (H44.out.below hq); replace H64 := Lib.hid (H64.out.below hq); replace HW4 := Lib.hid (HW4.out.trans (hq.mono HW4.out.size)); obtain ⟨⟨s0, s1, s2, s3, s4, s5, s6⟩, s7⟩ := H64.out; obtain ⟨⟨t0, t1, t2, t3, t4, t5, t6⟩, t7⟩ := H44.out; clear hq)
            | ((with_reducible refine (C2 _).out.mono ?_); rintro e w2 ⟨rfl, hq⟩; clear s0 s1 s2 s3 s4 s5 s6 s7 t0 t1 t2 t3 t4 t5 t6 t7; replace H24 := Lib.hid (H24.out.below hq); replace H44 := Lib.hid (H44.out.below hq); replace H64 := Lib.hid (H64.out.below hq); replace HW4 := Lib.hid (HW4.out.trans (hq.mono HW4.out.size)); obtain ⟨⟨s0, s1, s2, s3, s4, s5, s6⟩, s7⟩ := H64.out; obtain ⟨⟨t0, t1, t2, t3, t4, t5, t6⟩, t7⟩ := H44.out; clear hq))
          go_roundw
          case rel => exact ⟨k + 1, x, by omega, by go_num, HKK, Lib.hid ((H24.out.far (by omega) _ _ _ _ _ _ _).y ⟨rfl, rfl, rfl, rfl, rfl, rfl, rfl⟩), Lib.hid ((H44.out.put K6 r6 c6 k6 p6' d6 B6).y HI6.out), Lib.hid (below_put HW4.out (Nat.le_succ _) _ _ _ _ _ _ _)⟩
          case measure => simp [intOf]; omega
    · have hkn : l.take k = l := List.take_of_length_le (by have := HN.out; omega)
      have HU2 := Lib.hid (show y = u from by rw [← HY.out, ← HU.out, hkn])
      have HE := bestV_some (l := l) (y := u) (by rw [← HU2.out]; exact HY.out)
      rw [HO.out] at HE
      obtain rfl : y = u := HU2.out
      have H25 := Lib.hid (H2.out.is ⟨rfl, rfl, rfl, rfl, rfl, rfl, rfl⟩ : ItW wr w.heap.size ⟨#[]⟩ 0 0 0 0 false ⟨#[]⟩)
      have H45 := Lib.hid (H4.out.is HI.out)
      have EQ := fun w => eq_itms y zItm K r c1 k1 p1 d1 B1 HI.out ⟨#[]⟩ 0 0 0 0 false ⟨#[]⟩ ⟨rfl, rfl, rfl, rfl, rfl, rfl, rfl⟩ (!o) HE w
      obtain ⟨⟨s0, s1, s2, s3, s4, s5, s6⟩, s7⟩ := H25.out
      obtain ⟨⟨t0, t1, t2, t3, t4, t5, t6⟩, t7⟩ := H45.out
      have hws : w.heap.size + 1 < wr.heap.size := H4.out.lt
      have HF := Lib.hid (((H25.out.put K r c1 k1 p1 d1 B1)).drew)
      have HBF := Lib.hid ((below_put HW.out (Nat.le_refl _) K r c1 k1 p1 d1 B1).drew)
      clear hkn HE hI4
      go_wp2_with fail
      go_region
      go_wp2_with fail
      obtain ⟨wz, hwz⟩ : ∃ wz, (put7 wr w.heap.size K r c1 k1 p1 d1 B1).drew = wz := ⟨_, rfl⟩
      rw [hwz]
      rw [hwz] at HF HBF
      obtain ⟨⟨y0, y1, y2, y3, y4, y5, y6⟩, -⟩ := HF.out
      exact bodyPost_ret (v := .tuple #[itV K r c1 k1 p1 d1 B1, .bool o]) (by simp [results, Try.results13, go_sem, y0, y1, y2, y3, y4, y5, y6]) rfl ⟨rfl, HBF.out⟩
end Go.Proofs.Ytfjaklpddcafdaa

namespace Go.Proofs.Ytfjaklpddcafdaa

structure StO {α : Type} (lt : α → α → Bool) : Prop where
  irrefl : ∀ x, lt x x = false
  trans : ∀ x y z, lt x y = true → lt y z = true → lt x z = true
  ntrans : ∀ x y z, lt x y = false → lt y z = false → lt x z = false
namespace StO
variable {α : Type} {lt : α → α → Bool} (h : StO lt)
include h
theorem asymm {x y : α} (hx : lt x y = true) : lt y x = false := by
  cases hy : lt y x
  · rfl
  · have := h.trans x y x hx hy; rw [h.irrefl] at this; cases this
end StO
def alikeS {α : Type} (lt : α → α → Bool) (x y : α) : Bool := !lt x y && !lt y x
theorem alikeS_iff {α : Type} {lt : α → α → Bool} {x y : α} : alikeS lt x y = true ↔ lt x y = false ∧ lt y x = false := by
  unfold alikeS; cases lt x y <;> cases lt y x <;> simp
def StabS {α : Type} (lt : α → α → Bool) (a b : List α) : Prop := a.length = b.length ∧ ∀ z, a.filter (alikeS lt z) = b.filter (alikeS lt z)
def SortS {α : Type} (lt : α → α → Bool) (l : List α) : Prop := l.Pairwise fun x y => lt y x = false
section
variable {α : Type} {lt : α → α → Bool}
theorem StabS.refl (a : List α) : StabS lt a a := ⟨rfl, fun _ => rfl⟩
theorem StabS.symm {a b : List α} (h : StabS lt a b) : StabS lt b a := ⟨h.1.symm, fun z => (h.2 z).symm⟩
theorem StabS.trans {a b c : List α} (h : StabS lt a b) (k : StabS lt b c) : StabS lt a c := ⟨h.1.trans k.1, fun z => (h.2 z).trans (k.2 z)⟩
theorem StabS.append {a b c d : List α} (h : StabS lt a b) (k : StabS lt c d) : StabS lt (a ++ c) (b ++ d) :=
  ⟨by rw [List.length_append, List.length_append, h.1, k.1], fun z => by rw [List.filter_append, List.filter_append, h.2, k.2]⟩
theorem StabS.mem (ho : StO lt) {a b : List α} (h : StabS lt a b) {x : α} : x ∈ a ↔ x ∈ b := by
  have e : alikeS lt x x = true := alikeS_iff.2 ⟨ho.irrefl x, ho.irrefl x⟩
  constructor
  · intro hx
    have : x ∈ a.filter (alikeS lt x) := List.mem_filter.2 ⟨hx, e⟩
    rw [h.2] at this
    exact (List.mem_filter.1 this).1
  · intro hx
    have : x ∈ b.filter (alikeS lt x) := List.mem_filter.2 ⟨hx, e⟩
    rw [← h.2] at this
    exact (List.mem_filter.1 this).1
theorem StabS.turn (ho : StO lt) {u v : List α} (h : ∀ x ∈ u, ∀ y ∈ v, lt y x = true) : StabS lt (u ++ v) (v ++ u) := by
  refine ⟨by rw [List.length_append, List.length_append, Nat.add_comm], fun z => ?_⟩
  rw [List.filter_append, List.filter_append]
  by_cases hu : u.filter (alikeS lt z) = []
  · rw [hu, List.nil_append, List.append_nil]
  · have hv : v.filter (alikeS lt z) = [] := by
      rw [List.filter_eq_nil_iff]
      intro y hy hz
      obtain ⟨x, hx⟩ := List.exists_mem_of_ne_nil _ hu
      obtain ⟨hx1, hx2⟩ := List.mem_filter.1 hx
      have h1 := h x hx1 y hy
      rw [alikeS_iff] at hz hx2
      have := ho.ntrans y z x hz.2 hx2.1
      rw [this] at h1; cases h1
    rw [hv, List.nil_append, List.append_nil]
theorem SortS.nil : SortS lt [] := List.Pairwise.nil
theorem SortS.one (x : α) : SortS lt [x] := List.pairwise_singleton _ x
theorem SortS.append {a b : List α} : SortS lt (a ++ b) ↔ SortS lt a ∧ SortS lt b ∧ ∀ x ∈ a, ∀ y ∈ b, lt y x = false := List.pairwise_append
theorem SortS.at_ {l : List α} (ho : StO lt) (h : SortS lt l) {i j : Nat} {x y : α} (hij : i ≤ j) (hx : l[i]? = some x) (hy : l[j]? = some y) : lt y x = false := by
  by_cases e : i = j
  · subst e; rw [hx] at hy; injection hy with hy; subst hy; exact ho.irrefl _
  · obtain ⟨hi, rfl⟩ := List.getElem?_eq_some_iff.1 hx
    obtain ⟨hj, rfl⟩ := List.getElem?_eq_some_iff.1 hy
    exact (List.pairwise_iff_getElem.1 h) i j hi hj (by omega)
theorem SortS.of_short {l : List α} (h : l.length ≤ 1) : SortS lt l := by
  match l, h with
  | [], _ => exact SortS.nil
  | [x], _ => exact SortS.one x
  | _ :: _ :: _, h => simp at h
structure DoneS (lt : α → α → Bool) (a b : List α) : Prop where
  stab : StabS lt a b
  sort : SortS lt b
theorem DoneS.refl {a : List α} (h : SortS lt a) : DoneS lt a a := ⟨StabS.refl a, h⟩
theorem DoneS.len {a b : List α} (h : DoneS lt a b) : b.length = a.length := h.stab.1.symm
theorem DoneS.insert (ho : StO lt) {x : α} {a b : List α} (hab : SortS lt (a ++ b)) (hb : ∀ y ∈ b, lt x y = true) (ha : ∀ y ∈ a, lt x y = false) : DoneS lt (a ++ b ++ [x]) (a ++ ([x] ++ b)) := by
  obtain ⟨h1, h2, h3⟩ := SortS.append.1 hab
  refine ⟨?_, SortS.append.2 ⟨h1, SortS.append.2 ⟨SortS.one x, h2, fun y hy z hz => ?_⟩, fun y hy z hz => ?_⟩⟩
  · rw [List.append_assoc]
    refine (StabS.refl a).append (StabS.turn ho fun y hy z hz => ?_)
    rw [List.mem_singleton] at hz; subst hz; exact hb y hy
  · rw [List.mem_singleton] at hy; subst hy; exact ho.asymm (hb z hz)
  · rcases List.mem_append.1 hz with hz | hz
    · rw [List.mem_singleton] at hz; subst hz; exact ha y hy
    · exact h3 y hy z hz
theorem DoneS.first (ho : StO lt) {x : α} {a b : List α} (hab : SortS lt (a ++ b)) (ha : ∀ y ∈ a, lt y x = true) (hb : ∀ y ∈ b, lt y x = false) : DoneS lt ([x] ++ (a ++ b)) (a ++ ([x] ++ b)) := by
  obtain ⟨h1, h2, h3⟩ := SortS.append.1 hab
  refine ⟨?_, SortS.append.2 ⟨h1, SortS.append.2 ⟨SortS.one x, h2, fun y hy z hz => ?_⟩, fun y hy z hz => ?_⟩⟩
  · rw [← List.append_assoc, ← List.append_assoc]
    refine StabS.append (StabS.turn ho fun y hy z hz => ?_) (StabS.refl b)
    rw [List.mem_singleton] at hy; subst hy; exact ha z hz
  · rw [List.mem_singleton] at hy; subst hy; exact hb z hz
  · rcases List.mem_append.1 hz with hz | hz
    · rw [List.mem_singleton] at hz; subst hz; exact ho.asymm (ha y hy)
    · exact h3 y hy z hz
theorem DoneS.join (ho : StO lt) {u1 u2 v1 v2 p q : List α} (h21 : ∀ x ∈ u2, ∀ y ∈ v1, lt y x = true) (h12 : ∀ x ∈ u1, ∀ y ∈ v2, lt y x = false)
    (hu : SortS lt (u1 ++ u2)) (hv : SortS lt (v1 ++ v2)) (hp : DoneS lt (u1 ++ v1) p) (hq : DoneS lt (u2 ++ v2) q) : DoneS lt (u1 ++ u2 ++ (v1 ++ v2)) (p ++ q) := by
  obtain ⟨a1, a2, a3⟩ := SortS.append.1 hu
  obtain ⟨b1, b2, b3⟩ := SortS.append.1 hv
  refine ⟨?_, SortS.append.2 ⟨hp.sort, hq.sort, fun x hx y hy => ?_⟩⟩
  · have e1 : StabS lt (u1 ++ u2 ++ (v1 ++ v2)) (u1 ++ v1 ++ (u2 ++ v2)) := by
      rw [List.append_assoc, List.append_assoc, ← List.append_assoc u2, ← List.append_assoc v1]
      exact (StabS.refl u1).append ((StabS.turn ho h21).append (StabS.refl v2))
    exact e1.trans (hp.stab.append hq.stab)
  · have hx' := (hp.stab.mem ho).2 hx
    have hy' := (hq.stab.mem ho).2 hy
    rcases List.mem_append.1 hx' with hx' | hx' <;> rcases List.mem_append.1 hy' with hy' | hy'
    · exact a3 x hx' y hy'
    · exact h12 x hx' y hy'
    · exact ho.asymm (h21 y hy' x hx')
    · exact b3 x hx' y hy'
theorem get_right {a b : List α} {i : Nat} {x : α} (h : b[i]? = some x) : (a ++ b)[a.length + i]? = some x := by
  rw [List.getElem?_append_right (by omega), Nat.add_sub_cancel_left]; exact h
theorem get_mid {a b : List α} {x : α} : (a ++ x :: b)[a.length]? = some x := by
  rw [List.getElem?_append_right (Nat.le_refl _), Nat.sub_self]; rfl
theorem set_mid {a b : List α} {x y : α} : (a ++ x :: b).set a.length y = a ++ y :: b := by
  rw [List.set_append_right _ _ (Nat.le_refl _), Nat.sub_self]; rfl
end
end Go.Proofs.Ytfjaklpddcafdaa

namespace Go.Proofs.Ytfjaklpddcafdaa
open Go.RowKit

section
variable {α : Type}
theorem sw2 (A1 A2 A3 : List α) (x y : α) {i j : Nat} (hi : A1.length = i) (hj : A1.length + 1 + A2.length = j) :
    (A1 ++ x :: (A2 ++ y :: A3))[i]? = some x ∧ (A1 ++ x :: (A2 ++ y :: A3))[j]? = some y ∧ ((A1 ++ x :: (A2 ++ y :: A3)).set i y).set j x = A1 ++ y :: (A2 ++ x :: A3) := by
  subst hi hj
  have e : A1 ++ x :: (A2 ++ y :: A3) = (A1 ++ x :: A2) ++ y :: A3 := by simp
  have e' : A1 ++ y :: (A2 ++ y :: A3) = (A1 ++ y :: A2) ++ y :: A3 := by simp
  have l1 : A1.length + 1 + A2.length = (A1 ++ x :: A2).length := by simp; omega
  have l2 : A1.length + 1 + A2.length = (A1 ++ y :: A2).length := by simp; omega
  refine ⟨get_mid, ?_, ?_⟩
  · rw [e, l1]; exact get_mid
  · rw [set_mid, e', l2, set_mid]; simp
def swL (P U M V S : List α) (k : Nat) : List α := P ++ (V.take k ++ (U.drop k ++ (M ++ (U.take k ++ (V.drop k ++ S)))))
theorem swL_len (P U M V S : List α) (h : U.length = V.length) (k : Nat) : (swL P U M V S k).length = P.length + (U.length + (M.length + (V.length + S.length))) := by
  unfold swL
  simp only [List.length_append, List.length_take, List.length_drop]
  omega
theorem swL_start (P U M V S : List α) : swL P U M V S 0 = P ++ (U ++ (M ++ (V ++ S))) := by simp [swL]
theorem swL_end (P U M V S : List α) {m : Nat} (hU : U.length = m) (hV : V.length = m) : swL P U M V S m = P ++ (V ++ (M ++ (U ++ S))) := by
  unfold swL
  rw [List.take_of_length_le (by omega), List.take_of_length_le (by omega), List.drop_eq_nil_of_le (by omega), List.drop_eq_nil_of_le (by omega)]
  simp
theorem swL_step (P U M V S : List α) {m k a b : Nat} (hU : U.length = m) (hV : V.length = m) (ha : P.length = a) (hb : P.length + m + M.length = b) (hk : k < m) :
    ∃ x y, (swL P U M V S k)[a + k]? = some x ∧ (swL P U M V S k)[b + k]? = some y ∧ ((swL P U M V S k).set (a + k) y).set (b + k) x = swL P U M V S (k + 1) := by
  obtain ⟨x, hx⟩ : ∃ x, U[k]? = some x := ⟨_, List.getElem?_eq_getElem (by omega)⟩
  obtain ⟨y, hy⟩ : ∃ y, V[k]? = some y := ⟨_, List.getElem?_eq_getElem (by omega)⟩
  have dx : U.drop k = x :: U.drop (k + 1) := by
    rw [List.drop_eq_getElem_cons (by omega)]
    rw [List.getElem?_eq_getElem (by omega)] at hx
    injection hx with hx; rw [hx]
  have dy : V.drop k = y :: V.drop (k + 1) := by
    rw [List.drop_eq_getElem_cons (by omega)]
    rw [List.getElem?_eq_getElem (by omega)] at hy
    injection hy with hy; rw [hy]
  have tx : U.take (k + 1) = U.take k ++ [x] := by rw [List.take_add_one, hx]; rfl
  have ty : V.take (k + 1) = V.take k ++ [y] := by rw [List.take_add_one, hy]; rfl
  have e1 : swL P U M V S k = (P ++ V.take k) ++ x :: ((U.drop (k + 1) ++ (M ++ U.take k)) ++ y :: (V.drop (k + 1) ++ S)) := by
    unfold swL; rw [dx, dy]; simp
  have e2 : swL P U M V S (k + 1) = (P ++ V.take k) ++ y :: ((U.drop (k + 1) ++ (M ++ U.take k)) ++ x :: (V.drop (k + 1) ++ S)) := by
    unfold swL; rw [tx, ty]; simp
  have h := sw2 (P ++ V.take k) (U.drop (k + 1) ++ (M ++ U.take k)) (V.drop (k + 1) ++ S) x y (i := a + k) (j := b + k)
    (by rw [List.length_append, List.length_take]; omega) (by simp only [List.length_append, List.length_take, List.length_drop]; omega)
  rw [← e1, ← e2] at h
  exact ⟨x, y, h⟩
end
abbrev set7 (w : World) (g i : Nat) (K : ByteArray) (r c k p : Int) (d : Bool) (B : ByteArray) : World :=
  ((((((w.setCell ⟨g, i * 7, none⟩ (.string K)).setCell ⟨g, i * 7 + 1, none⟩ (.int .i64 r)).setCell ⟨g, i * 7 + 2, none⟩ (.int .i64 c)).setCell ⟨g, i * 7 + 3, none⟩ (.int .i64 k)).setCell ⟨g, i * 7 + 4, none⟩ (.int .i64 p)).setCell ⟨g, i * 7 + 5, none⟩ (.bool d)).setCell ⟨g, i * 7 + 6, none⟩ (.string B)
theorem own7 {w : World} {base g n c i : Nat} {l : List Itm} {x y : Itm} (h : kItm.Own w base (.slice (some ⟨g, 0, none⟩) n c) l) (hn : n = l.length) (hx : l[i]? = some x) {K : ByteArray} {r c' k p : Int} {d : Bool} {B : ByteArray} (hy : IsI y K r c' k p d B) :
    kItm.Own (set7 w g i K r c' k p d B) base (.slice (some ⟨g, 0, none⟩) n c) (l.set i y) := by
  have hi : i < l.length := (List.getElem?_eq_some_iff.1 hx).1
  obtain ⟨rfl, rfl, rfl, rfl, rfl, rfl, rfl⟩ := hy
  have h1 := h.stored (j := 0) (y := ⟨y.key, x.ver, x.rank, x.prio, x.dead, x.body⟩) (v := .string (str y.key)) hn hx (by decide) rfl
  have h2 := h1.stored (i := i) (j := 1) (y := ⟨y.key, ⟨y.ver.rep, x.ver.cnt⟩, x.rank, x.prio, x.dead, x.body⟩) (v := .int .i64 y.ver.rep) (by rw [hn, List.length_set]) (List.getElem?_set_self hi) (by decide) rfl
  rw [List.set_set] at h2
  have h3 := h2.stored (i := i) (j := 2) (y := ⟨y.key, y.ver, x.rank, x.prio, x.dead, x.body⟩) (v := .int .i64 y.ver.cnt) (by rw [hn, List.length_set]) (List.getElem?_set_self hi) (by decide) rfl
  rw [List.set_set] at h3
  have h4 := h3.stored (i := i) (j := 3) (y := ⟨y.key, y.ver, y.rank, x.prio, x.dead, x.body⟩) (v := .int .i64 y.rank) (by rw [hn, List.length_set]) (List.getElem?_set_self hi) (by decide) rfl
  rw [List.set_set] at h4
  have h5 := h4.stored (i := i) (j := 4) (y := ⟨y.key, y.ver, y.rank, y.prio, x.dead, x.body⟩) (v := .int .i64 y.prio) (by rw [hn, List.length_set]) (List.getElem?_set_self hi) (by decide) rfl
  rw [List.set_set] at h5
  have h6 := h5.stored (i := i) (j := 5) (y := ⟨y.key, y.ver, y.rank, y.prio, y.dead, x.body⟩) (v := .bool y.dead) (by rw [hn, List.length_set]) (List.getElem?_set_self hi) (by decide) rfl
  rw [List.set_set] at h6
  have h7 := h6.stored (i := i) (j := 6) (y := y) (v := .string (str y.body)) (by rw [hn, List.length_set]) (List.getElem?_set_self hi) (by decide) rfl
  rw [List.set_set] at h7
  exact h7
theorem below7 {B : Nat} {a w : World} (h : Below B a w) {g : Nat} (hg : B ≤ g) (i : Nat) (K : ByteArray) (r c k p : Int) (d : Bool) (X : ByteArray) : Below B a (set7 w g i K r c k p d X) :=
  ((((((h.setCell (p := ⟨g, i * 7, none⟩) hg _).setCell (p := ⟨g, i * 7 + 1, none⟩) hg _).setCell (p := ⟨g, i * 7 + 2, none⟩) hg _).setCell (p := ⟨g, i * 7 + 3, none⟩) hg _).setCell (p := ⟨g, i * 7 + 4, none⟩) hg _).setCell (p := ⟨g, i * 7 + 5, none⟩) hg _).setCell (p := ⟨g, i * 7 + 6, none⟩) hg _
theorem own_swap {w : World} {base g n c i j : Nat} {l : List Itm} {x y : Itm} (h : kItm.Own w base (.slice (some ⟨g, 0, none⟩) n c) l) (hn : n = l.length) (hx : l[i]? = some x) (hy : l[j]? = some y) {K : ByteArray} {r c1 k p : Int} {d : Bool} {B : ByteArray} (hX : IsI x K r c1 k p d B)
    {K' : ByteArray} {r' c' k' p' : Int} {d' : Bool} {B' : ByteArray} (hY : IsI y K' r' c' k' p' d' B') : kItm.Own (set7 (set7 w g i K' r' c' k' p' d' B') g j K r c1 k p d B) base (.slice (some ⟨g, 0, none⟩) n c) ((l.set i y).set j x) := by
  have hj : j < l.length := (List.getElem?_eq_some_iff.1 hy).1
  exact own7 (own7 h hn hx hY) (by rw [hn, List.length_set]) (List.getElem?_eq_getElem (l := l.set i y) (by rw [List.length_set]; exact hj)) hX
theorem own_it {w : World} {base g n c : Nat} {l : List Itm} (h : kItm.Own w base (.slice (some ⟨g, 0, none⟩) n c) l) (hn : n = l.length) {i : Nat} {x : Itm} (hx : l[i]? = some x) {K : ByteArray} {r c1 k p : Int} {d : Bool} {B : ByteArray} (hX : IsI x K r c1 k p d B) :
    w.cell? ⟨g, i * 7, none⟩ = some (.string K) ∧ w.cell? ⟨g, i * 7 + 1, none⟩ = some (.int .i64 r) ∧ w.cell? ⟨g, i * 7 + 2, none⟩ = some (.int .i64 c1) ∧ w.cell? ⟨g, i * 7 + 3, none⟩ = some (.int .i64 k) ∧ w.cell? ⟨g, i * 7 + 4, none⟩ = some (.int .i64 p) ∧ w.cell? ⟨g, i * 7 + 5, none⟩ = some (.bool d) ∧ w.cell? ⟨g, i * 7 + 6, none⟩ = some (.string B) := by
  have hi : i < l.length := (List.getElem?_eq_some_iff.1 hx).1
  obtain ⟨-, -, -, h4⟩ := h.at_g hn (by omega)
  obtain ⟨rfl, rfl, rfl, rfl, rfl, rfl, rfl⟩ := hX
  exact ⟨h4 i x hx 0 _ rfl, h4 i x hx 1 _ rfl, h4 i x hx 2 _ rfl, h4 i x hx 3 _ rfl, h4 i x hx 4 _ rfl, h4 i x hx 5 _ rfl, h4 i x hx 6 _ rfl⟩
abbrev rowV (g n c : Nat) : Value := .slice (some ⟨g, 0, none⟩) n c
abbrev byKeyV : Value := .func (.func 33) #[] #[]
set_option maxRecDepth 100000 in
set_option maxHeartbeats 4000000 in
theorem itm_swapRange (base g n c a b m : Nat) (P U M V S : List Itm) (hU : U.length = m) (hV : V.length = m) (ha : P.length = a) (hb : P.length + m + M.length = b) (hn : n = P.length + (U.length + (M.length + (V.length + S.length)))) (hn9 : n ≤ 1000000) (w : World)
    (hO : kItm.Own w base (rowV g n c) (P ++ (U ++ (M ++ (V ++ S))))) :
    Calls Try.prog 66 #[rowV g n c, .int .i64 (a : Int), .int .i64 (b : Int), .int .i64 (m : Int), byKeyV] w fun e w' => e = .returned (.tuple #[]) ∧ kItm.Own w' base (rowV g n c) (P ++ (V ++ (M ++ (U ++ S)))) ∧ Below base w w' := by
  have HO := Lib.hid (show kItm.Own w base (rowV g n c) (swL P U M V S 0) from by rw [swL_start]; exact hO)
  have HS := Lib.hid (fun (k : Nat) (hk : k < m) => swL_step P U M V S hU hV ha hb hk)
  have HE := Lib.hid (swL_end P U M V S hU hV)
  have HL := Lib.hid (fun k => (swL_len P U M V S (by omega) k).trans hn.symm)
  have hb1 : a + m ≤ b := by omega
  have hb2 : b + m ≤ n := by omega
  clear hO hU hV ha hb hn
  go_enter Try.func66, Try.ntmps66
  go_wp2_with fail
  go_loopw [10] (fun s wr => ∃ k : Nat, s = .int .i64 k ∧ k ≤ m ∧ Hid (kItm.Own wr base (rowV g n c) (swL P U M V S k)) ∧ Hid (Below base w wr)) (fun s _ => m - (intOf s).toNat)
  case atStart => exact ⟨0, rfl, by omega, HO, Below.refl _ _⟩
  case round =>
    obtain ⟨k, rfl, hk, HOk, HB⟩ := hrel
    by_cases hlt : k < m
    · obtain ⟨x, y, hx, hy, hxy⟩ := HS.out k hlt
      obtain ⟨K, r, c1, rk, pp, dd, BB, hI⟩ : ∃ K r c k p d B, IsI x K r c k p d B := ⟨_, _, _, _, _, _, _, IsI.mk' x⟩
      obtain ⟨K', r', c', rk', pp', dd', BB', hI'⟩ : ∃ K r c k p d B, IsI y K r c k p d B := ⟨_, _, _, _, _, _, _, IsI.mk' y⟩
      obtain ⟨I, hIe⟩ : ∃ I, I = a + k := ⟨_, rfl⟩
      obtain ⟨J, hJe⟩ : ∃ J, J = b + k := ⟨_, rfl⟩
      rw [← hIe] at hx hxy
      rw [← hJe] at hy hxy
      have hln := (HL.out k).symm
      obtain ⟨p0, p1, p2, p3, p4, p5, p6⟩ := own_it HOk.out hln hx hI
      obtain ⟨q0, q1, q2, q3, q4, q5, q6⟩ := own_it HOk.out hln hy hI'
      obtain ⟨hg1, hgl, hfz, -⟩ := HOk.out.at_g hln (by omega)
      have HOF := Lib.hid (own_swap HOk.out hln hx hy hI hI')
      rw [hxy] at HOF
      have HBF := Lib.hid (below7 (below7 HB.out hg1 I K' r' c' rk' pp' dd' BB') hg1 J K r c1 rk pp dd BB)
      have hi0 : (0 : Int) ≤ (I : Int) := by omega
      have hin : (I : Int) < (n : Int) := by omega
      have hid : decide ((I : Int) < 0) = false := decide_eq_false (by omega)
      have hiw : IntKind.i64.wrap ((a : Int) + (k : Int)) = (I : Int) := by rw [show (a : Int) + (k : Int) = (I : Int) by omega]; exact IntWalk.i64_in _ (by omega)
      have hj0 : (0 : Int) ≤ (J : Int) := by omega
      have hjn : (J : Int) < (n : Int) := by omega
      have hjd : decide ((J : Int) < 0) = false := decide_eq_false (by omega)
      have hjw : IntKind.i64.wrap ((b : Int) + (k : Int)) = (J : Int) := by rw [show (b : Int) + (k : Int) = (J : Int) by omega]; exact IntWalk.i64_in _ (by omega)
      have HIJ := Lib.hid (And.intro hIe hJe)
      have hIJ : I < J := by omega
      clear hx hy hxy hI hI' hln hg1 hIe hJe
      go_wp2_with fail
      go_region
      go_wp2_with fail
      go_roundw
      case rel => exact ⟨k + 1, by go_num, by omega, HOF.out.below (Below.refl _ _).drew, HBF.out.drew⟩
      case measure => simp [intOf]; omega
    · obtain rfl : k = m := by omega
      go_wp2_with fail
      go_end0
      exact ⟨rfl, by rw [← HE.out]; exact HOk.out, HB.out⟩
end Go.Proofs.Ytfjaklpddcafdaa

namespace Go.Proofs.Ytfjaklpddcafdaa
open Go.RowKit

set_option maxRecDepth 100000 in
set_option maxHeartbeats 4000000 in
theorem itm_rotate (base g n c a m b : Nat) (P U V S : List Itm) (ha : P.length = a) (hm : P.length + U.length = m) (hb : P.length + U.length + V.length = b) (hU : 0 < U.length) (hV : 0 < V.length) (hn : n = P.length + (U.length + (V.length + S.length))) (hn9 : n ≤ 1000000) (w : World)
    (hO : kItm.Own w base (rowV g n c) (P ++ (U ++ (V ++ S)))) :
    Calls Try.prog 61 #[rowV g n c, .int .i64 (a : Int), .int .i64 (m : Int), .int .i64 (b : Int), byKeyV] w fun e w' => e = .returned (.tuple #[]) ∧ kItm.Own w' base (rowV g n c) (P ++ (V ++ (U ++ S))) ∧ Below base w w' := by
  obtain ⟨i0, hi0⟩ : ∃ i0, U.length = i0 := ⟨_, rfl⟩
  obtain ⟨j0, hj0⟩ : ∃ j0, V.length = j0 := ⟨_, rfl⟩
  obtain ⟨G, hG⟩ : ∃ G, P ++ (V ++ (U ++ S)) = G := ⟨_, rfl⟩
  rw [hG]
  have hx1 : (m : Int) - (a : Int) = (i0 : Int) := by omega
  have hx2 : (b : Int) - (m : Int) = (j0 : Int) := by omega
  have hw1 : IntKind.i64.wrap ((m : Int) - (a : Int)) = (i0 : Int) := by rw [hx1]; exact IntWalk.i64_in _ (by omega)
  have hw2 : IntKind.i64.wrap ((b : Int) - (m : Int)) = (j0 : Int) := by rw [hx2]; exact IntWalk.i64_in _ (by omega)
  have H0 := Lib.hid (show ∃ P' U' V' S' : List Itm, U'.length = i0 ∧ V'.length = j0 ∧ P'.length + i0 = m ∧ n = P'.length + (i0 + (j0 + S'.length)) ∧ 0 < i0 ∧ 0 < j0 ∧ P' ++ (V' ++ (U' ++ S')) = G ∧ kItm.Own w base (rowV g n c) (P' ++ (U' ++ (V' ++ S'))) from ⟨P, U, V, S, hi0, hj0, by omega, by omega, by omega, by omega, hG, hO⟩)
  have hm9 : m ≤ 1000000 := by omega
  have hi9 : i0 ≤ 1000000 := by omega
  have hj9 : j0 ≤ 1000000 := by omega
  clear hO ha hm hb hU hV hn hi0 hj0 hG hx1 hx2
  go_enter Try.func61, Try.ntmps61
  go_wp2_with fail
  go_loopw [10, 11] (fun s t wr => ∃ i j : Nat, s = .int .i64 i ∧ t = .int .i64 j ∧ i ≤ 1000000 ∧ j ≤ 1000000 ∧ Hid (∃ P' U' V' S' : List Itm, U'.length = i ∧ V'.length = j ∧ P'.length + i = m ∧ n = P'.length + (i + (j + S'.length)) ∧ 0 < i ∧ 0 < j ∧ P' ++ (V' ++ (U' ++ S')) = G ∧ kItm.Own wr base (rowV g n c) (P' ++ (U' ++ (V' ++ S')))) ∧ Hid (Below base w wr)) (fun s t _ => (intOf s).toNat + (intOf t).toNat)
  case atStart => exact ⟨i0, j0, rfl, rfl, by omega, by omega, H0, Below.refl _ _⟩
  case round =>
    clear H0
    obtain ⟨i, j, rfl, rfl, hi9, hj9, H, HB⟩ := hrel
    obtain ⟨P', U', V', S', hU, hV, hP, hn, hi, hj, hG, hO⟩ := H.out
    by_cases hlt : i = j
    · subst hlt
      have t1 : ((i : Int) == (i : Int)) = true := by simp
      obtain ⟨a', ha'⟩ : ∃ a', P'.length = a' := ⟨_, rfl⟩
      have hw1 : IntKind.i64.wrap ((m : Int) - (i : Int)) = (a' : Int) := by rw [show (m : Int) - (i : Int) = (a' : Int) by omega]; exact IntWalk.i64_in _ (by omega)
      have hx1 : (m : Int) - (i : Int) = (a' : Int) := by omega
      have C := Lib.hid (itm_swapRange base g n c a' m i P' U' [] V' S' hU hV ha' (by simp only [List.length_nil]; omega) (by simp only [List.length_nil]; omega) hn9 _ (by simpa using hO))
      have HG := Lib.hid hG
      clear hU hV hP hn hG hO ha' H
      go_wp2_with ((with_reducible refine C.out.mono ?_); rintro e w2 ⟨rfl, ho, hq⟩; have HO2 := Lib.hid ho; have HB2 := Lib.hid (HB.out.trans hq); clear ho hq)
      go_end0
      exact ⟨rfl, by rw [← HG.out]; simpa using HO2.out, HB2.out⟩
    · have t1 : ((i : Int) == (j : Int)) = false := by simp; omega
      by_cases hgt : j < i
      · have t2 : decide ((i : Int) > (j : Int)) = true := decide_eq_true (by omega)
        obtain ⟨a', ha'⟩ : ∃ a', P'.length = a' := ⟨_, rfl⟩
        obtain ⟨i', hi'⟩ : ∃ i', i = i' + j := ⟨i - j, by omega⟩
        have hx1 : (m : Int) - (i : Int) = (a' : Int) := by omega
        have hw1 : IntKind.i64.wrap ((m : Int) - (i : Int)) = (a' : Int) := by rw [hx1]; exact IntWalk.i64_in _ (by omega)
        have hx2 : (i : Int) - (j : Int) = (i' : Int) := by omega
        have hw2 : IntKind.i64.wrap ((i : Int) - (j : Int)) = (i' : Int) := by rw [hx2]; exact IntWalk.i64_in _ (by omega)
        have eU : U'.take j ++ U'.drop j = U' := List.take_append_drop j U'
        have hl1 : (U'.take j).length = j := by rw [List.length_take]; omega
        have hl2 : (U'.drop j).length = i' := by rw [List.length_drop]; omega
        have C := Lib.hid (itm_swapRange base g n c a' m j P' (U'.take j) (U'.drop j) V' S' hl1 hV ha' (by omega) (by omega) hn9 wr (by rw [show P' ++ (U'.take j ++ (U'.drop j ++ (V' ++ S'))) = P' ++ (U' ++ (V' ++ S')) by rw [← List.append_assoc (U'.take j), eU]]; exact hO))
        have HN := Lib.hid (fun (W : World) (hW : kItm.Own W base (rowV g n c) (P' ++ (V' ++ (U'.drop j ++ (U'.take j ++ S'))))) => (show ∃ P' U' V' S' : List Itm, U'.length = i' ∧ V'.length = j ∧ P'.length + i' = m ∧ n = P'.length + (i' + (j + S'.length)) ∧ 0 < i' ∧ 0 < j ∧ P' ++ (V' ++ (U' ++ S')) = G ∧ kItm.Own W base (rowV g n c) (P' ++ (U' ++ (V' ++ S'))) from
          ⟨P' ++ V', U'.drop j, U'.take j, S', hl2, hl1, by rw [List.length_append]; omega, by rw [List.length_append]; omega, by omega, hj, by rw [← hG, List.append_assoc, ← List.append_assoc (U'.take j), eU], by rw [List.append_assoc]; exact hW⟩))
        have hi9' : i' ≤ 1000000 := by omega
        have hii : i' + j = i := hi'.symm
        clear hU hV hP hn hG hO ha' H eU hl1 hl2 hi' hi
        go_wp2_with ((with_reducible refine C.out.mono ?_); rintro e w2 ⟨rfl, ho, hq⟩; have HO2 := Lib.hid (HN.out _ ho); have HB2 := Lib.hid (HB.out.trans hq); clear ho hq)
        go_roundw
        case rel => exact ⟨i', j, rfl, rfl, hi9', hj9, HO2, HB2⟩
        case measure => simp [intOf]; omega
      · have t2 : decide ((i : Int) > (j : Int)) = false := decide_eq_false (by omega)
        obtain ⟨a', ha'⟩ : ∃ a', P'.length = a' := ⟨_, rfl⟩
        obtain ⟨j', hj'⟩ : ∃ j', j = j' + i := ⟨j - i, by omega⟩
        obtain ⟨b', hb'⟩ : ∃ b', b' = m + j' := ⟨_, rfl⟩
        have hx1 : (m : Int) - (i : Int) = (a' : Int) := by omega
        have hw1 : IntKind.i64.wrap ((m : Int) - (i : Int)) = (a' : Int) := by rw [hx1]; exact IntWalk.i64_in _ (by omega)
        have hx2 : (j : Int) - (i : Int) = (j' : Int) := by omega
        have hw2 : IntKind.i64.wrap ((j : Int) - (i : Int)) = (j' : Int) := by rw [hx2]; exact IntWalk.i64_in _ (by omega)
        have hx3 : (m : Int) + (j : Int) - (i : Int) = (b' : Int) := by omega
        have hw3 : IntKind.i64.wrap ((m : Int) + (j : Int) - (i : Int)) = (b' : Int) := by rw [hx3]; exact IntWalk.i64_in _ (by omega)
        have eV : V'.take j' ++ V'.drop j' = V' := List.take_append_drop j' V'
        have hl1 : (V'.take j').length = j' := by rw [List.length_take]; omega
        have hl2 : (V'.drop j').length = i := by rw [List.length_drop]; omega
        have C := Lib.hid (itm_swapRange base g n c a' b' i P' U' (V'.take j') (V'.drop j') S' hU hl2 ha' (by omega) (by omega) hn9 wr (by rw [show P' ++ (U' ++ (V'.take j' ++ (V'.drop j' ++ S'))) = P' ++ (U' ++ (V' ++ S')) by rw [← List.append_assoc (V'.take j'), eV]]; exact hO))
        have HN := Lib.hid (fun (W : World) (hW : kItm.Own W base (rowV g n c) (P' ++ (V'.drop j' ++ (V'.take j' ++ (U' ++ S'))))) => (show ∃ P' U' V' S' : List Itm, U'.length = i ∧ V'.length = j' ∧ P'.length + i = m ∧ n = P'.length + (i + (j' + S'.length)) ∧ 0 < i ∧ 0 < j' ∧ P' ++ (V' ++ (U' ++ S')) = G ∧ kItm.Own W base (rowV g n c) (P' ++ (U' ++ (V' ++ S'))) from
          ⟨P', V'.drop j', V'.take j', U' ++ S', hl2, hl1, by omega, by rw [List.length_append]; omega, hi, by omega, by rw [← hG, ← List.append_assoc (V'.take j'), eV], hW⟩))
        have hj9' : j' ≤ 1000000 := by omega
        have hjj : j' + i = j := hj'.symm
        clear hU hV hP hn hG hO ha' hb' H eV hl1 hl2 hj' hj
        go_wp2_with ((with_reducible refine C.out.mono ?_); rintro e w2 ⟨rfl, ho, hq⟩; have HO2 := Lib.hid (HN.out _ ho); have HB2 := Lib.hid (HB.out.trans hq); clear ho hq)
        go_roundw
        case rel => exact ⟨i, j', rfl, rfl, hi9, hj9', HO2, HB2⟩
        case measure => simp [intOf]; omega
end Go.Proofs.Ytfjaklpddcafdaa

namespace Go.Proofs.Ytfjaklpddcafdaa
open Go.RowKit

def ltK (x y : Itm) : Bool := ltB x.key y.key
theorem stoK : StO ltK where
  irrefl x := ltB_irrefl _
  trans _ _ _ h1 h2 := ltB_trans h1 h2
  ntrans x y z h1 h2 := by
    unfold ltK at *
    rcases ltB_three x.key z.key with ⟨h, -, -⟩ | ⟨h, -, -⟩ | ⟨h, -, -⟩
    · rcases ltB_three y.key z.key with ⟨h3, -, -⟩ | ⟨-, h3, -⟩ | ⟨-, -, h3⟩
      · rw [h3] at h2; cases h2
      · have := ltB_trans h h3; rw [this] at h1; cases h1
      · rw [← h3] at h; rw [h] at h1; cases h1
    · exact h
    · exact h
theorem cmp_testK (a b : List UInt8) : ∃ z : Int, Lib.compareBytes a b = z ∧ decide (z < 0) = ltB a b ∧ (z == 0) = decide (a = b) := by
  rcases ltB_three a b with ⟨h1, h2, h3⟩ | ⟨h1, h2, h3⟩ | ⟨h1, h2, h3⟩
  · exact ⟨-1, cmp_lt h1, by rw [h1]; rfl, by rw [decide_eq_false h3]; rfl⟩
  · exact ⟨1, cmp_gt h2, by rw [h1]; rfl, by rw [decide_eq_false h3]; rfl⟩
  · exact ⟨0, by rw [h3]; exact cmp_self b, by rw [h1]; rfl, by rw [decide_eq_true h3]; rfl⟩
set_option maxRecDepth 100000 in
theorem itm_byKey (x y : Itm) (K : ByteArray) (r c k p : Int) (d : Bool) (B : ByteArray) (hx : IsI x K r c k p d B) (K' : ByteArray) (r' c' k' p' : Int) (d' : Bool) (B' : ByteArray) (hy : IsI y K' r' c' k' p' d' B') (z : Int) (hz : Lib.compareBytes x.key y.key = z) (w : World) :
    Calls Try.prog 33 #[itV K r c k p d B, itV K' r' c' k' p' d' B'] w fun e w' => e = .returned (.int .i64 z) ∧ Below w.heap.size w w' := by
  have C := fun w => Lib.hid (key_cmp x.key y.key w)
  rw [hx.key, hy.key, hz] at C
  have HB := Lib.hid (show Below w.heap.size w ((w.alloc (itO K r c k p d B)).alloc (itO K' r' c' k' p' d' B')) from (below_new w _).trans ((below_new _ _).mono (by simp)))
  clear hx hy hz
  go_enter Try.func33, Try.ntmps33
  go_wp2_with ((with_reducible refine (C _).out.mono ?_); rintro e w2 ⟨rfl, rfl⟩)
  go_ret
  exact ⟨rfl, HB.out⟩
set_option maxRecDepth 100000 in
set_option maxHeartbeats 8000000 in
theorem itm_insertion (base g n c a b : Nat) (P X S : List Itm) (ha : P.length = a) (hb : P.length + X.length = b) (hn : n = P.length + (X.length + S.length)) (hn9 : n ≤ 1000000) (w : World) (hbw : base ≤ w.heap.size)
    (hO : kItm.Own w base (rowV g n c) (P ++ (X ++ S))) :
    Calls Try.prog 53 #[rowV g n c, .int .i64 (a : Int), .int .i64 (b : Int), byKeyV] w fun e w' => e = .returned (.tuple #[]) ∧ ∃ W, DoneS ltK X W ∧ kItm.Own w' base (rowV g n c) (P ++ (W ++ S)) ∧ Below base w w' := by
  have H0 := Lib.hid (show ∃ W, DoneS ltK (X.take 1) W ∧ kItm.Own w base (rowV g n c) (P ++ (W ++ (X.drop 1 ++ S))) from ⟨X.take 1, DoneS.refl (SortS.of_short (by rw [List.length_take]; omega)), by rw [← List.append_assoc (X.take 1), List.take_append_drop]; exact hO⟩)
  have HA := Lib.hid ha
  have HB0 := Lib.hid hb
  have HN := Lib.hid hn
  have ha9 : a ≤ 1000000 := by omega
  have hb9 : b ≤ 1000000 := by omega
  have hab : a ≤ b := by omega
  clear ha hb hn hO
  go_enter Try.func53, Try.ntmps53
  go_wp2_with fail
  go_loopw [8] (fun s wr => ∃ q i : Nat, s = .int .i64 i ∧ i = a + q ∧ 1 ≤ q ∧ i ≤ b + 1 ∧ Hid (∃ W, DoneS ltK (X.take q) W ∧ kItm.Own wr base (rowV g n c) (P ++ (W ++ (X.drop q ++ S)))) ∧ Hid (Below base w wr)) (fun s _ => b + 1 - (intOf s).toNat)
  case atStart => exact ⟨1, a + 1, by go_num, rfl, by omega, by omega, H0, Below.refl _ _⟩
  case round =>
    clear H0
    obtain ⟨q, i, rfl, hi, hq1, hib, H, HW⟩ := hrel
    have HI := Lib.hid hi
    by_cases hlt : i < b
    · obtain ⟨W, hW, hO⟩ := H.out
      have hqX : q < X.length := by have := HA.out; have := HB0.out; omega
      obtain ⟨x, hx⟩ : ∃ x, X[q]? = some x := ⟨_, List.getElem?_eq_getElem hqX⟩
      have hdr : X.drop q = x :: X.drop (q + 1) := by
        rw [List.drop_eq_getElem_cons hqX]
        rw [List.getElem?_eq_getElem hqX] at hx
        injection hx with hx; rw [hx]
      have htk : X.take (q + 1) = X.take q ++ [x] := by rw [List.take_add_one, hx]; rfl
      have hWl : W.length = q := by rw [hW.len, List.length_take]; omega
      obtain ⟨R, hR⟩ : ∃ R, X.drop (q + 1) ++ S = R := ⟨_, rfl⟩
      have hRl : R.length + 1 + q + a = n := by rw [← hR, List.length_append, List.length_drop]; have := HA.out; have := HN.out; omega
      have HRL := Lib.hid hRl
      have HFIN := Lib.hid (fun (A B : List Itm) (h1 : A ++ B = W) (h2 : ∀ y ∈ B, ltK x y = true) (h3 : ∀ y ∈ A, ltK x y = false) => (show ∃ W', DoneS ltK (X.take (q + 1)) W' ∧ ∀ W0, kItm.Own W0 base (rowV g n c) (P ++ (A ++ (x :: (B ++ R)))) → kItm.Own W0 base (rowV g n c) (P ++ (W' ++ (X.drop (q + 1) ++ S))) from by
        subst h1
        have hd := DoneS.insert stoK hW.sort h2 h3
        refine ⟨A ++ ([x] ++ B), ⟨by rw [htk]; exact (hW.stab.append (StabS.refl [x])).trans hd.stab, hd.sort⟩, fun W0 h0 => ?_⟩
        rw [hR]
        simpa using h0))
      have HSO := Lib.hid hW.sort
      have HI0 := Lib.hid (show ∃ A B : List Itm, A ++ B = W ∧ (∀ y ∈ B, ltK x y = true) ∧ a + A.length = i ∧ kItm.Own wr base (rowV g n c) (P ++ (A ++ (x :: (B ++ R)))) from ⟨W, [], List.append_nil W, fun y hy => (by cases hy), by rw [hWl]; exact hi.symm, by rw [List.nil_append, ← hR, ← List.cons_append, ← hdr]; exact hO⟩)
      have HWL := Lib.hid hWl
      have hi9 : i ≤ 1000000 := by omega
      clear H hW hO hqX hx hdr htk hWl hR hRl hi
      go_wp2_with fail
      go_loopw [9] (fun s wx => ∃ j : Nat, s = .int .i64 j ∧ a ≤ j ∧ j ≤ i ∧ Hid (∃ A B : List Itm, A ++ B = W ∧ (∀ y ∈ B, ltK x y = true) ∧ a + A.length = j ∧ kItm.Own wx base (rowV g n c) (P ++ (A ++ (x :: (B ++ R))))) ∧ Hid (Below base w wx)) (fun s _ => (intOf s).toNat)
      case atStart => exact ⟨i, rfl, by have := HI.out; omega, by omega, HI0, HW⟩
      case round =>
        clear HI0 HW
        obtain ⟨j, rfl, haj, hji, H, HW⟩ := hrel
        by_cases hj : j = a
        · have t1 : decide ((j : Int) > (a : Int)) = false := decide_eq_false (by omega)
          have t2 : decide ((a : Int) < (j : Int)) = false := decide_eq_false (by omega)
          have t3 : decide (a < j) = false := decide_eq_false (by omega)
          have HF := Lib.hid (show ∃ W', DoneS ltK (X.take (q + 1)) W' ∧ kItm.Own wr base (rowV g n c) (P ++ (W' ++ (X.drop (q + 1) ++ S))) from by
            obtain ⟨A, B, h1, h2, h3, h4⟩ := H.out
            have hA : A = [] := List.length_eq_zero_iff.1 (by omega)
            obtain ⟨W', k1, k2⟩ := HFIN.out A B h1 h2 (fun y hy => by rw [hA] at hy; cases hy)
            exact ⟨W', k1, k2 _ h4⟩)
          have HC := Lib.hid (show CellL wr [] wr from Below.refl _ _)
          clear H
          go_wp2_with fail
          refine q_region (CellL wr []) (by kernel_rfl) (by kernel_rfl) (cellL_drew HC.out) ?_
          repeat (first
            | go_big_quiet_skip
            | (go_big_quiet_want; (first
              | (refine q_take (v := ?_) ?_ ?_; rotate_left; (focus (intro w hSw; (try simp only [CellL] at hSw); go_split_ands; go_simp; (try (rw [if_neg (by omega)])); (try with_reducible rfl); done)))); (try simp only [Act.put, List.setIfInBounds_toArray, List.set_cons_zero, List.set_cons_succ]); go_big_quiet_on))
          refine wpQuiet_nil ?_
          intro w2 hw2
          have hb2 := cellL_size hw2
          have HF2 := Lib.hid (show ∃ W', DoneS ltK (X.take (q + 1)) W' ∧ kItm.Own w2 base (rowV g n c) (P ++ (W' ++ (X.drop (q + 1) ++ S))) from by obtain ⟨W', k1, k2⟩ := HF.out; exact ⟨W', k1, k2.below hb2⟩)
          have HW2 := Lib.hid (HW.out.trans (hb2.mono (Nat.le_trans hbw HW.out.size)))
          clear hw2 hb2
          go_wp2_with fail
          go_roundw
          case rel => exact ⟨q + 1, i + 1, by go_num, by have := HI.out; omega, by omega, by omega, HF2, HW2⟩
          case measure => simp [intOf]; omega
        · have t1 : decide ((j : Int) > (a : Int)) = true := decide_eq_true (by omega)
          have t2 : decide ((a : Int) < (j : Int)) = true := decide_eq_true (by omega)
          have t3 : decide (a < j) = true := decide_eq_true (by omega)
          obtain ⟨A, B, h1, h2, h3, h4⟩ := H.out
          obtain ⟨A', y, rfl⟩ : ∃ A' y, A = A' ++ [y] := by
            rcases List.eq_nil_or_concat A with h | ⟨A', y, h⟩
            · rw [h] at h3; simp at h3; omega
            · exact ⟨A', y, by rw [h, List.concat_eq_append]⟩
          obtain ⟨m, hm⟩ : ∃ m, j = m + 1 := ⟨j - 1, by omega⟩
          have hlist : P ++ (A' ++ [y] ++ (x :: (B ++ R))) = (P ++ A') ++ y :: ([] ++ x :: (B ++ R)) := by simp
          have hAl : (A' ++ [y]).length = A'.length + 1 := by simp
          rw [hAl] at h3
          have hBl : A'.length + 1 + B.length = q := by have := congrArg List.length h1; rw [List.length_append, hAl, HWL.out] at this; omega
          have hPA : (P ++ A').length = m := by rw [List.length_append]; have := HA.out; omega
          have hsw := sw2 (P ++ A') [] (B ++ R) y x (i := m) (j := j) hPA (by rw [hPA]; simp; omega)
          rw [← hlist] at hsw
          obtain ⟨gy, gx, gxy⟩ := hsw
          obtain ⟨K, r, c1, rk, pp, dd, BB, hI⟩ : ∃ K r c k p d B, IsI x K r c k p d B := ⟨_, _, _, _, _, _, _, IsI.mk' x⟩
          obtain ⟨K', r', c', rk', pp', dd', BB', hI'⟩ : ∃ K r c k p d B, IsI y K r c k p d B := ⟨_, _, _, _, _, _, _, IsI.mk' y⟩
          have hln : n = (P ++ (A' ++ [y] ++ (x :: (B ++ R)))).length := by
            simp only [List.length_append, List.length_cons, List.length_nil]
            have := HA.out; have := HRL.out; omega
          have hjN : j < n := by have := HRL.out; have := HI.out; omega
          obtain ⟨p0, p1, p2, p3, p4, p5, p6⟩ := own_it h4 hln gx hI
          obtain ⟨q0, q1, q2, q3, q4, q5, q6⟩ := own_it h4 hln gy hI'
          obtain ⟨z, hz, hzl, -⟩ := cmp_testK x.key y.key
          obtain ⟨t, ht⟩ : ∃ t, ltB x.key y.key = t := ⟨_, rfl⟩
          rw [ht] at hzl
          have CB := Lib.hid (fun (L : List (Addr × Value)) => fun (W : World) (hC : CellL wr L W) => (itm_byKey x y K r c1 rk pp dd BB hI K' r' c' rk' pp' dd' BB' hI' z hz W).mono fun (e' : Ending) (W' : World) ⟨h1, h2⟩ => (⟨h1, cellL_call h2 hC⟩ : e' = Ending.returned (.int .i64 z) ∧ CellL wr L W'))
          have HC := Lib.hid (show CellL wr [(⟨g, j * 7, none⟩, .string K), (⟨g, j * 7 + 1, none⟩, .int .i64 r), (⟨g, j * 7 + 2, none⟩, .int .i64 c1), (⟨g, j * 7 + 3, none⟩, .int .i64 rk), (⟨g, j * 7 + 4, none⟩, .int .i64 pp), (⟨g, j * 7 + 5, none⟩, .bool dd), (⟨g, j * 7 + 6, none⟩, .string BB), (⟨g, m * 7, none⟩, .string K'), (⟨g, m * 7 + 1, none⟩, .int .i64 r'), (⟨g, m * 7 + 2, none⟩, .int .i64 c'), (⟨g, m * 7 + 3, none⟩, .int .i64 rk'), (⟨g, m * 7 + 4, none⟩, .int .i64 pp'), (⟨g, m * 7 + 5, none⟩, .bool dd'), (⟨g, m * 7 + 6, none⟩, .string BB')] wr from ⟨p0, p1, p2, p3, p4, p5, p6, q0, q1, q2, q3, q4, q5, q6, Below.refl _ _⟩)
          have hj0 : (0 : Int) ≤ (j : Int) := by omega
          have hjn : (j : Int) < (n : Int) := by omega
          have hjd : decide ((j : Int) < 0) = false := decide_eq_false (by omega)
          have hm0 : (0 : Int) ≤ (m : Int) := by omega
          have hmn : (m : Int) < (n : Int) := by omega
          have hmd : decide ((m : Int) < 0) = false := decide_eq_false (by omega)
          have hmx : (j : Int) - 1 = (m : Int) := by omega
          have hmw : IntKind.i64.wrap ((j : Int) - 1) = (m : Int) := by rw [hmx]; exact IntWalk.i64_in _ (by omega)
          have hmw2 : IntKind.i64.wrap (m : Int) = (m : Int) := IntWalk.i64_in _ (by omega)
          have HT := Lib.hid ht
          have HLN := Lib.hid hln
          have HGX := Lib.hid gx
          have HGY := Lib.hid gy
          have HGXY := Lib.hid gxy
          have HI1 := Lib.hid hI
          have HI2 := Lib.hid hI'
          have HJM := Lib.hid hm
          have HOX := Lib.hid h4
          have HAB := Lib.hid h1
          have HBB := Lib.hid h2
          have HAL := Lib.hid h3
          clear H h1 h2 h3 h4 hlist hAl hBl hPA gx gy gxy hI hI' hln hz ht hm p0 p1 p2 p3 p4 p5 p6 q0 q1 q2 q3 q4 q5 q6 hmx
          go_wp2_with fail
          refine q_region (CellL wr [(⟨g, j * 7, none⟩, .string K), (⟨g, j * 7 + 1, none⟩, .int .i64 r), (⟨g, j * 7 + 2, none⟩, .int .i64 c1), (⟨g, j * 7 + 3, none⟩, .int .i64 rk), (⟨g, j * 7 + 4, none⟩, .int .i64 pp), (⟨g, j * 7 + 5, none⟩, .bool dd), (⟨g, j * 7 + 6, none⟩, .string BB), (⟨g, m * 7, none⟩, .string K'), (⟨g, m * 7 + 1, none⟩, .int .i64 r'), (⟨g, m * 7 + 2, none⟩, .int .i64 c'), (⟨g, m * 7 + 3, none⟩, .int .i64 rk'), (⟨g, m * 7 + 4, none⟩, .int .i64 pp'), (⟨g, m * 7 + 5, none⟩, .bool dd'), (⟨g, m * 7 + 6, none⟩, .string BB')]) (by kernel_rfl) (by kernel_rfl) (cellL_drew HC.out) ?_
          repeat (first
            | go_big_quiet_skip
            | (go_big_quiet_want; (first
              | (refine q_take (v := ?_) ?_ ?_; rotate_left; (focus (intro w hSw; (try simp only [CellL] at hSw); go_split_ands; go_simp; (try (rw [if_neg (by omega)])); (try with_reducible rfl); done)))
              | (refine q_call (CB.out _) ?_ ?_; (focus (intro w hSw; (try simp only [CellL] at hSw); go_split_ands; go_simp; (try (rw [if_neg (by omega)])); done)))); (try simp only [Act.put, List.setIfInBounds_toArray, List.set_cons_zero, List.set_cons_succ]); go_big_quiet_on))
          refine wpQuiet_nil ?_
          intro w2 hw2
          have hb2 := cellL_size hw2
          have HO2 := Lib.hid (HOX.out.below hb2)
          have HW2 := Lib.hid (HW.out.trans (hb2.mono (Nat.le_trans hbw HW.out.size)))
          clear hb2
          cases t
          · clear hw2
            have HF := Lib.hid (show ∃ W', DoneS ltK (X.take (q + 1)) W' ∧ kItm.Own w2 base (rowV g n c) (P ++ (W' ++ (X.drop (q + 1) ++ S))) from by
              obtain ⟨W', k1, k2⟩ := HFIN.out (A' ++ [y]) B HAB.out HBB.out (fun u hu => by
                rcases List.mem_append.1 hu with hu | hu
                · have hs := HSO.out
                  rw [← HAB.out, List.append_assoc] at hs
                  have := (SortS.append.1 hs).2.2 u hu y (by simp)
                  exact stoK.ntrans x y u HT.out this
                · rw [List.mem_singleton] at hu; rw [hu]; exact HT.out)
              exact ⟨W', k1, k2 _ HO2.out⟩)
            go_wp2_with fail
            go_roundw
            case rel => exact ⟨q + 1, i + 1, by go_num, by have := HI.out; omega, by omega, by omega, HF, HW2⟩
            case measure => simp [intOf]; omega
          · obtain ⟨p0, p1, p2, p3, p4, p5, p6, q0, q1, q2, q3, q4, q5, q6, -⟩ := hw2
            obtain ⟨hg1, hgl, hfz, -⟩ := HO2.out.at_g HLN.out (by omega)
            have HOF := Lib.hid (own_swap HO2.out HLN.out HGX.out HGY.out HI1.out HI2.out)
            have hcomm : (((P ++ (A' ++ [y] ++ (x :: (B ++ R)))).set j y).set m x) = P ++ (A' ++ (x :: (y :: B ++ R))) := by
              rw [List.set_comm _ _ (by have := HJM.out; omega), HGXY.out]; simp
            rw [hcomm] at HOF
            have HBF := Lib.hid (below7 (below7 HW2.out hg1 j K' r' c' rk' pp' dd' BB') hg1 m K r c1 rk pp dd BB)
            have HRR := Lib.hid (fun (W0 : World) (h0 : kItm.Own W0 base (rowV g n c) (P ++ (A' ++ (x :: (y :: B ++ R))))) => (show ∃ A B : List Itm, A ++ B = W ∧ (∀ y ∈ B, ltK x y = true) ∧ a + A.length = m ∧ kItm.Own W0 base (rowV g n c) (P ++ (A ++ (x :: (B ++ R)))) from
              ⟨A', y :: B, by rw [← HAB.out]; simp, fun u hu => by
                rcases List.mem_cons.1 hu with rfl | hu
                · exact HT.out
                · exact HBB.out u hu, by have := HAL.out; have := HJM.out; omega, h0⟩))
            have hma : a ≤ m := by have := HAL.out; have := HJM.out; omega
            have hmj : m < j := by have := HJM.out; omega
            clear hcomm hg1
            go_wp2_with fail
            go_region
            go_wp2_with fail
            go_roundw
            case rel => exact ⟨m, by go_num, hma, by omega, HRR.out _ (HOF.out.below (Below.refl _ _).drew), HBF.out.drew⟩
            case measure => simp [intOf]; omega
    · have HF := Lib.hid (show ∃ W, DoneS ltK X W ∧ kItm.Own wr base (rowV g n c) (P ++ (W ++ S)) from by
        obtain ⟨W, h1, h2⟩ := H.out
        have hqX : X.length ≤ q := by have := HA.out; have := HB0.out; omega
        rw [List.take_of_length_le hqX] at h1
        rw [List.drop_eq_nil_of_le hqX, List.nil_append] at h2
        exact ⟨W, h1, h2⟩)
      go_wp2_with fail
      go_end0
      obtain ⟨W, h1, h2⟩ := HF.out
      exact ⟨rfl, W, h1, h2, HW.out⟩
end Go.Proofs.Ytfjaklpddcafdaa

namespace Go.Proofs.Ytfjaklpddcafdaa
open Go.RowKit

set_option maxRecDepth 100000 in
set_option maxHeartbeats 8000000 in
theorem itp_list (A : Option Addr) (c n : Nat) (l : List Itm) (hn : n = l.length) (v : Bool) (hv : listI l = v) (w : World) (hr : kItm.Rd w w.heap.size A c l) :
    Calls Try.prog 16 #[.slice A n c] w fun e w' => e = .returned (.bool v) ∧ Below w.heap.size w w' := by
  have HN := Lib.hid hn
  have HR := Lib.hid hr
  have HV := Lib.hid ((upI_list l).symm.trans hv)
  have hmx := rd_maxI hr hn
  have hcx : n ≤ c := by rw [hn]; exact hr.room
  clear hn hr hv
  go_enter Try.func16, Try.ntmps16
  go_wp2_with fail
  go_loopw [7] (fun i wr => ∃ k : Nat, k ≤ n ∧ i = .int .i64 k ∧ Hid ((k = 0 ∧ upI none l = v) ∨ ∃ j p, k = j + 1 ∧ l[j]? = some p ∧ upI (some p.key) (l.drop k) = v) ∧ Hid (Below w.heap.size w wr)) (fun i _ => n - (intOf i).toNat)
  case atStart => exact ⟨0, by omega, rfl, .inl ⟨rfl, HV.out⟩, Below.refl _ _⟩
  case round =>
    obtain ⟨k, hk, rfl, HL, HW⟩ := hrel
    by_cases hlt : k < n
    · obtain ⟨x, hg, hd, hxm⟩ := get_some (l := l) (k := k) (by have := HN.out; omega)
      obtain ⟨b, o, rfl, hb1, hcell⟩ := itms_at (HR.out.below HW.out) (by have := HN.out; omega)
      obtain ⟨q0, q1, q2, q3, q4, q5, q6⟩ := hcell k x hg
      obtain ⟨K, r, c1, rk, pp, dd, BB, hI⟩ : ∃ K r c k p d B, IsI x K r c k p d B := ⟨_, _, _, _, _, _, _, IsI.mk' x⟩
      rw [hI.key] at q0
      rw [hI.rep] at q1
      rw [hI.cnt] at q2
      rw [hI.rank] at q3
      rw [hI.prio] at q4
      rw [hI.dead] at q5
      rw [hI.body] at q6
      obtain ⟨z, hz⟩ : ∃ z, rightI x = z := ⟨_, rfl⟩
      have hk0 : (0 : Int) ≤ (k : Int) := by omega
      have hkn : (k : Int) < (n : Int) := by omega
      have hbl := Nat.lt_of_lt_of_le hb1 HW.out.size
      obtain ⟨s0, s1, s2, s3, s4, s5, s6⟩ := itAt_new wr K r c1 rk pp dd BB
      have hbn := below_new wr (itO K r c1 rk pp dd BB)
      have HW6 := Lib.hid (HW.out.alloc HW.out.size (itO K r c1 rk pp dd BB))
      obtain ⟨W6, hW6⟩ : ∃ W6, wr.alloc (itO K r c1 rk pp dd BB) = W6 := ⟨_, rfl⟩
      rw [hW6] at s0 s1 s2 s3 s4 s5 s6 hbn HW6
      have CS := Lib.hid (fun (L : List (Addr × Value)) => fun (W : World) (hC : CellL W6 L W) => (itp_right x K r c1 rk pp dd BB hI z hz W).mono fun (e' : Ending) (W' : World) ⟨h1, h2⟩ => (⟨h1, cellL_call h2 hC⟩ : e' = Ending.returned (.bool z) ∧ CellL W6 L W'))
      rcases HL.out with ⟨h0, hL⟩ | ⟨j, p, hj, hgj, hL⟩
      · subst h0
        rw [List.drop_zero] at hd
        have HF := Lib.hid (show (z && upI (some x.key) (l.drop (0 + 1))) = v by rw [hd, upI, hz] at hL; exact hL)
        have HNX := Lib.hid (fun (h : upI (some x.key) (l.drop (0 + 1)) = v) => show (0 + 1 = 0 ∧ upI none l = v) ∨ ∃ j p, 0 + 1 = j + 1 ∧ l[j]? = some p ∧ upI (some p.key) (l.drop (0 + 1)) = v from .inr ⟨0, x, rfl, hg, h⟩)
        rw [Nat.zero_mul, Nat.add_zero] at q0 q1 q2 q3 q4 q5 q6
        have HC := Lib.hid (show CellL W6 [(⟨wr.heap.size, 0, none⟩, .string K), (⟨wr.heap.size, 1, none⟩, .int .i64 r), (⟨wr.heap.size, 2, none⟩, .int .i64 c1), (⟨wr.heap.size, 3, none⟩, .int .i64 rk), (⟨wr.heap.size, 4, none⟩, .int .i64 pp), (⟨wr.heap.size, 5, none⟩, .bool dd), (⟨wr.heap.size, 6, none⟩, .string BB)] W6 from ⟨s0, s1, s2, s3, s4, s5, s6, Below.refl _ _⟩)
        clear hcell hg hd hz hL HL hI hxm hbn s0 s1 s2 s3 s4 s5 s6
        cases z
        all_goals
          go_wp2_with fail
          refine q_region (CellL W6 [(⟨wr.heap.size, 0, none⟩, .string K), (⟨wr.heap.size, 1, none⟩, .int .i64 r), (⟨wr.heap.size, 2, none⟩, .int .i64 c1), (⟨wr.heap.size, 3, none⟩, .int .i64 rk), (⟨wr.heap.size, 4, none⟩, .int .i64 pp), (⟨wr.heap.size, 5, none⟩, .bool dd), (⟨wr.heap.size, 6, none⟩, .string BB)]) (by kernel_rfl) (by kernel_rfl) (cellL_drew HC.out) ?_
          repeat (first
            | go_big_quiet_skip
            | (go_big_quiet_want; (first
              | (refine q_take (v := ?_) ?_ ?_; rotate_left; (focus (intro w hSw; (try simp only [CellL] at hSw); go_split_ands; go_simp; (try (rw [if_neg (by omega)])); (try with_reducible rfl); done)))
              | (refine q_call (CS.out _) ?_ ?_; (focus (intro w hSw; (try simp only [CellL] at hSw); go_split_ands; go_simp; (try (rw [if_neg (by omega)])); done)))); (try simp only [Act.put, List.setIfInBounds_toArray, List.set_cons_zero, List.set_cons_succ]); go_big_quiet_on))
          refine wpQuiet_nil ?_
          intro w2 hw2
          have HB2 := Lib.hid (HW6.out.trans ((cellL_size hw2).mono HW6.out.size))
          clear hw2
          go_wp2_with fail
          first
            | (go_ret; exact ⟨ret_bool (show false = v from HF.out), HB2.out⟩)
            | (go_roundw
               case rel => exact ⟨0 + 1, by omega, by go_num, HNX.out HF.out, HB2⟩
               case measure => simp [intOf]; omega)
      · subst hj
        obtain ⟨u0, u1, u2, u3, u4, u5, u6⟩ := hcell j p hgj
        obtain ⟨K', r', c', rk', pp', dd', BB', hI'⟩ : ∃ K r c k q d B, IsI p K r c k q d B := ⟨_, _, _, _, _, _, _, IsI.mk' p⟩
        rw [hI'.key] at u0
        rw [hI'.rep] at u1
        rw [hI'.cnt] at u2
        rw [hI'.rank] at u3
        rw [hI'.prio] at u4
        rw [hI'.dead] at u5
        rw [hI'.body] at u6
        have u0 := (bcell hbn).1 _ _ hbl |>.trans u0
        have u1 := (bcell hbn).1 _ _ hbl |>.trans u1
        have u2 := (bcell hbn).1 _ _ hbl |>.trans u2
        have u3 := (bcell hbn).1 _ _ hbl |>.trans u3
        have u4 := (bcell hbn).1 _ _ hbl |>.trans u4
        have u5 := (bcell hbn).1 _ _ hbl |>.trans u5
        have u6 := (bcell hbn).1 _ _ hbl |>.trans u6
        obtain ⟨t, ht⟩ : ∃ t, ltB p.key x.key = t := ⟨_, rfl⟩
        obtain ⟨zc, hzc, hzl, -⟩ := cmp_testK p.key x.key
        rw [ht] at hzl
        have hzg : decide (zc ≥ 0) = !t := by rw [← hzl, ← decide_not]; exact decide_eq_decide.2 (by omega)
        have hzg2 : decide (0 ≤ zc) = !t := hzg
        have CL := Lib.hid (fun (L : List (Addr × Value)) => fun (W : World) (hC : CellL W6 L W) => (itm_byKey p x K' r' c' rk' pp' dd' BB' hI' K r c1 rk pp dd BB hI zc hzc W).mono fun (e' : Ending) (W' : World) ⟨h1, h2⟩ => (⟨h1, cellL_call h2 hC⟩ : e' = Ending.returned (.int .i64 zc) ∧ CellL W6 L W'))
        have HF := Lib.hid (show (z && (t && upI (some x.key) (l.drop (j + 1 + 1)))) = v by rw [hd, upI, hz, ht] at hL; exact hL)
        have HNX := Lib.hid (fun (h : upI (some x.key) (l.drop (j + 1 + 1)) = v) => show (j + 1 + 1 = 0 ∧ upI none l = v) ∨ ∃ j' p, j + 1 + 1 = j' + 1 ∧ l[j']? = some p ∧ upI (some p.key) (l.drop (j + 1 + 1)) = v from .inr ⟨j + 1, x, rfl, hg, h⟩)
        have hk1 : (0 : Int) ≤ (j : Int) + 1 := by omega
        have hkn1 : (j : Int) + 1 < (n : Int) := by omega
        have hj0 : (0 : Int) ≤ (j : Int) := by omega
        have hjn : (j : Int) < (n : Int) := by omega
        have hjd : decide ((j : Int) < 0) = false := decide_eq_false (by omega)
        have hjg : decide ((0 : Int) < (j : Int) + 1) = true := decide_eq_true (by omega)
        have hjg2 : decide ((j : Int) + 1 > 0) = true := hjg
        have hjw : IntKind.i64.wrap ((j : Int) + 1 - 1) = (j : Int) := by rw [Int.add_sub_cancel]; exact IntWalk.i64_in _ (by omega)
        have hjw2 : IntKind.i64.wrap (j : Int) = (j : Int) := IntWalk.i64_in _ (by omega)
        have HC := Lib.hid (show CellL W6 [(⟨wr.heap.size, 0, none⟩, .string K), (⟨wr.heap.size, 1, none⟩, .int .i64 r), (⟨wr.heap.size, 2, none⟩, .int .i64 c1), (⟨wr.heap.size, 3, none⟩, .int .i64 rk), (⟨wr.heap.size, 4, none⟩, .int .i64 pp), (⟨wr.heap.size, 5, none⟩, .bool dd), (⟨wr.heap.size, 6, none⟩, .string BB), (⟨b, o + j * 7, none⟩, .string K'), (⟨b, o + j * 7 + 1, none⟩, .int .i64 r'), (⟨b, o + j * 7 + 2, none⟩, .int .i64 c'), (⟨b, o + j * 7 + 3, none⟩, .int .i64 rk'), (⟨b, o + j * 7 + 4, none⟩, .int .i64 pp'), (⟨b, o + j * 7 + 5, none⟩, .bool dd'), (⟨b, o + j * 7 + 6, none⟩, .string BB')] W6 from ⟨s0, s1, s2, s3, s4, s5, s6, u0, u1, u2, u3, u4, u5, u6, Below.refl _ _⟩)
        clear hcell hg hgj hd hz ht hzc hL HL hI hI' hxm hbn s0 s1 s2 s3 s4 s5 s6 u0 u1 u2 u3 u4 u5 u6
        cases z <;> cases t
        all_goals
          go_wp2_with fail
          refine q_region (CellL W6 [(⟨wr.heap.size, 0, none⟩, .string K), (⟨wr.heap.size, 1, none⟩, .int .i64 r), (⟨wr.heap.size, 2, none⟩, .int .i64 c1), (⟨wr.heap.size, 3, none⟩, .int .i64 rk), (⟨wr.heap.size, 4, none⟩, .int .i64 pp), (⟨wr.heap.size, 5, none⟩, .bool dd), (⟨wr.heap.size, 6, none⟩, .string BB), (⟨b, o + j * 7, none⟩, .string K'), (⟨b, o + j * 7 + 1, none⟩, .int .i64 r'), (⟨b, o + j * 7 + 2, none⟩, .int .i64 c'), (⟨b, o + j * 7 + 3, none⟩, .int .i64 rk'), (⟨b, o + j * 7 + 4, none⟩, .int .i64 pp'), (⟨b, o + j * 7 + 5, none⟩, .bool dd'), (⟨b, o + j * 7 + 6, none⟩, .string BB')]) (by kernel_rfl) (by kernel_rfl) (cellL_drew HC.out) ?_
          repeat (first
            | go_big_quiet_skip
            | (go_big_quiet_want; (first
              | (refine q_take (v := ?_) ?_ ?_; rotate_left; (focus (intro w hSw; (try simp only [CellL] at hSw); go_split_ands; go_simp; (try (rw [if_neg (by omega)])); (try with_reducible rfl); done)))
              | (refine q_call (CS.out _) ?_ ?_; (focus (intro w hSw; (try simp only [CellL] at hSw); go_split_ands; go_simp; (try (rw [if_neg (by omega)])); done)))
              | (refine q_call (CL.out _) ?_ ?_; (focus (intro w hSw; (try simp only [CellL] at hSw); go_split_ands; go_simp; (try (rw [if_neg (by omega)])); done)))); (try simp only [Act.put, List.setIfInBounds_toArray, List.set_cons_zero, List.set_cons_succ]); go_big_quiet_on))
          refine wpQuiet_nil ?_
          intro w2 hw2
          have HB2 := Lib.hid (HW6.out.trans ((cellL_size hw2).mono HW6.out.size))
          clear hw2
          go_wp2_with fail
          first
            | (go_ret; exact ⟨ret_bool (show false = v from HF.out), HB2.out⟩)
            | (go_roundw
               case rel => exact ⟨j + 1 + 1, by omega, by go_num, HNX.out HF.out, HB2⟩
               case measure => simp [intOf]; omega)
    · have HF := Lib.hid (show true = v by
        rcases HL.out with ⟨h0, hL⟩ | ⟨j, p, hj, hgj, hL⟩
        · have : l = [] := List.eq_nil_of_length_eq_zero (by have := HN.out; omega)
          rw [← hL, this]; rfl
        · rw [← hL, List.drop_eq_nil_of_le (by have := HN.out; omega)]; rfl)
      go_wp2_with fail
      go_ret
      exact ⟨ret_bool HF.out, HW.out⟩
theorem filter_nextI {l : List Itm} {k : Nat} {x : Itm} (h : l[k]? = some x) : (l.take (k + 1)).filter rightI = (l.take k).filter rightI ++ (match rightI x with | true => [x] | false => []) := by
  rw [List.take_add_one, h, Option.toList_some, List.filter_append]
  cases hr : rightI x <;> simp [hr]
set_option maxRecDepth 100000 in
set_option maxHeartbeats 4000000 in
theorem itp_rights (A : Option Addr) (c n : Nat) (l : List Itm) (hn : n = l.length) (hn9 : n ≤ 400000) (w : World) (hr : kItm.Rd w w.heap.size A c l) :
    Calls Try.prog 34 #[.slice A n c] w fun e w' => ∃ v, e = .returned v ∧ kItm.Own w' w.heap.size v (l.filter rightI) ∧ Below w.heap.size w w' := by
  have HN := Lib.hid hn
  have HR := Lib.hid hr
  have hmx := rd_maxI hr hn
  have hcx : n ≤ c := by rw [hn]; exact hr.room
  clear hn hr
  go_enter Try.func34, Try.ntmps34
  go_wp2_with fail
  go_loopw [3, 8] (fun v i wr => ∃ k : Nat, k ≤ n ∧ Hid (kItm.Own wr w.heap.size v ((l.take k).filter rightI)) ∧ i = .int .i64 k ∧ Hid (Below w.heap.size w wr)) (fun _ i _ => n - (intOf i).toNat)
  case atStart => exact ⟨0, by omega, Kind.Own.nil _ _, rfl, Below.refl _ _⟩
  case round =>
    obtain ⟨k, hk, HO, rfl, HW⟩ := hrel
    by_cases hlt : k < n
    · obtain ⟨x, hg, hd, hxm⟩ := get_some (l := l) (k := k) (by have := HN.out; omega)
      obtain ⟨b, o, rfl, hb1, hcell⟩ := itms_at (HR.out.below HW.out) (by have := HN.out; omega)
      obtain ⟨q0, q1, q2, q3, q4, q5, q6⟩ := hcell k x hg
      obtain ⟨K, r, c1, rk, pp, dd, BB, hI⟩ : ∃ K r c k p d B, IsI x K r c k p d B := ⟨_, _, _, _, _, _, _, IsI.mk' x⟩
      rw [hI.key] at q0
      rw [hI.rep] at q1
      rw [hI.cnt] at q2
      rw [hI.rank] at q3
      rw [hI.prio] at q4
      rw [hI.dead] at q5
      rw [hI.body] at q6
      obtain ⟨z, hz⟩ : ∃ z, rightI x = z := ⟨_, rfl⟩
      have C := fun w => Lib.hid (itp_right x K r c1 rk pp dd BB hI z hz w)
      have HT := Lib.hid (filter_nextI hg)
      rw [hz] at HT
      have HRW := fun w => Lib.hid (itm_row w x K r c1 rk pp dd BB hI)
      have HLE := Lib.hid (show ((l.take k).filter rightI).length + [x].length ≤ 1000000 by
        have h1 := List.length_filter_le rightI (l.take k)
        rw [List.length_take] at h1
        rw [List.length_singleton]; omega)
      have hk0 : (0 : Int) ≤ (k : Int) := by omega
      have hkn : (k : Int) < (n : Int) := by omega
      have H6 := Lib.hid (itAt_new wr K r c1 rk pp dd BB)
      have HB6 := Lib.hid (HW.out.alloc HW.out.size (itO K r c1 rk pp dd BB))
      have HO6 := Lib.hid (HO.out.alloc (itO K r c1 rk pp dd BB))
      obtain ⟨W6, hW6⟩ : ∃ W6, wr.alloc (itO K r c1 rk pp dd BB) = W6 := ⟨_, rfl⟩
      rw [hW6] at H6 HB6 HO6
      obtain ⟨s0, s1, s2, s3, s4, s5, s6⟩ := H6.out
      clear hcell hg hd hxm hz hI
      cases z with
      | false =>
        go_wp2_with ((with_reducible refine (C _).out.mono ?_); rintro e w2 ⟨rfl, hq⟩; have HB2 := Lib.hid (HB6.out.trans (hq.mono HB6.out.size)); have HO2 := Lib.hid (HO6.out.below hq); clear hq)
        go_roundw
        case rel => exact ⟨k + 1, by omega, (by rw [HT.out]; show kItm.Own _ _ _ (_ ++ []); rw [List.append_nil]; exact HO2.out), by go_num, HB2⟩
        case measure => simp [intOf]; omega
      | true =>
        go_wp2_with (first
          | ((with_reducible refine (C _).out.mono ?_); rintro e w2 ⟨rfl, hq⟩; have HB2 := Lib.hid (HB6.out.trans (hq.mono HB6.out.size)); have HO2 := Lib.hid (HO6.out.below hq); clear s0 s1 s2 s3 s4 s5 s6; obtain ⟨s0, s1, s2, s3, s4, s5, s6⟩ := H6.out.below hq; clear hq)
          | (at_builtin; refine wpList_app_k kItm rfl (.tmp 14) (.tmp 16) rfl w.heap.size _ _ rfl (Kind.Own.alloc HO2.out _) _ (some ⟨w2.heap.size, 0, none⟩) 1 1 [x] rfl rfl (HRW w2).out HLE.out (by decide) (it_alloc HB2.out.size _) ?_; intro v3 w3 hown3 hg3 hb3 _; have HO3 := Lib.hid hown3; have HW3 := Lib.hid ((HB2.out.alloc HB2.out.size _).trans hb3); clear hown3 hb3 hg3))
        go_roundw
        case rel => exact ⟨k + 1, by omega, (by rw [HT.out]; exact HO3.out), by go_num, HW3⟩
        case measure => simp [intOf]; omega
    · have hkn : l.take k = l := List.take_of_length_le (by have := HN.out; omega)
      rw [hkn] at HO
      clear hkn
      go_wp2_with fail
      go_ret
      exact ⟨_, rfl, HO.out, HW.out⟩
structure OneK (l : List Itm) (k : Nat) : Prop where
  pos : 1 ≤ k
  most : k ≤ l.length
  same : ∀ (x : Itm), l[0]? = some x → ∀ (j : Nat) (y : Itm), j < k → l[j]? = some y → y.key = x.key
  next : ∀ (x y : Itm), l[0]? = some x → l[k]? = some y → y.key ≠ x.key
set_option maxRecDepth 100000 in
set_option maxHeartbeats 4000000 in
theorem itp_ofOneKey (A : Option Addr) (c n : Nat) (l : List Itm) (hn : n = l.length) (hp : 0 < n) (w : World) (hr : kItm.Rd w w.heap.size A c l) :
    Calls Try.prog 37 #[.slice A n c] w fun e w' => ∃ k : Nat, e = .returned (.int .i64 k) ∧ OneK l k ∧ Below w.heap.size w w' := by
  have HN := Lib.hid hn
  have HR := Lib.hid hr
  have hmx := rd_maxI hr hn
  have hcx : n ≤ c := by rw [hn]; exact hr.room
  obtain ⟨x, hx, -, -⟩ := get_some (l := l) (k := 0) (by omega)
  obtain ⟨b, o, rfl, hb1, hcell⟩ := itms_at hr (by omega)
  obtain ⟨x0, -⟩ := hcell 0 x hx
  obtain ⟨K, hK⟩ : ∃ K, str x.key = K := ⟨_, rfl⟩
  rw [Nat.zero_mul, Nat.add_zero, hK] at x0
  have HX := Lib.hid hx
  have HK := Lib.hid hK
  have HC0 := Lib.hid x0
  have hkn0 : (0 : Int) < (n : Int) := by omega
  clear hn hr hcell hx hK x0
  go_enter Try.func37, Try.ntmps37
  go_wp2_with fail
  go_loopw [3] (fun i wr => ∃ k : Nat, k ≤ n ∧ 1 ≤ k ∧ i = .int .i64 k ∧ Hid (∀ (j : Nat) (y : Itm), j < k → l[j]? = some y → y.key = x.key) ∧ Hid (Below w.heap.size w wr)) (fun i _ => n - (intOf i).toNat)
  case atStart => exact ⟨1, by omega, by omega, rfl, (fun j y hj hy => (by obtain rfl : j = 0 := (by omega); rw [HX.out] at hy; injection hy with hy; rw [hy])), Below.refl _ _⟩
  case round =>
    obtain ⟨k, hk, hk1, rfl, HS, HW⟩ := hrel
    have x0 := ((HW.out.cell (p := ⟨b, o, none⟩) (World.block_lt_of_cell? _ _ HC0.out))).trans HC0.out
    by_cases hlt : k < n
    · obtain ⟨y, hg, hd, hxm⟩ := get_some (l := l) (k := k) (by have := HN.out; omega)
      obtain ⟨b', o', hA, -, hcell⟩ := itms_at (HR.out.below HW.out) (by have := HN.out; omega)
      injection hA with hA
      injection hA with hA1 hA2
      subst hA1 hA2
      obtain ⟨y0, -⟩ := hcell k y hg
      obtain ⟨K', hK'⟩ : ∃ K', str y.key = K' := ⟨_, rfl⟩
      rw [hK'] at y0
      obtain ⟨q, hq⟩ : ∃ q, (K'.toList == K.toList) = q := ⟨_, rfl⟩
      have HQ := Lib.hid (show (q = true → y.key = x.key) ∧ (q = false → y.key ≠ x.key) from by
        rw [← hK', ← HK.out, str_toList, str_toList] at hq
        constructor
        · intro h; rw [h] at hq; exact beq_iff_eq.1 hq
        · intro h; rw [h] at hq; exact beq_eq_false_iff_ne.1 hq)
      have hk0 : (0 : Int) ≤ (k : Int) := by omega
      have hkn : (k : Int) < (n : Int) := by omega
      have hkd : decide ((k : Int) < (n : Int)) = true := decide_eq_true hkn
      have hkd2 : decide (k < n) = true := decide_eq_true hlt
      have HC := Lib.hid (show CellL wr [(⟨b, o + k * 7, none⟩, .string K'), (⟨b, o, none⟩, .string K)] wr from ⟨y0, x0, Below.refl _ _⟩)
      have HG := Lib.hid hg
      clear hcell hg hd hxm hK' x0 y0
      cases q
      all_goals
        go_wp2_with fail
        refine q_region (CellL wr [(⟨b, o + k * 7, none⟩, .string K'), (⟨b, o, none⟩, .string K)]) (by kernel_rfl) (by kernel_rfl) (cellL_drew HC.out) ?_
        repeat (first
          | go_big_quiet_skip
          | (go_big_quiet_want; (first
            | (refine q_take (v := ?_) ?_ ?_; rotate_left; (focus (intro w hSw; (try simp only [CellL] at hSw); go_split_ands; go_simp; (try (rw [if_neg (by omega)])); (try with_reducible rfl); done)))); (try simp only [Act.put, List.setIfInBounds_toArray, List.set_cons_zero, List.set_cons_succ]); go_big_quiet_on))
        refine wpQuiet_nil ?_
        intro w2 hw2
        have HB2 := Lib.hid (HW.out.trans ((cellL_size hw2).mono HW.out.size))
        clear hw2
        go_wp2_with fail
        first
          | (go_ret; exact ⟨k, rfl, ⟨hk1, by have := HN.out; omega, (fun x' h => by rw [HX.out] at h; injection h with h; subst h; exact HS.out), (fun x' y' h h' => by rw [HX.out] at h; injection h with h; subst h; rw [HG.out] at h'; injection h' with h'; subst h'; exact HQ.out.2 (by first | rfl | trivial))⟩, HB2.out⟩)
          | (go_roundw
             case rel => exact ⟨k + 1, by omega, by omega, by go_num, (fun j y' hj hy => by
               by_cases e : j = k
               · subst e; rw [HG.out] at hy; injection hy with hy; subst hy; exact HQ.out.1 (by first | rfl | trivial)
               · exact HS.out j y' (by omega) hy), HB2⟩
             case measure => simp [intOf]; omega)
    · obtain rfl : k = n := by omega
      have hkd : decide ((k : Int) < (k : Int)) = false := decide_eq_false (by omega)
      have HC := Lib.hid (show CellL wr [] wr from Below.refl _ _)
      clear x0
      go_wp2_with fail
      refine q_region (CellL wr []) (by kernel_rfl) (by kernel_rfl) (cellL_drew HC.out) ?_
      repeat (first
        | go_big_quiet_skip
        | (go_big_quiet_want; (first
          | (refine q_take (v := ?_) ?_ ?_; rotate_left; (focus (intro w hSw; (try simp only [CellL] at hSw); go_split_ands; go_simp; (try (rw [if_neg (by omega)])); (try with_reducible rfl); done)))); (try simp only [Act.put, List.setIfInBounds_toArray, List.set_cons_zero, List.set_cons_succ]); go_big_quiet_on))
      refine wpQuiet_nil ?_
      intro w2 hw2
      have HB2 := Lib.hid (HW.out.trans ((cellL_size hw2).mono HW.out.size))
      clear hw2
      go_wp2_with fail
      go_ret
      exact ⟨k, rfl, ⟨hk1, by have := HN.out; omega, (fun x' h => by rw [HX.out] at h; injection h with h; subst h; exact HS.out), (fun x' y' h h' => by have := (List.getElem?_eq_some_iff.1 h').1; have := HN.out; omega)⟩, HB2.out⟩
end Go.Proofs.Ytfjaklpddcafdaa

namespace Go.Proofs.Ytfjaklpddcafdaa
open Go.RowKit

theorem bestF_cons (p : Itm → Bool) (x : Itm) (l : List Itm) : bestF p (x :: l) = combO (keepO p x) (bestF p l) := by
  rw [show x :: l = [x] ++ l from rfl, bestF_append, bestF_one]
theorem bestF_filter {p q : Itm → Bool} (h : ∀ x, p x = true → q x = true) : ∀ l, bestF p (l.filter q) = bestF p l
  | [] => rfl
  | x :: l => by
    rw [List.filter_cons]
    cases hq : q x with
    | true => rw [if_pos rfl, bestF_cons, bestF_cons, bestF_filter h l]
    | false =>
      rw [if_neg (by simp), bestF_cons, bestF_filter h l]
      cases hp : p x with
      | true => rw [h x hp] at hq; cases hq
      | false => rw [keepO_no hp]; rfl
theorem bestF_congr {p q : Itm → Bool} : ∀ {l : List Itm}, (∀ x ∈ l, p x = q x) → bestF p l = bestF q l
  | [], _ => rfl
  | x :: l, h => by
    rw [bestF_cons, bestF_cons, bestF_congr fun y hy => h y (List.mem_cons_of_mem _ hy)]
    unfold keepO
    rw [h x (List.mem_cons_self ..)]
theorem bestF_has {p : Itm → Bool} : ∀ {l : List Itm} {x : Itm}, x ∈ l → p x = true → ∃ b, bestF p l = some b
  | [], _, h, _ => by cases h
  | y :: l, x, h, hx => by
    rw [bestF_cons]
    cases hy : p y with
    | true =>
      rw [keepO_yes hy]
      cases bestF p l with
      | none => exact ⟨y, combO_none _⟩
      | some z => cases hz : beatsI z y with
        | true => exact ⟨z, combO_yes hz⟩
        | false => exact ⟨y, combO_no hz⟩
    | false =>
      rw [keepO_no hy]
      rcases List.mem_cons.1 h with rfl | h
      · rw [hx] at hy; cases hy
      · obtain ⟨b, hb⟩ := bestF_has h hx
        exact ⟨b, hb⟩
theorem bestK_stab {a b : List Itm} (h : StabS ltK a b) (k : List UInt8) : bestK a k = bestK b k := by
  have e : ∀ l, bestF (ofK k) (l.filter (alikeS ltK ⟨k, ⟨0, 0⟩, 0, 0, false, []⟩)) = bestF (ofK k) l := bestF_filter fun x hx => by
    rw [ofK_iff] at hx
    rw [alikeS_iff]
    unfold ltK
    rw [hx.2]
    exact ⟨ltB_irrefl _, ltB_irrefl _⟩
  unfold bestK
  rw [← e a, h.2, e b]
theorem bestK_rights (l : List Itm) (k : List UInt8) : bestK (l.filter rightI) k = bestK l k := bestF_filter (fun _ hx => (ofK_iff.1 hx).1) l
theorem listI_snoc : ∀ {U : List Itm} {b : Itm}, listI U = true → rightI b = true → (∀ u ∈ U, ltB u.key b.key = true) → listI (U ++ [b]) = true
  | [], _, _, hb, _ => hb
  | u :: U, b, h, hb, hk => by
    refine listI_cons (listI_head h) (listI_snoc (listI_tail h) hb fun v hv => hk v (List.mem_cons_of_mem _ hv)) fun y hy => ?_
    rcases List.mem_append.1 hy with hy | hy
    · exact listI_above h hy
    · rw [List.mem_singleton] at hy; rw [hy]; exact hk u (List.mem_cons_self ..)
theorem findK_app (a b : List Itm) (k : List UInt8) : findK (a ++ b) k = (findK a k).or (findK b k) := List.find?_append
structure MrgAt (M : List Itm) (j : Nat) (U : List Itm) : Prop where
  list : listI U = true
  find : ∀ k, findK U k = bestK (M.take j) k
  far : ∀ x ∈ M.take j, ∀ y ∈ M.drop j, ltB x.key y.key = true
theorem MrgAt.start (M : List Itm) : MrgAt M 0 [] := ⟨rfl, fun _ => rfl, fun x hx => by simp at hx⟩
theorem MrgAt.done {M U : List Itm} {j : Nat} (h : MrgAt M j U) (hd : M.drop j = []) : U = mergeI M := by
  have e : M.take j = M := by have := List.take_append_drop j M; rw [hd, List.append_nil] at this; exact this
  exact mergeI_unique h.list fun k => by rw [h.find, e]
theorem MrgAt.step {M U : List Itm} {j k1 : Nat} {b : Itm} (hs : SortS ltK M) (h : MrgAt M j U) (ho : OneK (M.drop j) k1) (hb : bestF rightI ((M.drop j).take k1) = some b) : MrgAt M (j + k1) (U ++ [b]) := by
  obtain ⟨hp, hm, hsame, hnext⟩ := ho
  obtain ⟨x, hx⟩ : ∃ x, (M.drop j)[0]? = some x := ⟨_, List.getElem?_eq_getElem (by omega)⟩
  have hG : ∀ z ∈ (M.drop j).take k1, z.key = x.key := fun z hz => by
    obtain ⟨i, hi⟩ := List.mem_iff_getElem?.1 hz
    have hik : i < k1 := by have := (List.getElem?_eq_some_iff.1 hi).1; rw [List.length_take] at this; omega
    rw [List.getElem?_take_of_lt hik] at hi
    exact hsame x hx i z hik hi
  obtain ⟨hb1, hb2⟩ := bestF_mem hb
  have hbk := hG b hb1
  have hbd : b ∈ M.drop j := List.mem_of_mem_take hb1
  have ht : M.take (j + k1) = M.take j ++ (M.drop j).take k1 := List.take_add
  have hd : M.drop (j + k1) = (M.drop j).drop k1 := by rw [List.drop_drop]
  refine ⟨listI_snoc h.list hb2 fun u hu => ?_, fun k => ?_, fun u hu y hy => ?_⟩
  · have := findK_has h.list hu
    rw [h.find] at this
    exact h.far u (bestF_mem this).1 b hbd
  · rw [findK_app, h.find, ht, bestK_append]
    by_cases hk : b.key = k
    · have n1 : bestK (M.take j) k = none := by
        cases hf : bestK (M.take j) k with
        | none => rfl
        | some z =>
          obtain ⟨m1, m2⟩ := bestF_mem hf
          exact absurd ((ofK_iff.1 m2).2.trans hk.symm) (ltB_neq (h.far z m1 b hbd))
      have n2 : bestK ((M.drop j).take k1) k = some b := by
        rw [← hb]
        refine bestF_congr fun z hz => ?_
        unfold ofK
        rw [decide_eq_true ((hG z hz).trans (hbk.symm.trans hk)), Bool.and_true]
      rw [n1, n2, findK_yes hk]; rfl
    · have n2 : bestK ((M.drop j).take k1) k = none := by
        cases hf : bestK ((M.drop j).take k1) k with
        | none => rfl
        | some z =>
          obtain ⟨m1, m2⟩ := bestF_mem hf
          exact absurd (hbk.trans ((hG z m1).symm.trans (ofK_iff.1 m2).2)) hk
      rw [n2, findK_no hk, findK_nil, combO_none, Option.or_none]
  · rw [ht] at hu
    rw [hd] at hy
    have hyd : y ∈ M.drop j := List.mem_of_mem_drop hy
    rcases List.mem_append.1 hu with hu | hu
    · exact h.far u hu y hyd
    · rw [hG u hu]
      obtain ⟨i, hi⟩ := List.mem_iff_getElem?.1 hy
      rw [List.getElem?_drop] at hi
      have hil := (List.getElem?_eq_some_iff.1 hi).1
      obtain ⟨y0, hy0⟩ : ∃ y0, (M.drop j)[k1]? = some y0 := ⟨_, List.getElem?_eq_getElem (by omega)⟩
      have hne := hnext x y0 hx hy0
      have hsd : SortS ltK (M.drop j) := List.Pairwise.sublist (List.drop_sublist j M) hs
      have s1 := hsd.at_ stoK (i := 0) (j := k1) (by omega) hx hy0
      have s2 := hsd.at_ stoK (i := k1) (j := k1 + i) (by omega) hy0 hi
      have s3 : ltK x y0 = true := by
        rcases ltB_three x.key y0.key with ⟨h1, -, -⟩ | ⟨-, h1, -⟩ | ⟨-, -, h1⟩
        · exact h1
        · unfold ltK at s1; rw [h1] at s1; cases s1
        · exact absurd h1.symm hne
      cases hc : ltK x y
      · rw [stoK.ntrans _ _ _ hc s2] at s3; cases s3
      · exact hc
theorem merge_of {ls : List (List Itm)} {M : List Itm} (h : StabS ltK (ls.flatten.filter rightI) M) : mergeI M = mergeI ls.flatten :=
  mergeI_same fun k => by rw [← bestK_stab h, bestK_rights]
end Go.Proofs.Ytfjaklpddcafdaa

namespace Go.Proofs.Ytfjaklpddcafdaa
open Go.RowKit

set_option maxHeartbeats 4000000 in
set_option maxRecDepth 100000 in
theorem grow_items (n : Nat) (hn9 : n ≤ 400000) (w : World) :
    Calls Try.prog 43 #[.slice none 0 0, .int .i64 (n : Int)] w fun e w' => ∃ v, e = .returned v ∧ kItm.Own w' w.heap.size v [] ∧ Below w.heap.size w w' := by
  obtain ⟨i0, hi0, hz0, hz1, hz2⟩ := info_parts kItm.info
  have h1 : ¬ ((n : Int) < 0) := by omega
  by_cases h0 : n = 0
  · subst h0
    have fin : Hid (∃ v, (Ending.returned (.slice none 0 0) : Ending) = .returned v ∧ kItm.Own w w.heap.size v [] ∧ Below w.heap.size w w) := Lib.hid ⟨_, rfl, Kind.Own.nil _ _, Below.refl _ _⟩
    clear hi0 hz0 hz1 hz2
    go_enter Try.func43, Try.ntmps43
    go_wp2
    go_ret
    exact fin.out
  · have h4 : (n : Int) > 0 := by omega
    have hz2' : i0.bytes = 72 := hz2
    have hz1' : i0.size = 7 := hz1
    have hrz : ∀ ty, (Builtin.append_ #[22, 3] ty #[.slice none 0 0, .int .i64 (n : Int)]).run Try.prog w =
        .ok (.slice (some ⟨w.heap.size, 0, none⟩) n (grownCap w n 0 26)) (w.drew.alloc (.cells (Builtin.zeroCells kItm.zero.cells n ++ Builtin.zeroCells kItm.zero.cells (grownCap w n 0 26 - n)) 26)) := fun ty =>
      Lib.run_append_nil_zeros w 22 3 ty 26 i0 kItm.zero .i64 .i64 kItm.under Try.underlying3 hi0 hz0 n (by omega) (by omega) (by omega) (by rw [hz2']; omega)
    have hGn : n ≤ grownCap w n 0 26 := grownCap_ge w _ _ _
    have hGm : grownCap w n 0 26 ≤ maxLen := grownCap_le_maxLen w n 0 26 (by unfold maxLen; omega)
    obtain ⟨G, hG⟩ : ∃ G, G = grownCap w n 0 26 := ⟨_, rfl⟩
    rw [← hG] at hrz hGn hGm
    have hG63 : G ≤ 9223372036854775807 := by unfold maxLen at hGm; omega
    have K1 : ∀ W : World, (Instr.slice 22 (.slice none 0 0) none (some (.int .i64 0)) none).run Try.prog W = .ok (.slice none 0 0) W := fun W => by kernel_rfl
    have K2 : ∀ W : World, (Instr.slice 22 (.slice (some ⟨w.heap.size, 0, none⟩) n G) none (some (.int .i64 0)) none).run Try.prog W = .ok (.slice (some ⟨w.heap.size, 0, none⟩) 0 G) W := fun W => by
      have ht' : Try.prog.underlying 22 = some (.slice (Try.prog.elem 22)) := by simp [Program.elem, Try.underlying22]
      have hs : ∀ w, (sizeOf (Try.prog.elem 22)).run Try.prog w = .ok 7 w := fun w => by kernel_rfl
      rw [run_slice_h W 22 _ _ _ ht' .i64 _ (by omega) (by omega), hs]
      simp [Result.andThen, sliced, Addr.add]
    have zc (k : Nat) : (Builtin.zeroCells kItm.zero.cells k).size = k * 7 := size_zeroCells _ _
    obtain ⟨w2, hw2⟩ : ∃ w2, w2 = w.drew.alloc (.cells (Builtin.zeroCells kItm.zero.cells n ++ Builtin.zeroCells kItm.zero.cells (G - n)) 26) := ⟨_, rfl⟩
    rw [← hw2] at hrz
    have fin : Hid (∃ v, (Ending.returned (.slice (some ⟨w.heap.size, 0, none⟩) 0 G) : Ending) = .returned v ∧ kItm.Own w2 w.heap.size v [] ∧ Below w.heap.size w w2) := by
      rw [hw2]
      refine ⟨_, rfl, ?_, ((Below.refl w.heap.size w).drew).alloc (Nat.le_refl _) _⟩
      refine Kind.Own.of_row (n := 0) ⟨by simp [Kind.row], .inr ⟨w.heap.size, G, _, rfl, Nat.le_refl _, heap_new w.drew _ _ rfl, by omega, hGm, ?_, ?_⟩⟩
      · rw [Array.size_append, zc, zc]
        show n * 7 + (G - n) * 7 = G * 7
        omega
      · simp [Kind.row]
    clear hG hGm zc hz0 hz1 hz2 hi0 hw2 hz1' hz2'
    go_enter Try.func43, Try.ntmps43
    go_wp2_with (at_builtin; refine Lib.wpList_append_run _ rfl _ _ _ _ rfl _ _ rfl rfl _ _ (hrz _) ?_)
    go_ret
    exact fin.out
theorem flat_lenI (ls : List (List Itm)) (k : Nat) : (ls.take k).flatten.length ≤ ls.flatten.length := by
  have e : ls.flatten = (ls.take k).flatten ++ (ls.drop k).flatten := by rw [← List.flatten_append, List.take_append_drop]
  rw [e, List.length_append]; omega
theorem take_flatI {ls : List (List Itm)} {k : Nat} {l : List Itm} (h : ls[k]? = some l) : (ls.take (k + 1)).flatten = (ls.take k).flatten ++ l := by
  rw [List.take_add_one, h, List.flatten_append]; simp
theorem slices_atI {w : World} {B : Nat} {A : Option Addr} {c : Nat} {ls : List (List Itm)} (h : RdLI w B A c ls) {k : Nat} {l : List Itm} (hl : ls[k]? = some l) :
    ∃ b o A1 n1 c1, A = some ⟨b, o, none⟩ ∧ b < B ∧ w.cell? ⟨b, o + k, none⟩ = some (.slice A1 n1 c1) ∧ n1 = l.length ∧ kItm.Rd w B A1 c1 l := by
  obtain ⟨sl, h1, h2, h3⟩ := h
  have hk : k < ls.length := (List.getElem?_eq_some_iff.1 hl).1
  have hs : sl[k]? = some sl[k] := List.getElem?_eq_getElem (by omega)
  obtain ⟨b, o, e1, e2, e3⟩ := h1.at_ (by omega)
  obtain ⟨h4, h5⟩ := h3 k _ l hs hl
  have h6 := e3 k _ hs 0 _ rfl
  rw [show kSlI.size = 1 from rfl, Nat.mul_one, Nat.add_zero] at h6
  exact ⟨b, o, _, _, _, e1, e2, h6, h4, h5⟩
theorem RdLI.roomI {w : World} {B : Nat} {A : Option Addr} {c : Nat} {ls : List (List Itm)} (h : RdLI w B A c ls) : ls.length ≤ c := by
  obtain ⟨sl, h1, h2, _⟩ := h
  rw [← h2]; exact h1.room
set_option maxHeartbeats 4000000 in
set_option maxRecDepth 100000 in
theorem concat_items (A : Option Addr) (c m : Nat) (ls : List (List Itm)) (hm : m = ls.length) (h9 : m ≤ 100000) (hl : ls.flatten.length ≤ 400000) (w : World) (hr : RdLI w w.heap.size A c ls) :
    Calls Try.prog 35 #[.slice A m c] w fun e w' => ∃ v, e = .returned v ∧ kItm.Own w' w.heap.size v ls.flatten ∧ Below w.heap.size w w' := by
  have HM := Lib.hid hm
  have HR := Lib.hid hr
  have HL := Lib.hid hl
  have hmc : m ≤ c := by rw [hm]; exact hr.roomI
  clear hm hr hl
  go_enter Try.func35, Try.ntmps35
  go_wp2_with fail
  go_loop [3, 11] (fun s i => ∃ k t : Nat, k ≤ m ∧ Hid (t = (ls.take k).flatten.length) ∧ t ≤ 400000 ∧ s = .int .i64 t ∧ i = .int .i64 k) (fun _ i => m - (intOf i).toNat)
  case atStart => exact ⟨0, 0, by omega, rfl, by omega, rfl, rfl⟩
  case round =>
    obtain ⟨k, t, hk, HT, ht, rfl, rfl⟩ := hrel
    by_cases hlt : k < m
    · obtain ⟨l, hg, hd, hlm⟩ := get_some (l := ls) (k := k) (by have := HM.out; omega)
      obtain ⟨b, o, A1, n1, c1, rfl, hb1, c0, hn1, -⟩ := slices_atI HR.out hg
      have HT2 := Lib.hid (show t + n1 = (ls.take (k + 1)).flatten.length by rw [take_flatI hg, List.length_append, ← HT.out, hn1])
      have ht2 : t + n1 ≤ 400000 := by have h1 := flat_lenI ls (k + 1); have h2 := HT2.out; have h3 := HL.out; omega
      have t1 : decide (((t + n1 : Nat) : Int) < 0) = false := decide_eq_false (by omega)
      have t2 : decide ((t : Int) + (n1 : Int) < 0) = false := decide_eq_false (by omega)
      clear hg hd hlm hn1 HT
      go_wp2_with fail
      go_round
      case rel => exact ⟨k + 1, t + n1, by omega, HT2, ht2, by go_num, by go_num⟩
      case measure => simp [intOf]; omega
    · obtain rfl : k = m := by omega
      have ht9 : t ≤ 400000 := by omega
      have G := Lib.hid (grow_items t ht9 w)
      clear hlt HT
      go_wp2_with ((with_reducible refine G.out.mono ?_); rintro e w1 ⟨v, rfl, hown, hq⟩; have HO := Lib.hid hown; have HB := Lib.hid hq; clear hown hq)
      go_loopw [6, 27] (fun v i wr => ∃ j : Nat, j ≤ k ∧ Hid (kItm.Own wr w.heap.size v (ls.take j).flatten) ∧ i = .int .i64 j ∧ Hid (Below w.heap.size w wr)) (fun _ i _ => k - (intOf i).toNat)
      case atStart => exact ⟨0, by omega, HO.out, rfl, HB.out⟩
      case round =>
        obtain ⟨j, hj, HO, rfl, HB⟩ := hrel
        obtain ⟨N, hN⟩ : ∃ N, (ls.take j).flatten.length = N := ⟨_, rfl⟩
        obtain ⟨A4, c4, rfl, -⟩ := HO.out.read_n hN.symm
        have HNN := Lib.hid hN
        clear hN
        by_cases hlt : j < k
        · obtain ⟨l, hg, hd, hlm⟩ := get_some (l := ls) (k := j) (by have := HM.out; omega)
          obtain ⟨b, o, A1, n1, c1, rfl, hb1, c0, hn1, hrd⟩ := slices_atI (HR.out.call HB.out) hg
          have HX := Lib.hid (take_flatI hg)
          have HRW := Lib.hid (And.intro hn1 hrd.row)
          have HLE := Lib.hid (show (ls.take j).flatten.length + l.length ≤ 1000000 by
            have h1 := flat_lenI ls (j + 1)
            rw [HX.out, List.length_append] at h1
            have h2 := HL.out
            omega)
          have hs := HB.out.size
          clear hg hd hlm hn1 hrd
          go_wp2_with (at_builtin; refine wpList_app_k kItm rfl (.tmp 31) (.tmp 32) rfl w.heap.size _ _ rfl HO.out _ A1 c1 n1 l HRW.out.1 rfl HRW.out.2 HLE.out (by decide) hs ?_; intro v3 w3 hown3 hg3 hb3 _; have HO3 := Lib.hid hown3; have HB3 := Lib.hid (HB.out.trans hb3); clear hown3 hb3 hg3)
          go_roundw
          case rel => exact ⟨j + 1, by omega, by rw [HX.out]; exact HO3, by go_num, HB3⟩
          case measure => simp [intOf]; omega
        · obtain rfl : j = k := by omega
          have HF := Lib.hid (show (ls.take j).flatten = ls.flatten by rw [List.take_of_length_le (by have := HM.out; omega)])
          go_wp2_with fail
          go_ret
          exact ⟨_, rfl, by rw [← HF.out]; exact HO.out, HB.out⟩
end Go.Proofs.Ytfjaklpddcafdaa
