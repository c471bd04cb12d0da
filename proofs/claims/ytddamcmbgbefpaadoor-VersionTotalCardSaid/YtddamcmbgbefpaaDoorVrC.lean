/-
  Layer 12 (version), the program: is a version right, and which of two is ahead.
-/
import Derived.Test.YtddamcmbgbefpaaDoorLaw12A
namespace Go.Proofs.YtddamcmbgbefpaaDoor
open Go.RowKit

set_option maxRecDepth 100000 in
theorem k_vright : VRightC 9 := by
  intro v x y hx hy z hz w
  unfold rightVr at hz
  rw [hx, hy] at hz
  have HB := Lib.hid (below_new w (.cells #[.int .i64 x, .int .i64 y] 23))
  obtain ⟨b1, h1⟩ : ∃ b, decide (1 ≤ x) = b := ⟨_, rfl⟩
  obtain ⟨b2, h2⟩ : ∃ b, decide (x ≤ 16) = b := ⟨_, rfl⟩
  obtain ⟨b3, h3⟩ : ∃ b, decide (1 ≤ y) = b := ⟨_, rfl⟩
  obtain ⟨b4, h4⟩ : ∃ b, decide (y ≤ 1099511627776) = b := ⟨_, rfl⟩
  rw [h1, h2, h3, h4] at hz
  subst hz
  clear hx hy
  cases b1
  case' true =>
    cases b2
    case' true =>
      cases b3
      case' true =>
        cases b4
  all_goals
    go_enter Tryd.func9, Tryd.ntmps9
    go_wp2_with fail
    go_ret
    exact ⟨rfl, HB.out⟩
def cmpQ : Bool → Bool → Int
  | true, _ => 0
  | false, true => -1
  | false, false => 1
theorem cmpVr_by {a b : Vr} {x y u v : Int} (hx : a.rep = x) (hy : a.cnt = y) (hu : b.rep = u) (hv : b.cnt = v) {q b1 b2 b3 : Bool} (hq : (x == u && y == v) = q) (h1 : decide (x < u) = b1) (h2 : (x == u) = b2) (h3 : decide (y < v) = b3) :
    cmpVr a b = cmpQ q (b1 || (b2 && b3)) := by
  subst hx hy hu hv hq h1 h2 h3
  rcases cmpVr_num a b with ⟨h, h'⟩ | ⟨h, h'⟩ | ⟨h, h'⟩
  · rw [h]
    have e1 : (a.rep == b.rep && a.cnt == b.cnt) = false := by
      rw [Bool.eq_false_iff]; intro e; simp at e; omega
    have e2 : (decide (a.rep < b.rep) || (a.rep == b.rep && decide (a.cnt < b.cnt))) = true := by
      rcases h' with h' | ⟨h', h''⟩ <;> simp [*]
    rw [e1, e2]; rfl
  · rw [h]
    have e1 : (a.rep == b.rep && a.cnt == b.cnt) = false := by
      rw [Bool.eq_false_iff]; intro e; simp at e; omega
    have e2 : (decide (a.rep < b.rep) || (a.rep == b.rep && decide (a.cnt < b.cnt))) = false := by
      rw [Bool.eq_false_iff]; intro e; simp at e; omega
    rw [e1, e2]; rfl
  · rw [h]
    have e1 : (a.rep == b.rep && a.cnt == b.cnt) = true := by simp [h'.1, h'.2]
    rw [e1]; rfl
set_option maxRecDepth 100000 in
theorem k_vcmp : VCmpC 11 := by
  intro a b x y u v hx hy hu hv z hz w
  have HB := Lib.hid ((below_new w (.cells #[.int .i64 x, .int .i64 y] 23)).alloc (by simp) (.cells #[.int .i64 u, .int .i64 v] 23))
  obtain ⟨q, hq⟩ : ∃ q, (x == u && y == v) = q := ⟨_, rfl⟩
  obtain ⟨b1, h1⟩ : ∃ b, decide (x < u) = b := ⟨_, rfl⟩
  obtain ⟨b2, h2⟩ : ∃ b, (x == u) = b := ⟨_, rfl⟩
  obtain ⟨b3, h3⟩ : ∃ b, decide (y < v) = b := ⟨_, rfl⟩
  have K := cmpVr_by hx hy hu hv hq h1 h2 h3
  rw [hz] at K
  subst K
  have EQ := fun w => eq_vr x y u v q hq w
  clear hx hy hu hv hz hq
  cases q
  case' false =>
    cases b1
    case' false =>
      cases b2
      case' true =>
        cases b3
  all_goals
    go_enter Tryd.func11, Tryd.ntmps11
    go_wp2_with fail
    go_ret
    exact ⟨rfl, HB.out⟩
end Go.Proofs.YtddamcmbgbefpaaDoor
